/- The law on LeastGenus, walked out of the contracts: it returns true, whatever lies in memory. -/
import Derived.Test.YtpadnliebimceaaFacR
import Derived.Test.YtpadnliebimceaaPartsS
import Derived.Test.YtpadnliebimceaaSpecAt
import Derived.Deep.AppendLies
import Derived.Laws.BitsAllLaws
import Derived.Test.YtpadnliebimceaaGenQ
import Derived.Test.YtpadnliebimceaaLawsF
import Derived.Deep.RegionWith
import Derived.Deep.DeepCutAuto

/- The mirror image of a rotation has as many faces; so the least genus is that of the rotations with 0 at the last vertex. -/
namespace Go.Proofs.Ytpadnliebimceaa
open Go.RowKit

def revD (d : Nat) : Nat := if d % 2 = 0 then d + 1 else d - 1
theorem rev_rev (d : Nat) : revD (revD d) = d := by unfold revD; split <;> split <;> omega
theorem rev_half (d : Nat) : revD d / 2 = d / 2 := by unfold revD; split <;> omega
theorem rev_lt {n d : Nat} (h : d < 2 * n) : revD d < 2 * n := by unfold revD; split <;> omega
theorem toD_rev (es : List (Int × Int)) (d : Nat) : toD es (revD d) = frD es d := by
  unfold toD frD
  rw [rev_half]
  unfold revD
  by_cases h : d % 2 = 0
  · rw [if_pos h, if_pos h, if_neg (by omega)]
  · rw [if_neg h, if_neg h, if_pos (by omega)]
theorem frD_rev (es : List (Int × Int)) (d : Nat) : frD es (revD d) = toD es d := by
  rw [← toD_rev, rev_rev]
theorem dir_same {N : Nat} {es : List (Int × Int)} (g : IsG (N : Int) es) {a b : Nat} (ha : a < 2 * es.length) (h1 : a / 2 = b / 2) (h2 : frD es a = frD es b) : a = b := by
  have hok := g.1.2 (a / 2) (by omega)
  unfold okEdge at hok
  unfold frD at h2
  rw [← h1] at h2
  by_cases e1 : a % 2 = 0 <;> by_cases e2 : b % 2 = 0
  · omega
  · rw [if_pos e1, if_neg e2] at h2; exact absurd h2 hok.2.2.2.2
  · rw [if_neg e1, if_pos e2] at h2; exact absurd h2.symm hok.2.2.2.2
  · omega

/-- Two rotations that are each other's mirror image. -/
def mirP (N : Nat) (xs ys : List Int) : Prop := ∀ i, i < N → (eI xs i = 0 ∧ eI ys i = 1) ∨ (eI xs i = 1 ∧ eI ys i = 0)
theorem mir_next {N : Nat} {es : List (Int × Int)} {xs ys : List Int} (g : IsG (N : Int) es) (hm : mirP N xs ys) {d : Nat} (hd : d < 2 * es.length) : nxD es ys (revD (nxD es xs d)) = revD d := by
  obtain ⟨i, j, h1, h2, h3, h4, h5, h6, h7⟩ := nxD_at (xs := xs) g hd
  obtain ⟨t1, t2, t3⟩ := toD_in g hd
  obtain ⟨l1, l2, l3⟩ := onL_getD g t1
  have hdl : nxD es xs d < 2 * es.length := (perm_nxD g).lt d hd
  have hrl := rev_lt hdl
  obtain ⟨i', j', k1, k2, k3, k4, k5, k6, k7⟩ := nxD_at (xs := ys) g hrl
  have hv : toD es (revD (nxD es xs d)) = toD es d := by rw [toD_rev, h6]
  rw [hv] at k2 k3 k4 k5 k6
  rw [rev_half, h5] at k2
  have hj3 : j < 3 := by rw [h4]; exact Nat.mod_lt _ (by decide)
  have hij : i' = j := by
    rw [List.getD_eq_getElem?_getD, List.getD_eq_getElem?_getD, List.getElem?_eq_getElem (by omega), List.getElem?_eq_getElem (by omega)] at k2
    exact (List.getElem_inj l2).1 k2
  have hmv := hm (toD es d).toNat (by omega)
  have hj' : j' = i := by
    rcases hmv with ⟨e1, e2⟩ | ⟨e1, e2⟩ <;> (rw [e1] at h4; rw [e2] at k4; simp at h4 k4; omega)
  rw [hj', h2] at k5
  refine dir_same g ((perm_nxD g).lt _ hrl) ?_ ?_
  · rw [k5, rev_half]
  · rw [k6, frD_rev]

/-- As many orbits: what comes behind in the one comes ahead in the other one. -/
theorem orb_rev {f h : Nat → Nat} {n : Nat} (pf : PermN f n) (ph : PermN h n) {r : Nat → Nat} (hr : ∀ d, d < n → r d < n) (hfh : ∀ d, d < n → h (r (f d)) = r d) {x y : Nat} (hx : x < n) (hy : y ∈ orbN f n x) : r y ∈ orbN h n (r x) := by
  obtain ⟨k, rfl⟩ := (orb_iff pf hx y).1 hy
  have key : ∀ k, itN h (r (itN f x k)) k = r x := by
    intro k
    induction k with
    | zero => rfl
    | succ k ih =>
      have e : itN h (r (itN f x (k + 1))) (k + 1) = itN h (h (r (f (itN f x k)))) k := by
        rw [show k + 1 = 1 + k by omega, it_add, show 1 + k = k + 1 by omega]
        rfl
      rw [e, hfh _ (it_lt pf hx k), ih]
  exact orb_symm ph (hr _ (it_lt pf hx k)) ((orb_iff ph (hr _ (it_lt pf hx k)) _).2 ⟨k, key k⟩)

def leadL (nx : Nat → Nat) (n : Nat) : List Nat := (List.range n).filter fun d => !metF nx n d d
theorem leadL_len (nx : Nat → Nat) (n : Nat) : (facN nx n n).length = (leadL nx n).length := by
  unfold facN leadL
  rw [List.length_map]
theorem lead_at {nx : Nat → Nat} {n : Nat} (p : PermN nx n) {x : Nat} (hx : x < n) : ∃ d, d ∈ leadL nx n ∧ x ∈ orbN nx n d := by
  induction x using Nat.strongRecOn with
  | ind x ih =>
    cases hm : metF nx n x x
    · exact ⟨x, by unfold leadL; rw [List.mem_filter, List.mem_range]; exact ⟨hx, by rw [hm]; rfl⟩, orb_self p hx⟩
    · obtain ⟨d, h1, h2⟩ := metF_iff.1 hm
      obtain ⟨e, h3, h4⟩ := ih d h1 (by omega)
      have he : e < n := by unfold leadL at h3; rw [List.mem_filter, List.mem_range] at h3; exact h3.1
      exact ⟨e, h3, orb_trans p he h4 h2⟩
theorem lead_one {nx : Nat → Nat} {n : Nat} (p : PermN nx n) {a b : Nat} (ha : a ∈ leadL nx n) (hb : b ∈ leadL nx n) (h : b ∈ orbN nx n a) : a = b := by
  unfold leadL at ha hb
  rw [List.mem_filter, List.mem_range] at ha hb
  have na : metF nx n a a = false := by simpa using ha.2
  have nb : metF nx n b b = false := by simpa using hb.2
  rcases Nat.lt_trichotomy a b with hl | rfl | hl
  · exact absurd (metF_iff.2 ⟨a, hl, h⟩) (by rw [nb]; simp)
  · rfl
  · exact absurd (metF_iff.2 ⟨b, hl, orb_symm p ha.1 h⟩) (by rw [na]; simp)
theorem nodup_leG : ∀ {A B : List Nat}, A.Nodup → (∀ x, x ∈ A → x ∈ B) → A.length ≤ B.length
  | [], _, _, _ => Nat.zero_le _
  | a :: A, B, hn, hs => by
    have hn := List.nodup_cons.1 hn
    have hm := hs a (by simp)
    have h := nodup_leG (A := A) (B := B.erase a) hn.2 fun x hx => by
      refine (List.mem_erase_of_ne ?_).2 (hs x (by simp [hx]))
      rintro rfl
      exact hn.1 hx
    rw [List.length_erase_of_mem hm] at h
    have := List.length_pos_of_mem hm
    simp only [List.length_cons]
    omega
theorem leads_le {f h : Nat → Nat} {n : Nat} (pf : PermN f n) (ph : PermN h n) {r : Nat → Nat} (hr : ∀ d, d < n → r d < n) (hrr : ∀ d, r (r d) = d) (hhf : ∀ d, d < n → f (r (h d)) = r d) : (leadL f n).length ≤ (leadL h n).length := by
  have hlt : ∀ {nx : Nat → Nat} {d}, d ∈ leadL nx n → d < n := fun hd => by unfold leadL at hd; rw [List.mem_filter, List.mem_range] at hd; exact hd.1
  let q : Nat → Nat := fun d => ((leadL h n).find? fun e => decide (r d ∈ orbN h n e)).getD 0
  have hq : ∀ d, d ∈ leadL f n → q d ∈ leadL h n ∧ r d ∈ orbN h n (q d) := fun d hd => by
    obtain ⟨e, h1, h2⟩ := lead_at ph (hr d (hlt hd))
    cases hc : (leadL h n).find? fun e => decide (r d ∈ orbN h n e) with
    | none =>
      have := List.find?_eq_none.1 hc e h1
      exact absurd (decide_eq_true h2) this
    | some x =>
      have e1 : q d = x := by show (((leadL h n).find? fun e => decide (r d ∈ orbN h n e)).getD 0) = x; rw [hc]; rfl
      rw [e1]
      have hs := List.find?_some hc
      exact ⟨List.mem_of_find?_eq_some hc, of_decide_eq_true hs⟩
  have hinj : ∀ a b, a ∈ leadL f n → b ∈ leadL f n → q a = q b → a = b := fun a b ha hb e => by
    obtain ⟨a1, a2⟩ := hq a ha
    obtain ⟨b1, b2⟩ := hq b hb
    rw [← e] at b2
    have hqa := hlt a1
    have h3 : r b ∈ orbN h n (r a) := orb_trans ph (hr a (hlt ha)) (orb_symm ph hqa a2) b2
    have h4 := orb_rev ph pf hr hhf (hr a (hlt ha)) h3
    rw [hrr, hrr] at h4
    exact lead_one pf ha hb h4
  have hnd : ∀ nx, (leadL nx n).Nodup := fun nx => by unfold leadL; exact (List.nodup_range (n := n)).sublist List.filter_sublist
  have hmap : ((leadL f n).map q).Nodup := by
    have key : ∀ L : List Nat, L.Nodup → (∀ x, x ∈ L → x ∈ leadL f n) → (L.map q).Nodup := by
      intro L
      induction L with
      | nil => intro _ _; exact List.nodup_nil
      | cons a L ih =>
        intro hn hs
        have hn := List.nodup_cons.1 hn
        rw [List.map_cons, List.nodup_cons]
        refine ⟨fun hm => ?_, ih hn.2 fun x hx => hs x (by simp [hx])⟩
        obtain ⟨b, hb, e⟩ := List.mem_map.1 hm
        have := hinj b a (hs b (by simp [hb])) (hs a (by simp)) e
        exact hn.1 (this ▸ hb)
    exact key _ (hnd f) fun _ h => h
  have := nodup_leG hmap fun x hx => by
    obtain ⟨d, hd, rfl⟩ := List.mem_map.1 hx
    exact (hq d hd).1
  rwa [List.length_map] at this
theorem mirP_symm {N : Nat} {xs ys : List Int} (h : mirP N xs ys) : mirP N ys xs := fun i hi => by have := h i hi; omega
theorem gen_mir {N : Nat} {es : List (Int × Int)} {xs ys : List Int} (g : IsG (N : Int) es) (hm : mirP N xs ys) : genR N es xs = genR N es ys := by
  have h : (leadL (nxD es xs) (2 * es.length)).length = (leadL (nxD es ys) (2 * es.length)).length :=
    Nat.le_antisymm (leads_le (perm_nxD g) (perm_nxD g) (fun d hd => rev_lt hd) rev_rev (fun d hd => mir_next g (mirP_symm hm) hd))
      (leads_le (perm_nxD g) (perm_nxD g) (fun d hd => rev_lt hd) rev_rev (fun d hd => mir_next g hm hd))
  unfold genR faceL
  rw [List.length_map, List.length_map, leadL_len, leadL_len, h]

/-- The rotation of the binary digits of a number. -/
def rotL (N d : Nat) : List Int := (List.range N).map fun v => ((d / 2 ^ v % 2 : Nat) : Int)
theorem rotL_len (N d : Nat) : (rotL N d).length = N := by simp [rotL]
theorem rotL_at {N d v : Nat} (h : v < N) : eI (rotL N d) v = ((d / 2 ^ v % 2 : Nat) : Int) := by
  rw [eI_lt (by rw [rotL_len]; exact h)]
  simp [rotL]
theorem rotL_rot (N d : Nat) : rotP N (rotL N d) := ⟨rotL_len N d, fun i hi => by rw [rotL_at hi]; omega⟩
theorem rotL_mir {N d : Nat} (hd : d < 2 ^ N) : mirP N (rotL N d) (rotL N (2 ^ N - (d + 1))) := fun i hi => by
  rw [rotL_at hi, rotL_at hi]
  have h := Nat.testBit_two_pow_sub_succ hd i
  rw [Nat.testBit_eq_decide_div_mod_eq, Nat.testBit_eq_decide_div_mod_eq, decide_eq_true hi, Bool.true_and] at h
  by_cases e : d / 2 ^ i % 2 = 1
  · rw [decide_eq_true e] at h
    have := of_decide_eq_false h
    omega
  · rw [decide_eq_false e] at h
    have := of_decide_eq_true h
    omega
/-- The least of a number and the first k ones of others. -/
def minT (a : Int) (G : Nat → Int) : Nat → Int
  | 0 => a
  | k + 1 => min (minT a G k) (G k)
theorem minT_le (a : Int) (G : Nat → Int) : ∀ k, minT a G k ≤ a ∧ ∀ i, i < k → minT a G k ≤ G i
  | 0 => ⟨Int.le_refl _, fun i hi => by omega⟩
  | k + 1 => by
    have h := minT_le a G k
    refine ⟨?_, fun i hi => ?_⟩
    · show min _ _ ≤ _
      omega
    · show min _ _ ≤ _
      rcases (by omega : i < k ∨ i = k) with h2 | rfl
      · have := h.2 i h2; omega
      · omega
theorem minT_is (a : Int) (G : Nat → Int) : ∀ k, minT a G k = a ∨ ∃ i, i < k ∧ minT a G k = G i
  | 0 => .inl rfl
  | k + 1 => by
    rcases (by show min _ _ = minT a G k ∨ min _ _ = G k; omega : minT a G (k + 1) = minT a G k ∨ minT a G (k + 1) = G k) with h | h
    · rw [h]
      rcases minT_is a G k with h2 | ⟨i, h2, h3⟩
      · exact .inl h2
      · exact .inr ⟨i, by omega, h3⟩
    · exact .inr ⟨k, by omega, h⟩
theorem gen_le {N : Nat} {es : List (Int × Int)} (g : IsG (N : Int) es) (xs : List Int) : genR N es xs ≤ N := by
  have h := g.1.1
  unfold okSize at h
  unfold genR
  obtain ⟨F, hF⟩ : ∃ F : Nat, (faceL (nxD es xs) (2 * es.length) (2 * es.length)).length = F := ⟨_, rfl⟩
  rw [hF]
  by_cases h0 : 0 ≤ 2 - (N : Int) + (es.length : Int) - (F : Int)
  · rw [Int.tdiv_eq_ediv_of_nonneg h0]
    omega
  · obtain ⟨X, hX⟩ : ∃ X, 2 - (N : Int) + (es.length : Int) - (F : Int) = X := ⟨_, rfl⟩
    rw [hX] at h0 ⊢
    have h2 := Int.neg_tdiv (a := -X) (b := 2)
    rw [Int.neg_neg, Int.tdiv_eq_ediv_of_nonneg (show 0 ≤ -X by omega)] at h2
    rw [h2]
    omega
theorem least_same {N : Nat} {es : List (Int × Int)} (g : IsG (N : Int) es) :
    minT (N : Int) (fun d => genR N es (rotL N d)) (2 ^ (N - 1)) = minT (genR N es (rotL N 0)) (fun d => genR N es (rotL N d)) (2 ^ N) := by
  have hN : 2 ≤ N := by have := g.1.1.1; omega
  have hp : 2 ^ N = 2 * 2 ^ (N - 1) := by
    obtain ⟨M, rfl⟩ : ∃ M, N = M + 1 := ⟨N - 1, by omega⟩
    rw [Nat.pow_succ, Nat.add_sub_cancel]
    omega
  have hp1 : 1 ≤ 2 ^ (N - 1) := Nat.one_le_two_pow
  obtain ⟨P, hP⟩ : ∃ P, 2 ^ (N - 1) = P := ⟨_, rfl⟩
  rw [hP] at hp hp1 ⊢
  obtain ⟨Q, hQ⟩ : ∃ Q, 2 ^ N = Q := ⟨_, rfl⟩
  have a1 := minT_le (N : Int) (fun d => genR N es (rotL N d)) P
  have a2 := minT_is (N : Int) (fun d => genR N es (rotL N d)) P
  have b1 := minT_le (genR N es (rotL N 0)) (fun d => genR N es (rotL N d)) (2 ^ N)
  have b2 := minT_is (genR N es (rotL N 0)) (fun d => genR N es (rotL N d)) (2 ^ N)
  have all : ∀ d, d < 2 ^ N → minT (N : Int) (fun d => genR N es (rotL N d)) P ≤ genR N es (rotL N d) := fun d hd => by
    by_cases h : d < P
    · exact a1.2 d h
    · rw [gen_mir g (rotL_mir hd)]
      exact a1.2 (2 ^ N - (d + 1)) (by omega)
  refine Int.le_antisymm ?_ ?_
  · rcases b2 with h | ⟨i, h, h2⟩
    · rw [h]; exact all 0 (by omega)
    · rw [h2]; exact all i h
  · rcases a2 with h | ⟨i, h, h2⟩
    · rw [h]
      exact Int.le_trans (b1.2 0 (by omega)) (gen_le g _)
    · rw [h2]
      exact b1.2 i (by omega)

def fLeastGenus (s : Int) (es : List (Int × Int)) : Int × Int :=
  if IsG s es then (if numP s.toNat es = 1 then (if 10 < s then (0, 3) else (minT s (fun d => genR s es (rotL s.toNat d)) (2 ^ (s.toNat - 1)), 0)) else (0, 5)) else (0, 1)

end Go.Proofs.Ytpadnliebimceaa

/- LeastGenus in the model. -/
namespace Go.Proofs.Ytpadnliebimceaa
open Go.RowKit Go.Lib

theorem pow_smallG {v : Nat} (hv : v < 20) : 2 ^ v < 1048576 := by
  have h := Nat.pow_lt_pow_right (a := 2) (by omega) hv
  simpa using h
theorem wrap_powG {V : Nat} (hV : V < 20) : wrap64 (2 ^ V) = 2 ^ V := by
  have h1 := pow_smallG hV
  have h2 : ((2 : Int) ^ V) = ((2 ^ V : Nat) : Int) := by simp
  rw [h2]
  obtain ⟨p, hp⟩ : ∃ p, 2 ^ V = p := ⟨_, rfl⟩
  rw [hp] at h1 ⊢
  exact IntWalk.wrap64_in _ (by omega)

theorem shl_powG {V : Nat} (hV : V < 20) : IntKind.i64.wrap (2 ^ min (IntKind.u64.wrap (V : Int)).toNat 64) = 2 ^ V := by
  have h : IntKind.u64.wrap (V : Int) = (V : Int) := by rw [IntKind.wrap_u64]; omega
  rw [h, Int.toNat_natCast, Nat.min_eq_left (by omega), IntWalk.i64_left]
  exact wrap_powG hV

theorem i64_and_natG (a b : Nat) (ha : a < 9223372036854775808) (hb : b < 9223372036854775808) : bits .and .i64 (a : Int) (b : Int) = ((a &&& b : Nat) : Int) := by
  have hx : a &&& b < 2 ^ 63 := Nat.and_lt_two_pow _ (by omega)
  show IntKind.i64.wrap ((BitVec.ofInt 64 (a : Int) &&& BitVec.ofInt 64 (b : Int)).toNat : Int) = _
  rw [BitVec.toNat_and, ofInt_u64 a (by omega), ofInt_u64 b (by omega)]
  exact IntWalk.i64_in _ (by omega)
theorem bit_and (d k : Nat) (hd : d < 1048576) : bits .and .i64 ((d : Int) / 2 ^ k) 1 = ((d / 2 ^ k % 2 : Nat) : Int) := by
  have h2 : ((d : Int) / 2 ^ k) = ((d / 2 ^ k : Nat) : Int) := by simp
  have h3 : d / 2 ^ k ≤ d := Nat.div_le_self _ _
  rw [h2, show (1 : Int) = ((1 : Nat) : Int) from rfl, i64_and_natG _ _ (by omega) (by omega), Nat.and_one_is_mod]
theorem row_new_intG (w : World) : (w.alloc (.cells #[] 2)).ownsRow w.heap.size 2 1 (.slice (some ⟨w.heap.size, 0, none⟩) 0 0) 0 [] := by
  have h := World.ownsRow_made (base := w.heap.size) (e := 2) (size := 1) w #[] 0 (by omega) (Nat.zero_le _) rfl
  simpa only [World.size_alloc] using h

set_option maxRecDepth 100000 in
set_option maxHeartbeats 4000000 in
theorem sLg_not (s : Int) (p : Option Addr) (n c : Nat) (es : List (Int × Int)) (w : World) (hm : n ≤ 1048576) (hn : es.length = n) (hr : SeesE w p es) (g : ¬ IsG s es) :
    Calls Try.prog 28 #[.agg #[.int .i64 s, .slice p n c]] w fun e' w' => e' = .returned (.tuple #[.int .i64 0, .int .i64 1]) ∧ Below w.heap.size w w' := by
  have Hn := hid hn
  have Hr := hid hr
  have G := hid g
  clear hn hr g
  go_enter Try.func28, Try.ntmps28
  go_wp2_with fail
  refine (sIs_any _ _ _ _ es _ (by omega) Hn.out (Hr.out.on (on_alloc _ _))).mono ?_
  rw [decide_eq_false G.out]
  rintro e w2 ⟨rfl, hb2⟩
  have HB2 := hid (bfrom (w := w) (on_alloc _ _) hb2)
  clear hb2
  go_wp2
  go_ret2
  exact ⟨rfl, HB2.out⟩

set_option maxRecDepth 100000 in
set_option maxHeartbeats 8000000 in
theorem sLg_yes (N b off n c : Nat) (es : List (Int × Int)) (w : World) (hn : es.length = n) (hr : ReadsE w b off es) (g : IsG N es) :
    Calls Try.prog 28 #[.agg #[.int .i64 N, .slice (some ⟨b, off, none⟩) n c]] w fun e' w' => e' = .returned (.tuple #[.int .i64 (fLeastGenus N es).1, .int .i64 (fLeastGenus N es).2]) ∧ Below w.heap.size w w' := by
  have hk20 : N ≤ 20 := by have := g.1.1.2.1; omega
  have hk2 : 2 ≤ N := by have := g.1.1.1; omega
  have hn30 : n ≤ 30 := by have := isG_len g; omega
  have hei : EndsIn N es := endsIn_of g
  unfold fLeastGenus
  rw [if_pos g, Int.toNat_natCast]
  have Hn := hid hn
  have Hr := hid hr
  have G := hid g
  have EI := hid hei
  obtain ⟨GF, hGF⟩ : ∃ GF : Nat → Int, GF = fun d => genR N es (rotL N d) := ⟨_, rfl⟩
  rw [← hGF]
  have HGF := hid hGF
  obtain ⟨i0, hi, hz0, hz1, hz2⟩ := info_parts infoInt
  have Hi := hid hi
  clear hn hr g hei hGF hi
  by_cases gc : numP N es = 1
  · rw [if_pos gc]
    have GC := hid gc
    clear gc
    by_cases h10 : 10 < (N : Int)
    · rw [if_pos h10]
      have h10b : decide ((10 : Int) < (N : Int)) = true := decide_eq_true h10
      go_enter Try.func28, Try.ntmps28
      go_wp2_with fail
      refine (sIs_any _ _ _ _ es _ (by omega) Hn.out (.inr ⟨b, off, rfl, Hr.out.on (on_alloc _ _)⟩)).mono ?_
      rw [decide_eq_true G.out]
      rintro e w2 ⟨rfl, hb2⟩
      have HB2 := hid (bfrom (w := w) (on_alloc _ _) hb2)
      have HX2 := hid ((Box.new w N (some ⟨b, off, none⟩) n c 24).on hb2)
      have hx2 := HX2.out.1
      have hy2 := HX2.out.2
      have hl2 := HX2.out.lt
      clear hb2
      go_wp2_with fail
      refine (sConnected_any _ _ _ _ es _ Hn.out hn30 hk20 (.inr ⟨b, off, rfl, Hr.out.on HB2.out⟩) EI.out).mono ?_
      rw [show (numP N es == 1) = true by rw [GC.out]; rfl]
      rintro e w3 ⟨rfl, hb3⟩
      have HB3 := hid (bfrom HB2.out hb3)
      have HX3 := hid (HX2.out.on hb3)
      clear hx2 hy2 hl2 hb3
      have hx3 := HX3.out.1
      have hy3 := HX3.out.2
      have hl3 := HX3.out.lt
      go_wp2_with fail
      go_ret2
      exact ⟨rfl, HB3.out⟩
    · rw [if_neg h10]
      have h10b : decide ((10 : Int) < (N : Int)) = false := decide_eq_false h10
      have hN10 : N ≤ 10 := by omega
      have hsub : IntKind.i64.wrap ((N : Int) - 1) = ((N - 1 : Nat) : Int) := by rw [IntWalk.i64_in _ (by omega)]; omega
      obtain ⟨P, hP⟩ : ∃ P : Nat, 2 ^ (N - 1) = P := ⟨_, rfl⟩
      have hP1 : P < 1048576 := by rw [← hP]; exact pow_smallG (by omega)
      have hsh : wrap64 (2 ^ (N - 1)) = (P : Int) := by rw [wrap_powG (by omega), ← hP]; simp
      rw [hP]
      have HP := hid hP
      clear hP
      go_enter Try.func28, Try.ntmps28
      go_wp2_with fail
      refine (sIs_any _ _ _ _ es _ (by omega) Hn.out (.inr ⟨b, off, rfl, Hr.out.on (on_alloc _ _)⟩)).mono ?_
      rw [decide_eq_true G.out]
      rintro e w2 ⟨rfl, hb2⟩
      have HB2 := hid (bfrom (w := w) (on_alloc _ _) hb2)
      have HX2 := hid ((Box.new w N (some ⟨b, off, none⟩) n c 24).on hb2)
      have hx2 := HX2.out.1
      have hy2 := HX2.out.2
      have hl2 := HX2.out.lt
      clear hb2
      go_wp2_with fail
      refine (sConnected_any _ _ _ _ es _ Hn.out hn30 hk20 (.inr ⟨b, off, rfl, Hr.out.on HB2.out⟩) EI.out).mono ?_
      rw [show (numP N es == 1) = true by rw [GC.out]; rfl]
      rintro e w3 ⟨rfl, hb3⟩
      have HB3 := hid (bfrom HB2.out hb3)
      have HX3 := hid (HX2.out.on hb3)
      clear hx2 hy2 hl2 hb3
      have hx3 := HX3.out.1
      have hy3 := HX3.out.2
      have hl3 := HX3.out.lt
      go_wp2_with fail
      go_loopw [4, 5] (fun u i wr => ∃ d : Nat, d ≤ P ∧ u = .int .i64 (minT N GF d) ∧ i = .int .i64 d ∧ Hid (Below w.heap.size w wr) ∧ Hid (Box wr w.heap.size N (some ⟨b, off, none⟩) n c)) (fun _ i _ => P - (intOf i).toNat)
      case atStart => exact ⟨0, Nat.zero_le _, rfl, rfl, HB3, HX3⟩
      case round =>
        obtain ⟨d, hd, rfl, rfl, hB, hX⟩ := hrel
        have hx := hX.out.1
        have hy := hX.out.2
        have hl := hX.out.lt
        obtain ⟨wo, rfl⟩ : ∃ wo : World, wo = wr := ⟨_, rfl⟩
        by_cases hlt : d < P
        · have hd20 : d < 1048576 := Nat.lt_trans hlt hP1
          have hd1 : wrap64 ((d : Int) + 1) = (d : Int) + 1 := IntWalk.wrap64_in _ (by omega)
          go_wp2_with fail
          have HSH := hid hsh
          clear hsh
          have HXi : Hid (Box (wo.alloc (.cells #[] 2)) w.heap.size N (some ⟨b, off, none⟩) n c) := hid (hX.out.on (on_alloc _ _))
          go_loopw [6, 7] (fun u i wi => ∃ (k cap : Nat) (q : Option Addr), k ≤ N ∧ u = .slice q k cap ∧ i = .int .i64 k ∧ Hid (wi.ownsRow wo.heap.size 2 1 (.slice q k cap) k (intVals ((rotL N d).take k))) ∧ Hid (Below wo.heap.size wo wi) ∧ Hid (Box wi w.heap.size N (some ⟨b, off, none⟩) n c) ∧ wo.heap.size < wi.heap.size) (fun _ i _ => N - (intOf i).toNat)
          case atStart => exact ⟨0, 0, _, Nat.zero_le _, rfl, rfl, hid (row_new_intG _), hid (on_alloc _ _), HXi, by simp⟩
          case round =>
            obtain ⟨k, cap, q, hk, rfl, rfl, hO, hBi, hXi, hzi⟩ := hrel
            have hxi := hXi.out.1
            have hyi := hXi.out.2
            have hli := hXi.out.lt
            by_cases hlk : k < N
            · obtain ⟨D, hD⟩ : ∃ D : Int, eI (rotL N d) k = D := ⟨_, rfl⟩
              have hbit : bits .and .i64 ((d : Int) / 2 ^ k) 1 = D := by rw [← hD, rotL_at hlk]; exact bit_and d k hd20
              have hrow : ∀ j, (Value.slice q k cap).ownBlock = some j → wo.heap.size ≤ j ∧ j < wr.heap.size := hO.out.lt
              have HD := hid (show (rotL N d).take (k + 1) = (rotL N d).take k ++ [D] by rw [List.take_add_one, int_at (by rw [rotL_len]; exact hlk), hD]; rfl)
              clear hD
              go_wp2_with (at_builtin; go_must (refine wpList_append_lies _ rfl (.tmp 38) (.tmp 44) 25 rfl wo.heap.size 2 i0 (.int .i64 0) 1 8 Try.underlying25 Hi.out hz0 hz1 hz2 rfl (by decide) (.slice q k cap) k _ rfl (hO.out.alloc _) ⟨wr.heap.size, 0, none⟩ 1 1 [.int .i64 D] rfl rfl (World.news_of_block (cs := #[.int .i64 D]) (t := 2) (fr := (0, 0)) (heap_alloc_new wr _)) (by simp [Value.oneCell']) (by decide) (by unfold maxLen; omega) (by omega) (by simp; omega) (wr.heap.size + 1) (by simp) ?_); intro g cap' w1 hown1 hgrow1 hlie hg1; have Hown := hid hown1; have Hgrow := hid hgrow1; clear hown1 hgrow1 hlie)
              go_roundw
              case rel =>
                refine ⟨k + 1, cap', some ⟨g, 0, none⟩, ?qa, ?qs, ?qn, ?qo, ?qb, ?qx, ?qz⟩
                case qa => omega
                case qs => rfl
                case qn => go_num
                case qo => exact hid (by rw [HD.out, intVals_append]; exact Hown.out)
                case qb => exact hid ((hBi.out.alloc hBi.out.size _).grown Hgrow.out (by simp; omega) (fun j hj => by have := (hrow j hj).1; omega))
                case qx => exact hid ((hXi.out.on (on_alloc _ _)).kept Hgrow.out (fun h => by have := (hrow _ h.symm).1; omega))
                case qz => have := Hgrow.out.size; simp at this; omega
              case measure => simp [intOf]; omega
            · obtain rfl : k = N := by omega
              have hfr : FreshI wo.heap.size wr q k cap (rotL k d) := by
                have h := hO.out
                rw [List.take_of_length_le (by rw [rotL_len]; exact Nat.le_refl _)] at h
                exact ⟨h, rotL_len k d⟩
              rcases hfr.form with ⟨_, h0, _⟩ | ⟨g0, rfl, hg0, ho0⟩
              · omega
              have HR0 := hid ho0.reads
              clear hfr ho0
              go_wp2_with fail
              refine (sGen_any k b off n c cap g0 0 es (rotL k d) _ Hn.out (Hr.out.on (bfrom hB.out hBi.out)) G.out (rotL_rot k d) HR0.out).mono ?_
              rw [show genR k es (rotL k d) = GF d by rw [HGF.out]]
              rintro e w5 ⟨rfl, hb5⟩
              have HB5 := hid (bfrom (bfrom hB.out hBi.out) hb5)
              have HX5 := hid (hXi.out.on hb5)
              clear hb5
              go_wp2_with fail
              go_roundw
              case rel =>
                exact ⟨d + 1, by omega, rfl, by go_num, HB5, HX5⟩
              case measure => simp [intOf]; omega
        · obtain rfl : d = P := by omega
          go_wp2_with fail
          go_ret2
          exact ⟨rfl, hB.out⟩
  · rw [if_neg gc]
    have GC := hid gc
    clear gc
    go_enter Try.func28, Try.ntmps28
    go_wp2_with fail
    refine (sIs_any _ _ _ _ es _ (by omega) Hn.out (.inr ⟨b, off, rfl, Hr.out.on (on_alloc _ _)⟩)).mono ?_
    rw [decide_eq_true G.out]
    rintro e w2 ⟨rfl, hb2⟩
    have HB2 := hid (bfrom (w := w) (on_alloc _ _) hb2)
    have HX2 := hid ((Box.new w N (some ⟨b, off, none⟩) n c 24).on hb2)
    have hx2 := HX2.out.1
    have hy2 := HX2.out.2
    have hl2 := HX2.out.lt
    clear hb2
    go_wp2_with fail
    refine (sConnected_any _ _ _ _ es _ Hn.out hn30 hk20 (.inr ⟨b, off, rfl, Hr.out.on HB2.out⟩) EI.out).mono ?_
    rw [show (numP N es == 1) = false by rw [beq_eq_false_iff_ne]; exact GC.out]
    rintro e w3 ⟨rfl, hb3⟩
    have HB3 := hid (bfrom HB2.out hb3)
    clear hx2 hy2 hl2 hb3
    go_wp2
    go_ret2
    exact ⟨rfl, HB3.out⟩

end Go.Proofs.Ytpadnliebimceaa

/- LeastGenus in the program. -/
namespace Go.Proofs.Ytpadnliebimceaa
open Go.RowKit Go.Lib

theorem meas_lt {d P : Nat} (h : d < P) : P - (intOf (.int .i64 ((d : Int) + 1))).toNat < P - (intOf (.int .i64 (d : Int))).toNat := by
  have e1 : (intOf (.int .i64 ((d : Int) + 1))).toNat = d + 1 := by show ((d : Int) + 1).toNat = d + 1; omega
  have e2 : (intOf (.int .i64 (d : Int))).toNat = d := by show ((d : Int)).toNat = d; omega
  rw [e1, e2]
  omega
set_option maxRecDepth 100000 in
set_option maxHeartbeats 8000000 in
theorem iLg_yes (N b off n c : Nat) (es : List (Int × Int)) (w : World) (hn : es.length = n) (hr : ReadsE w b off es) (g : IsG N es) :
    Calls Try.prog 29 #[.agg #[.int .i64 N, .slice (some ⟨b, off, none⟩) n c]] w fun e' w' => e' = .returned (.tuple #[.int .i64 (fLeastGenus N es).1, .int .i64 (fLeastGenus N es).2]) ∧ Below w.heap.size w w' := by
  have hk20 : N ≤ 20 := by have := g.1.1.2.1; omega
  have hk2 : 2 ≤ N := by have := g.1.1.1; omega
  have hn30 : n ≤ 30 := by have := isG_len g; omega
  have hei : EndsIn N es := endsIn_of g
  unfold fLeastGenus
  rw [if_pos g, Int.toNat_natCast]
  have Hn := hid hn
  have Hr := hid hr
  have G := hid g
  have EI := hid hei
  obtain ⟨GF, hGF⟩ : ∃ GF : Nat → Int, GF = fun d => genR N es (rotL N d) := ⟨_, rfl⟩
  rw [← hGF]
  have HGF := hid hGF
  obtain ⟨i0, hi, hz0, hz1, hz2⟩ := info_parts infoInt
  have Hi := hid hi
  clear hn hr g hei hGF hi
  by_cases gc : numP N es = 1
  · rw [if_pos gc]
    have GC := hid gc
    clear gc
    by_cases h10 : 10 < (N : Int)
    · rw [if_pos h10]
      have h10b : decide ((10 : Int) < (N : Int)) = true := decide_eq_true h10
      go_enter Try.func29, Try.ntmps29
      go_wp2_with fail
      refine (iConC_any N b off n c es _ Hn.out (Hr.out.on (on_alloc _ _)) G.out).mono ?_
      rw [if_pos GC.out]
      rintro e w3 ⟨rfl, hb3⟩
      have HB3 := hid (bfrom (w := w) (on_alloc _ _) hb3)
      have HX3 := hid ((Box.new w N (some ⟨b, off, none⟩) n c 24).on hb3)
      clear hb3
      have hx3 := HX3.out.1
      have hy3 := HX3.out.2
      have hl3 := HX3.out.lt
      go_wp2_with fail
      go_ret2
      exact ⟨rfl, HB3.out⟩
    · rw [if_neg h10]
      have h10b : decide ((10 : Int) < (N : Int)) = false := decide_eq_false h10
      have hN10 : N ≤ 10 := by omega
      obtain ⟨P, hP⟩ : ∃ P : Nat, 2 ^ N = P := ⟨_, rfl⟩
      have hP1 : P < 1048576 := by rw [← hP]; exact pow_smallG (by omega)
      have hsh : wrap64 (2 ^ N) = (P : Int) := by rw [wrap_powG (by omega), ← hP]; simp
      have HLS := hid (least_same G.out)
      rw [← HGF.out, hP] at HLS
      rw [HLS.out, show genR N es (rotL N 0) = GF 0 by rw [HGF.out]]
      have HP := hid hP
      have HZ := hid (show List.replicate N (0 : Int) = rotL N 0 from List.ext_getElem (by simp [rotL]) fun i h1 h2 => by simp [rotL])
      clear hP
      go_enter Try.func29, Try.ntmps29
      go_wp2_with fail
      refine (iConC_any N b off n c es _ Hn.out (Hr.out.on (on_alloc _ _)) G.out).mono ?_
      rw [if_pos GC.out]
      rintro e w3 ⟨rfl, hb3⟩
      have HB3 := hid (bfrom (w := w) (on_alloc _ _) hb3)
      have HX3 := hid ((Box.new w N (some ⟨b, off, none⟩) n c 24).on hb3)
      clear hb3
      have hx3 := HX3.out.1
      have hy3 := HX3.out.2
      have hl3 := HX3.out.lt
      go_wp2_with (at_make; go_loud (refine wpList_make_full _ rfl _ _ 25 rfl w3.heap.size 2 i0 (.int .i64 0) 1 Try.underlying25 Hi.out hz0 hz1 _ _ _ _ N rfl rfl rfl rfl (by rw [hz2]; omega) (by unfold maxLen; omega) (Nat.le_refl _) ?_; intro w4 hown hgrow; have Ho := hid (OwnI.made hown); rw [HZ.out] at Ho; have HB4 := hid (HB3.out.grown hgrow (by have := HB3.out.size; omega) (fun k e => by cases e)); have HX4 := hid (HX3.out.kept hgrow (by simp)); have hx4 := HX4.out.1; have hy4 := HX4.out.2; have hl4 := HX4.out.lt; have hz4 := hgrow.size; clear hx3 hy3 hl3 hown hgrow))
      refine (iGen_any N b off n c N w3.heap.size 0 es (rotL N 0) _ Hn.out (Hr.out.on HB4.out) G.out (rotL_rot N 0) Ho.out.reads).mono ?_
      rw [show genR N es (rotL N 0) = GF 0 by rw [HGF.out]]
      rintro e w5 ⟨rfl, hb5⟩
      have hRlt : w3.heap.size < w4.heap.size := Ho.out.lt
      have hRge : w.heap.size < w3.heap.size := HX3.out.lt
      obtain ⟨R, hR⟩ : ∃ R, w3.heap.size = R := ⟨_, rfl⟩
      rw [hR] at Ho hRlt hRge ⊢
      have hR5 : R < w5.heap.size := Nat.lt_of_lt_of_le hRlt hb5.size
      have HO5 := hid (Ho.out.on hb5)
      have HB5 := hid (bfrom HB4.out hb5)
      have HX5 := hid (HX4.out.on hb5)
      clear hb5 hx4 hy4 hl4 hz4 hR Ho
      have hx5 := HX5.out.1
      have hy5 := HX5.out.2
      have hl5 := HX5.out.lt
      go_wp2_with fail
      rw [hsh]
      clear hsh
      go_loopw [6, 26] (fun u i wr => ∃ (d : Nat) (xs : List Int), d ≤ P ∧ u = .int .i64 (minT (GF 0) GF d) ∧ i = .int .i64 d ∧ Hid (OwnI wr R N xs ∧ xs.length = N) ∧ Hid (Below w.heap.size w wr) ∧ Hid (Box wr w.heap.size N (some ⟨b, off, none⟩) n c)) (fun _ i _ => P - (intOf i).toNat)
      case atStart => exact ⟨0, _, Nat.zero_le _, rfl, rfl, hid ⟨HO5.out, rotL_len N 0⟩, HB5, HX5⟩
      case round =>
        obtain ⟨d, xs, hd, rfl, rfl, hO, hB, hX⟩ := hrel
        clear hx5 hy5 hl5
        have hx := hX.out.1
        have hy := hX.out.2
        have hl := hX.out.lt
        obtain ⟨wo, rfl⟩ : ∃ wo : World, wo = wr := ⟨_, rfl⟩
        by_cases hlt : d < P
        · have hd20 : d < 1048576 := Nat.lt_trans hlt hP1
          have hd1 : wrap64 ((d : Int) + 1) = (d : Int) + 1 := IntWalk.wrap64_in _ (by omega)
          go_wp2_with fail
          go_loopw [31] (fun i wi => ∃ (k : Nat) (ys : List Int), k ≤ N ∧ i = .int .i64 k ∧ Hid (OwnI wi R N ys ∧ ys.length = N ∧ ∀ j, j < k → eI ys j = eI (rotL N d) j) ∧ Hid (Below w.heap.size w wi) ∧ Hid (Box wi w.heap.size N (some ⟨b, off, none⟩) n c)) (fun i _ => N - (intOf i).toNat)
          case atStart => exact ⟨0, xs, Nat.zero_le _, rfl, hid ⟨hO.out.1, hO.out.2, fun j hj => by omega⟩, hB, hX⟩
          case round =>
            obtain ⟨k, ys, hk, rfl, hOi, hBi, hXi⟩ := hrel
            have hxi := hXi.out.1
            have hyi := hXi.out.2
            have hli := hXi.out.lt
            by_cases hlk : k < N
            · obtain ⟨D, hD⟩ : ∃ D : Int, eI (rotL N d) k = D := ⟨_, rfl⟩
              have hbit : bits .and .i64 ((d : Int) / 2 ^ k) 1 = D := by rw [← hD, rotL_at hlk]; exact bit_and d k hd20
              have hcl := hOi.out.1.reads k (by have := hOi.out.2.1; omega)
              rw [Nat.zero_add] at hcl
              have hfr := hOi.out.1.free k
              have hRl := hOi.out.1.lt
              have HD := hid hD
              clear hD
              go_wp2_with fail
              go_roundw
              case rel =>
                refine ⟨k + 1, ys.set k D, by omega, by go_num, hid ⟨hOi.out.1.set (by have := hOi.out.2.1; omega) D, by rw [List.length_set]; exact hOi.out.2.1, fun j hj => ?_⟩, hid (by have h := hBi.out; go_grown), hid (hXi.out.far (by simp; omega) _)⟩
                rw [eI_set (by have := hOi.out.2.1; omega)]
                by_cases hjk : j = k
                · rw [if_pos hjk, hjk, HD.out]
                · rw [if_neg hjk]
                  exact hOi.out.2.2 j (by omega)
              case measure => simp [intOf]; omega
            · obtain rfl : k = N := by omega
              have hys : ys = rotL k d := List.ext_getElem (by rw [rotL_len]; exact hOi.out.2.1) fun i h1 h2 => by
                have h := hOi.out.2.2 i (by rw [hOi.out.2.1] at h1; exact h1)
                rw [eI_lt h1, eI_lt h2] at h
                exact h
              have HO2 := hOi.out.1
              rw [hys] at HO2
              have HOr := hid HO2
              clear HO2 hys
              have HLT := hid hlt
              clear hlt hd hd20 hP1
              go_wp2_with fail
              refine (iGen_any k b off n c k R 0 es (rotL k d) _ Hn.out (Hr.out.on hBi.out) G.out (rotL_rot k d) HOr.out.reads).mono ?_
              rw [show genR k es (rotL k d) = GF d by rw [HGF.out]]
              rintro e w7 ⟨rfl, hb7⟩
              have HB7 := hid (bfrom hBi.out hb7)
              have HX7 := hid (hXi.out.on hb7)
              have HO7 := hid (HOr.out.on hb7)
              clear hb7
              go_wp2_with fail
              go_roundw
              case rel => exact ⟨d + 1, rotL k d, Nat.succ_le_of_lt HLT.out, rfl, by go_num, hid ⟨HO7.out, rotL_len k d⟩, HB7, HX7⟩
              case measure => rw [hd1]; exact meas_lt HLT.out
        · obtain rfl : d = P := by omega
          go_wp2_with fail
          go_ret2
          exact ⟨rfl, hB.out⟩
  · rw [if_neg gc]
    have GC := hid gc
    clear gc
    go_enter Try.func29, Try.ntmps29
    go_wp2_with fail
    refine (iConC_any N b off n c es _ Hn.out (Hr.out.on (on_alloc _ _)) G.out).mono ?_
    rw [if_neg GC.out]
    rintro e w3 ⟨rfl, hb3⟩
    have HB3 := hid (bfrom (w := w) (on_alloc _ _) hb3)
    clear hb3
    go_wp2
    go_ret2
    exact ⟨rfl, HB3.out⟩

end Go.Proofs.Ytpadnliebimceaa

/- LeastGenus at any argument, both sides. -/
namespace Go.Proofs.Ytpadnliebimceaa
open Go.RowKit

set_option maxRecDepth 100000 in
set_option maxHeartbeats 4000000 in
theorem iConC_not (s : Int) (p : Option Addr) (n c : Nat) (es : List (Int × Int)) (w : World) (hm : n ≤ 1048576) (hn : es.length = n) (hr : SeesE w p es) (g : ¬ IsG s es) :
    Calls Try.prog 60 #[.agg #[.int .i64 s, .slice p n c]] w fun e' w' => e' = .returned (.int .i64 1) ∧ Below w.heap.size w w' := by
  have Hn := hid hn
  have Hr := hid hr
  have G := hid g
  clear hn hr g
  go_enter Try.func60, Try.ntmps60
  go_wp2_with fail
  refine (iIsGraph_any _ _ _ _ es _ hm Hn.out (Hr.out.on (on_alloc _ _))).mono ?_
  rw [decide_eq_false G.out]
  rintro e w2 ⟨rfl, hb2⟩
  have HB2 := hid (bfrom (w := w) (on_alloc _ _) hb2)
  clear hb2
  go_wp2
  go_ret
  exact ⟨rfl, HB2.out⟩

set_option maxRecDepth 100000 in
set_option maxHeartbeats 4000000 in
theorem iLg_not (s : Int) (p : Option Addr) (n c : Nat) (es : List (Int × Int)) (w : World) (hm : n ≤ 1048576) (hn : es.length = n) (hr : SeesE w p es) (g : ¬ IsG s es) :
    Calls Try.prog 29 #[.agg #[.int .i64 s, .slice p n c]] w fun e' w' => e' = .returned (.tuple #[.int .i64 0, .int .i64 1]) ∧ Below w.heap.size w w' := by
  have Hn := hid hn
  have Hr := hid hr
  have G := hid g
  clear hn hr g
  go_enter Try.func29, Try.ntmps29
  go_wp2_with fail
  refine (iConC_not _ _ _ _ es _ hm Hn.out (Hr.out.on (on_alloc _ _)) G.out).mono ?_
  rintro e w2 ⟨rfl, hb2⟩
  have HB2 := hid (bfrom (w := w) (on_alloc _ _) hb2)
  clear hb2
  go_wp2
  go_ret2
  exact ⟨rfl, HB2.out⟩

theorem sLeastGenus_any (s : Int) (p : Option Addr) (n c : Nat) (es : List (Int × Int)) (w : World) (hm : n ≤ 1048576) (hn : es.length = n) (hr : SeesE w p es) :
    Calls Try.prog 28 #[.agg #[.int .i64 s, .slice p n c]] w fun e' w' => e' = .returned (.tuple #[.int .i64 (fLeastGenus s es).1, .int .i64 (fLeastGenus s es).2]) ∧ Below w.heap.size w w' := by
  by_cases g : IsG s es
  · obtain ⟨N, rfl⟩ : ∃ N : Nat, s = N := ⟨_, (Int.toNat_of_nonneg (by have := g.1.1.1; omega)).symm⟩
    obtain ⟨b, off, rfl, rd⟩ := isG_sees g hr
    exact sLg_yes N b off n c es w hn rd g
  · have h : fLeastGenus s es = (0, 1) := by unfold fLeastGenus; rw [if_neg g]
    rw [h]
    exact sLg_not s p n c es w hm hn hr g
theorem iLeastGenus_any (s : Int) (p : Option Addr) (n c : Nat) (es : List (Int × Int)) (w : World) (hm : n ≤ 1048576) (hn : es.length = n) (hr : SeesE w p es) :
    Calls Try.prog 29 #[.agg #[.int .i64 s, .slice p n c]] w fun e' w' => e' = .returned (.tuple #[.int .i64 (fLeastGenus s es).1, .int .i64 (fLeastGenus s es).2]) ∧ Below w.heap.size w w' := by
  by_cases g : IsG s es
  · obtain ⟨N, rfl⟩ : ∃ N : Nat, s = N := ⟨_, (Int.toNat_of_nonneg (by have := g.1.1.1; omega)).symm⟩
    obtain ⟨b, off, rfl, rd⟩ := isG_sees g hr
    exact iLg_yes N b off n c es w hn rd g
  · have h : fLeastGenus s es = (0, 1) := by unfold fLeastGenus; rw [if_neg g]
    rw [h]
    exact iLg_not s p n c es w hm hn hr g

end Go.Proofs.Ytpadnliebimceaa

namespace Go.Proofs.Ytpadnliebimceaa
open Go.RowKit

set_option maxRecDepth 100000 in
set_option maxHeartbeats 8000000 in
theorem lawLeastGenus_big0 (s0 : Int) (p0 : Option Addr) (n0 c0 : Nat) (w : World) (m0 : n0 ≤ 9223372036854775807) (bg : 1048576 < n0) :
    Calls Try.prog 6 #[.agg #[.int .i64 s0, .slice p0 n0 c0]] w fun e' w' => e' = .returned (.bool true) ∧ Below w.heap.size w w' := by
  have BG := hid bg
  clear bg
  go_enter Try.func6, Try.ntmps6
  go_wp2_with fail
  refine (szGraph_any _ _ _ _ _ _ m0 (by omega) (by omega)).mono ?_
  rw [if_pos (by have := BG.out; omega)]
  rintro e' w2 ⟨rfl, hb2⟩
  have hB2 := bfrom (w := w) (by go_grown) hb2
  go_wp2
  go_ret
  exact ⟨rfl, hB2⟩

set_option maxRecDepth 100000 in
set_option maxHeartbeats 8000000 in
theorem lawLeastGenus_small (s0 : Int) (p0 : Option Addr) (n0 c0 : Nat) (es0 : List (Int × Int)) (w : World) (hn0 : es0.length = n0) (hm0 : n0 ≤ 1048576) (hr0 : SeesE w p0 es0) :
    Calls Try.prog 6 #[.agg #[.int .i64 s0, .slice p0 n0 c0]] w fun e' w' => e' = .returned (.bool true) ∧ Below w.heap.size w w' := by
  have hq0 : n0 ≤ 9223372036854775807 := by omega
  have hge0 : ¬ ((1048576 : Int) - n0 < 0) := by omega
  have Hn0 := hid hn0
  have Hm0 := hid hm0
  have Hr0 := hid hr0
  obtain ⟨r0, cd, hR⟩ : ∃ r0 cd, fLeastGenus s0 es0 = (r0, cd) := ⟨_, _, rfl⟩
  have hne1 : (r0 != r0) = false := by simp
  have hne0 : (cd != cd) = false := by simp
  have hS := fun (q0 : Option Addr) (cc0 : Nat) (ww : World) (hh0 : SeesE ww q0 es0) => sLeastGenus_any s0 q0 n0 cc0 es0 ww hm0 hn0 hh0
  have hI := fun (q0 : Option Addr) (cc0 : Nat) (ww : World) (hh0 : SeesE ww q0 es0) => iLeastGenus_any s0 q0 n0 cc0 es0 ww hm0 hn0 hh0
  rw [hR] at hS hI
  dsimp only at hS hI
  have HS := hid hS
  have HI := hid hI
  clear hn0 hm0 hr0 hR hS hI
  go_enter Try.func6, Try.ntmps6
  go_wp2_with fail
  have HA0_1 : Hid (Box (w.alloc (.cells #[.int .i64 s0, .slice p0 n0 c0] 34)) (w.heap.size) s0 p0 n0 c0) := hid (by have h := (Box.new w s0 p0 n0 c0 34); first | exact h | simpa only [World.size_alloc] using h)
  have HB1 : Hid (Below w.heap.size w (w.alloc (.cells #[.int .i64 s0, .slice p0 n0 c0] 34))) := hid (bfrom (Below.refl _ _) (on_alloc _ (.cells #[.int .i64 s0, .slice p0 n0 c0] 34)))
  refine (szGraph_any _ _ _ _ _ _ hq0 (by omega) (by omega)).mono ?_
  rw [if_neg (by omega)]
  rintro e' w2 ⟨rfl, hb2⟩
  have HA0_2 := hid (HA0_1.out.on hb2)
  have HB2 := hid (bfrom HB1.out hb2)
  have hs2 : w.heap.size + 1 ≤ w2.heap.size := by have h := hb2.size; simp only [World.size_alloc] at h; omega
  clear HA0_1 HB1 hb2
  have hxA0 := HA0_2.out.1
  have hyA0 := HA0_2.out.2
  have hzA0 := HA0_2.out.lt
  go_wp2_with fail
  refine (toGraph_any _ _ _ _ es0 _ Hn0.out Hm0.out (Hr0.out.on HB2.out)).mono ?_
  rintro e' w3 ⟨gT0, rfl, hgT0, hoT0, hb3⟩
  have hfT0 := FreshE.of_own hoT0 Hn0.out hgT0
  clear hoT0 hgT0
  have HA0_3 := hid (HA0_2.out.on hb3)
  have HB3 := hid (bfrom HB2.out hb3)
  have hs3 : w2.heap.size ≤ w3.heap.size := by have h := hb3.size; omega
  clear hxA0 hyA0 hzA0
  clear HA0_2 HB2 hb3
  have HT0_3 := hid hfT0
  have hq := fun g h => hfT0.own (g := g) h
  have QT0 := hid hq
  clear hfT0 hq
  have hxA0 := HA0_3.out.1
  have hyA0 := HA0_3.out.2
  have hzA0 := HA0_3.out.lt
  go_wp2_with fail
  refine (HS.out _ _ _ HT0_3.out.sees).mono ?_
  rintro e' w4 ⟨rfl, hb4⟩
  have HA0_4 := hid (HA0_3.out.on hb4)
  have HT0_4 := hid (HT0_3.out.on hb4)
  have HB4 := hid (bfrom HB3.out hb4)
  have hs4 : w3.heap.size ≤ w4.heap.size := by have h := hb4.size; omega
  clear hxA0 hyA0 hzA0
  clear HA0_3 HT0_3 HB3 hb4
  clear HT0_4
  have hxA0 := HA0_4.out.1
  have hyA0 := HA0_4.out.2
  have hzA0 := HA0_4.out.lt
  go_wp2_with fail
  refine (toGraph_any _ _ _ _ es0 _ Hn0.out Hm0.out (Hr0.out.on HB4.out)).mono ?_
  rintro e' w5 ⟨gX0, rfl, hgX0, hoX0, hb5⟩
  have hfX0 := FreshE.of_own hoX0 Hn0.out hgX0
  clear hoX0 hgX0
  have HA0_5 := hid (HA0_4.out.on hb5)
  have HB5 := hid (bfrom HB4.out hb5)
  have hs5 : w4.heap.size ≤ w5.heap.size := by have h := hb5.size; omega
  clear hxA0 hyA0 hzA0
  clear HA0_4 HB4 hb5
  have HX0_5 := hid hfX0
  have hq := fun g h => hfX0.own (g := g) h
  have QX0 := hid hq
  clear hfX0 hq
  have hxA0 := HA0_5.out.1
  have hyA0 := HA0_5.out.2
  have hzA0 := HA0_5.out.lt
  go_wp2_with fail
  refine (HI.out _ _ _ (HX0_5.out.on (on_alloc _ _)).sees).mono ?_
  rintro e' w6 ⟨rfl, hb6⟩
  have HA0_6 := hid ((HA0_5.out.on (on_alloc _ _)).on hb6)
  have HX0_6 := hid ((HX0_5.out.on (on_alloc _ _)).on hb6)
  have HXB0_6 := hid ((Box.new w5 s0 (some ⟨gX0, 0, none⟩) n0 n0 24).on hb6)
  have HB6 := hid (bfrom (bfrom HB5.out (on_alloc _ _)) hb6)
  have hs6 : w5.heap.size + 1 ≤ w6.heap.size := by have h := hb6.size; simp only [World.size_alloc] at h; omega
  clear hxA0 hyA0 hzA0
  clear HA0_5 HX0_5 HB5 hb6
  have hxA0 := HA0_6.out.1
  have hyA0 := HA0_6.out.2
  have hzA0 := HA0_6.out.lt
  have hxXB0 := HXB0_6.out.1
  have hyXB0 := HXB0_6.out.2
  have hzXB0 := HXB0_6.out.lt
  go_upto_region 10 with fail
  go_cut [39] (fun u wx => u = .bool false ∧ Hid (Below w6.heap.size w6 wx))
  case first =>
    go_region_with (first
      | (go_at_call 21; refine (toGraph_any _ _ _ _ es0 _ Hn0.out Hm0.out ?_).mono ?_; (first | exact Hr0.out.on HB6.out | exact Hr0.out.on HB6.out.drew); rintro e' w7 ⟨gY0, rfl, hgY0, hoY0, hb7⟩; have HoY0 := hid hoY0; clear hoY0; have huXB0 := ((bcells hb7).1 _ _ hzXB0).trans hxXB0; have hvXB0 := ((bcells hb7).1 _ _ hzXB0).trans hyXB0)
      | (go_at_call 25; refine (eqGraph_self _ _ _ _ _ _ es0 _ Hn0.out hq0 ?_ ?_).mono ?_; (exact (HX0_6.out.drew.on hb7).sees); (exact HoY0.out.sees); rintro e' w8 ⟨rfl, hb8⟩))
    all_goals (go_wp2_with fail; go_meet; exact ⟨rfl, hid (bfrom (bfrom (Below.refl _ _).drew hb7) hb8)⟩)
  case rest =>
  obtain ⟨rfl, hcb⟩ := hcut
  obtain ⟨w9, rfl⟩ : ∃ w9, w9 = wc := ⟨_, rfl⟩
  have hb9 := hcb.out
  clear hcb
  have HA0_9 := hid (HA0_6.out.on hb9)
  have HX0_9 := hid (HX0_6.out.on hb9)
  have HXB0_9 := hid (HXB0_6.out.on hb9)
  have HB9 := hid (bfrom HB6.out hb9)
  have hs9 : w6.heap.size ≤ w9.heap.size := hb9.size
  clear hxA0 hyA0 hzA0 hxXB0 hyXB0 hzXB0
  clear HA0_6 HX0_6 HXB0_6 HB6 hb9
  go_wp2
  go_ret
  exact ⟨rfl, HB9.out⟩

theorem lawLeastGenus_any (s0 : Int) (p0 : Option Addr) (n0 c0 : Nat) (es0 : List (Int × Int)) (w : World) (hn0 : es0.length = n0) (hl0 : n0 ≤ 9223372036854775807) (hr0 : SeesE w p0 es0) :
    Calls Try.prog 6 #[.agg #[.int .i64 s0, .slice p0 n0 c0]] w fun e' w' => e' = .returned (.bool true) ∧ Below w.heap.size w w' := by
  rcases Nat.lt_or_ge 1048576 (n0) with h0 | h0
  · exact lawLeastGenus_big0 s0 p0 n0 c0 w hl0 (by omega)
  exact lawLeastGenus_small s0 p0 n0 c0 es0 w hn0 (by omega) hr0

end Go.Proofs.Ytpadnliebimceaa
