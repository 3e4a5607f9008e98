/- One cycle that a matching leaves, taken by the program: takeCycle. -/
import Derived.Test.YthncgpbgffbpgaaTakeA
import Derived.Deep.AppendLies
import Derived.Deep.DeepMust
namespace Go.Proofs.Ythncgpbgffbpgaa
open Go.RowKit

/-- What is taken while the cycle of k is gone round. -/
def tjL (es : List (Int × Int)) (ok : Nat → Bool) (nx : Int → Nat → Nat) (k j : Nat) : List Bool := (List.range es.length).map fun f => !ok f || (metC es ok nx k f || decide ((f : Int) ∈ cyP es nx k j))
def tkL (es : List (Int × Int)) (ok : Nat → Bool) (nx : Int → Nat → Nat) (k : Nat) : List Bool := (List.range es.length).map fun f => !ok f || metC es ok nx k f
section
variable {s : Int} {es : List (Int × Int)} {ok : Nat → Bool} {nx : Int → Nat → Nat}
theorem tjL_len (es : List (Int × Int)) (ok : Nat → Bool) (nx : Int → Nat → Nat) (k j : Nat) : (tjL es ok nx k j).length = es.length := by simp [tjL]
theorem tkL_len (es : List (Int × Int)) (ok : Nat → Bool) (nx : Int → Nat → Nat) (k : Nat) : (tkL es ok nx k).length = es.length := by simp [tkL]
theorem tjL_at {k j f : Nat} (hf : f < es.length) : eL (tjL es ok nx k j) f = (!ok f || (metC es ok nx k f || decide ((f : Int) ∈ cyP es nx k j))) := by
  unfold tjL
  rw [eL_lt (by simpa using hf)]
  simp
theorem tkL_at {k f : Nat} (hf : f < es.length) : eL (tkL es ok nx k) f = (!ok f || metC es ok nx k f) := by
  unfold tkL
  rw [eL_lt (by simpa using hf)]
  simp
theorem tjL_zero (k : Nat) : tjL es ok nx k 0 = tkL es ok nx k := by
  refine bools_ext (by rw [tjL_len, tkL_len]) fun f hf => ?_
  rw [tjL_len] at hf
  rw [tjL_at hf, tkL_at hf]
  simp [cyP]
theorem tjL_step {k j : Nat} (hf : (wyS es nx k j).1 < es.length) : (tjL es ok nx k j).set (wyS es nx k j).1 true = tjL es ok nx k (j + 1) := by
  refine bools_ext (by rw [List.length_set, tjL_len, tjL_len]) fun f hf2 => ?_
  rw [List.length_set, tjL_len] at hf2
  rw [eL_set (by rw [tjL_len]; exact hf), tjL_at hf2, tjL_at hf2, cyP_succ]
  by_cases e : f = (wyS es nx k j).1
  · rw [if_pos e]
    simp [e]
  · rw [if_neg e]
    have : ¬ (f : Int) = ((wyS es nx k j).1 : Int) := by omega
    simp [this]
theorem tjL_end {k : Nat} (h : leadC es ok nx k = true) : tjL es ok nx k (cyK es nx k) = tkL es ok nx (k + 1) := by
  unfold leadC at h
  rw [Bool.and_eq_true] at h
  refine bools_ext (by rw [tjL_len, tkL_len]) fun f hf => ?_
  rw [tjL_len] at hf
  rw [tjL_at hf, tkL_at hf, metC_succ, h.1, Bool.true_and]
  rfl
theorem tkL_old (G : TwoG s es ok nx) {k : Nat} (h : leadC es ok nx k = false) : tkL es ok nx (k + 1) = tkL es ok nx k := by
  refine bools_ext (by rw [tkL_len, tkL_len]) fun f hf => ?_
  rw [tkL_len] at hf
  rw [tkL_at hf, tkL_at hf, metC_old G h]
theorem tkL_lead {k : Nat} (hk : k < es.length) : (!eL (tkL es ok nx k) k) = leadC es ok nx k := by
  rw [tkL_at hk]
  unfold leadC
  cases ok k <;> cases metC es ok nx k k <;> rfl

theorem find_first {p : Nat → Bool} {L : List Nat} (hs : L.Pairwise (· < ·)) {x : Nat} (hx : x ∈ L) (hp : p x = true) (hlow : ∀ y, y ∈ L → p y = true → x ≤ y) : L.find? p = some x := by
  cases hf : L.find? p with
  | none =>
    have := List.find?_eq_none.1 hf x hx
    rw [hp] at this
    exact absurd rfl this
  | some y =>
    have hy := List.find?_some hf
    have hm := List.mem_of_find?_eq_some hf
    have h1 := hlow y hm hy
    rcases Nat.lt_or_ge x y with h2 | h2
    · obtain ⟨_, us, vs, hab, hall⟩ := List.find?_eq_some_iff_append.1 hf
      rw [hab] at hx hs
      rcases List.mem_append.1 hx with h3 | h3
      · have := hall x h3
        rw [hp] at this
        exact absurd this (by decide)
      · rcases List.mem_cons.1 h3 with h4 | h4
        · omega
        · have h5 := (List.pairwise_cons.1 (List.pairwise_append.1 hs).2.1).1 x h4
          omega
    · rw [show y = x by omega]
theorem onL_sorted (es : List (Int × Int)) (v : Int) : (onL es v).Pairwise (· < ·) := List.Pairwise.filter _ List.pairwise_lt_range

/-- At the first end of a new edge it is the first one that is not taken. -/
theorem ut_start (G : TwoG s es ok nx) {k : Nat} (h : leadC es ok nx k = true) : utF es (tjL es ok nx k 0) (eA es k) = some k := by
  have hk : ok k = true := by unfold leadC at h; rw [Bool.and_eq_true] at h; exact h.1
  have hm : metC es ok nx k k = false := by unfold leadC at h; rw [Bool.and_eq_true] at h; simpa using h.2
  have hkl := G.lt k hk
  have hon : onE es (eA es k) k = true := by simp [onE]
  refine find_first (onL_sorted _ _) (onL_mem.2 ⟨hkl, hon⟩) (by rw [tjL_at hkl, hk, hm]; simp [cyP]) fun y hy hp => ?_
  obtain ⟨hyl, hyo⟩ := onL_mem.1 hy
  rcases Nat.lt_or_ge y k with h1 | h1
  · exfalso
    rw [tjL_at hyl] at hp
    have hoy : ok y = true := by
      cases ho : ok y
      · rw [ho] at hp; simp at hp
      · rfl
    have : metC es ok nx k k = true := (metC_iff G).2 ⟨y, h1, hoy, (WyIn.refl es ok y).next hoy hk hyo hon⟩
    rw [hm] at this
    exact absurd this (by decide)
  · exact h1
/-- Behind j edges the next one is the only one that is not taken, or none is. -/
theorem ut_next (G : TwoG s es ok nx) {k j : Nat} (h : leadC es ok nx k = true) (hj : j < cyK es nx k) : utF es (tjL es ok nx k (j + 1)) (wyS es nx k j).2 = if j + 1 = cyK es nx k then none else some (wyS es nx k (j + 1)).1 := by
  have hk : ok k = true := by unfold leadC at h; rw [Bool.and_eq_true] at h; exact h.1
  obtain ⟨h1, h2, h3, h4⟩ := cyK_spec G hk
  have hv := wyS_ok G hk j
  obtain ⟨n1, n2, n3⟩ := G.nx_ok _ _ hv.ok hv.on
  have hS1 : (wyS es nx k (j + 1)).1 = nx (wyS es nx k j).2 (wyS es nx k j).1 := rfl
  have taken : ∀ y, y < es.length → onE es (wyS es nx k j).2 y = true → y ≠ (wyS es nx k (j + 1)).1 → eL (tjL es ok nx k (j + 1)) y = true := by
    intro y hyl hyo hne
    rw [tjL_at hyl]
    cases ho : ok y
    · simp
    · rcases G.one _ _ _ hv.ok ho hv.on hyo with e | e
      · have : (y : Int) ∈ cyP es nx k (j + 1) := cyP_mem.2 ⟨j, by omega, e.symm⟩
        simp [this]
      · exact absurd e hne
  have hnow : eL (tjL es ok nx k (j + 1)) (wyS es nx k (j + 1)).1 = decide (j + 1 = cyK es nx k) := by
    rw [tjL_at (G.lt _ (wyS_ok G hk (j + 1)).ok), (wyS_ok G hk (j + 1)).ok]
    have := mjL_now G h (j := j + 1) (by omega)
    rw [mjL_at (G.lt _ (wyS_ok G hk (j + 1)).ok)] at this
    simpa using this
  by_cases e : j + 1 = cyK es nx k
  · rw [if_pos e]
    unfold utF
    rw [List.find?_eq_none]
    intro y hy
    obtain ⟨hyl, hyo⟩ := onL_mem.1 hy
    by_cases e2 : y = (wyS es nx k (j + 1)).1
    · rw [e2, hnow, decide_eq_true e]
      decide
    · rw [taken y hyl hyo e2]
      decide
  · rw [if_neg e]
    refine find_first (onL_sorted _ _) (onL_mem.2 ⟨G.lt _ (wyS_ok G hk (j + 1)).ok, n2⟩) (by rw [hnow, decide_eq_false e]; rfl) fun y hy hp => ?_
    obtain ⟨hyl, hyo⟩ := onL_mem.1 hy
    by_cases e2 : y = (wyS es nx k (j + 1)).1
    · omega
    · rw [taken y hyl hyo e2] at hp
      exact absurd hp (by decide)
end

def lenT : Value → Nat | .slice _ n _ => n | _ => 0
theorem Box.keepT {w w' : World} {B n c : Nat} {s : Int} {p : Option Addr} (h : Box w B s p n c) (hk : w'.heap[B]? = w.heap[B]?) : Box w' B s p n c :=
  ⟨(World.cell?_of_block (w := w) (a := ⟨B, 0, none⟩) hk).trans h.1, (World.cell?_of_block (w := w) (a := ⟨B, 1, none⟩) hk).trans h.2⟩

set_option maxRecDepth 100000 in
set_option maxHeartbeats 16000000 in
theorem iTake_any (N b off n c gT k : Nat) (es : List (Int × Int)) (ok : Nat → Bool) (nx : Int → Nat → Nat) (w : World) (hn : es.length = n) (hbl : b < w.heap.size) (hbT : b ≠ gT) (hr : ReadsE w b off es) (T0 : TwoG N es ok nx) (hld : leadC es ok nx k = true) (ht : OwnB w gT n (tkL es ok nx k)) :
    Calls Try.prog 42 #[.agg #[.int .i64 N, .slice (some ⟨b, off, none⟩) n c], .int .i64 (eA es k), .slice (some ⟨gT, 0, none⟩) n n] w fun e' w' => ∃ q cap, e' = .returned (.slice q (cyL es nx k).length cap) ∧ FreshI w.heap.size w' q (cyL es nx k).length cap (cyL es nx k) ∧ OwnB w' gT n (tkL es ok nx (k + 1)) ∧ Kept (fun i => i < w.heap.size ∧ i ≠ gT) w w' := by
  have hn30 : n ≤ 30 := by have := isG_len T0.g; omega
  have hok : ok k = true := by unfold leadC at hld; rw [Bool.and_eq_true] at hld; exact hld.1
  have hkl := T0.lt k hok
  have hE := (endsIn_of T0.g k hkl)
  obtain ⟨V0, hV0⟩ : ∃ V0 : Nat, eA es k = V0 := ⟨_, (Int.toNat_of_nonneg hE.1.1).symm⟩
  obtain ⟨K, hK⟩ : ∃ K, cyK es nx k = K := ⟨_, rfl⟩
  obtain ⟨hK0, hKn, _, _⟩ := cyK_spec T0 hok
  rw [hK] at hK0 hKn
  have hK30 : K ≤ 30 := by omega
  have hgT := ht.lt
  have Hn := hid hn
  have Hr := hid hr
  have T := hid T0
  have HLd := hid hld
  have HOK := hid hok
  have HKc := hid hK
  have HVA := hid hV0
  have hut0 := ut_start T0 hld
  rw [hV0] at hut0 ⊢
  have HU0 := hid hut0
  have HO0 := hid (show othE es V0 k = eB es k by unfold othE; rw [hV0]; omega)
  obtain ⟨Y, hY⟩ : ∃ Y : Nat, eB es k = Y := ⟨_, (Int.toNat_of_nonneg hE.2.1).symm⟩
  have HY := hid hY
  have Ht := hid (show OwnB w gT n (tjL es ok nx k 0) by rw [tjL_zero]; exact ht)
  have hlen : (cyL es nx k).length = K := by unfold cyL; rw [cyP_len, hK]
  rw [hlen]
  have HLen := hid hlen
  obtain ⟨j0, hj, hy0, hy1, hy2⟩ := info_parts infoInt
  have Hj := hid hj
  clear hn hr T0 hld hok hkl hE hV0 hK hKn ht hut0 hY hlen hj
  go_enter Try.func42, Try.ntmps42
  have HX0 := hid (Box.new w N (some ⟨b, off, none⟩) n c 31)
  have HB0 := hid (on_alloc w (.cells #[.int .i64 N, .slice (some ⟨b, off, none⟩) n c] 31))
  obtain ⟨w2, hw2⟩ : ∃ w2, w2 = w.alloc (.cells #[.int .i64 N, .slice (some ⟨b, off, none⟩) n c] 31) := ⟨_, rfl⟩
  rw [← hw2] at HX0 HB0
  have hz2' := HX0.out.lt
  have hs2 := HB0.out.size
  have hw2s : w2.heap.size = w.heap.size + 1 := by rw [hw2]; simp
  go_wp2_with fail
  rw [← hw2]
  clear hw2
  refine (iUntaken_any N b off n c gT V0 es (tjL es ok nx k 0) _ Hn.out hn30 (by omega) (Hr.out.on HB0.out) (Ht.out.on HB0.out) (by rw [tjL_len, Hn.out])).mono ?_
  rw [HU0.out]
  dsimp only
  rw [HO0.out, HY.out]
  rintro e' w3 ⟨rfl, hb3⟩
  have HB3 := hid hb3
  have HX3 := hid (HX0.out.on hb3)
  have HT3 := hid ((Ht.out.on HB0.out).on hb3)
  have HR3 := hid (World.ownsRow_nil w3 (w.heap.size + 1) 2 1)
  have hw3s := hb3.size
  clear hb3
  go_wp2
  go_loopw [7, 8, 9, 10] (fun u v z t wx => ∃ (j cc F V : Nat) (q : Option Addr) (fd : Bool), j ≤ K ∧ u = .slice q j cc ∧ v = .int .i64 F ∧ z = .int .i64 V ∧ t = .bool fd ∧ Hid (fd = decide (j < K) ∧ (j < K → (wyS es nx k j).1 = F ∧ (wyS es nx k j).2 = V)) ∧ Hid (wx.ownsRow (w.heap.size + 1) 2 1 (.slice q j cc) j (intVals (cyP es nx k j)) ∧ OwnB wx gT n (tjL es ok nx k j)) ∧ Hid (Kept (fun i => i < w2.heap.size ∧ i ≠ gT) w2 wx)) (fun u _ _ _ _ => K - lenT u)
  case atStart => exact ⟨0, 0, k, Y, none, true, by omega, rfl, rfl, rfl, rfl, hid ⟨by rw [decide_eq_true hK0], fun _ => ⟨rfl, HY.out⟩⟩, hid ⟨HR3.out, HT3.out⟩, hid ((Kept.refl _ w2).call HB3.out)⟩
  case round =>
    obtain ⟨j, cc, F, V, q, fd, hj, rfl, rfl, rfl, rfl, hS, hOM, hKp⟩ := hrel
    clear HR3 HT3
    have hszx := hKp.out.size
    by_cases hlt : j < K
    · obtain ⟨hfd, hSS⟩ := hS.out
      rw [decide_eq_true hlt] at hfd
      subst hfd
      obtain ⟨hS1, hS2⟩ := hSS hlt
      have HS1 := hid hS1
      have HS2 := hid hS2
      have hV := wyS_ok T.out HOK.out j
      have hFl : F < es.length := by have := T.out.lt _ hV.ok; rw [hS1] at this; exact this
      have HFl := hid hFl
      have hFn : F < n := by have := Hn.out; omega
      have hFn' : (F : Int) < (n : Int) := by omega
      have hcF := hOM.out.2.cell (i := F) (by rw [tjL_len]; exact hFl)
      have hfF := hOM.out.2.free F
      have hgTx := hOM.out.2.lt
      obtain ⟨z, hz⟩ : ∃ z, eL (tjL es ok nx k j) F = z := ⟨_, rfl⟩
      rw [hz] at hcF
      have hun := ut_next T.out HLd.out (j := j) (by rw [HKc.out]; exact hlt)
      rw [hS2, HKc.out] at hun
      have HUn := hid hun
      have hrow : ∀ j', (Value.slice q j cc).ownBlock = some j' → w.heap.size + 1 ≤ j' ∧ j' < wr.heap.size := hOM.out.1.lt
      clear hS hSS hS1 hS2 hV hFl hz hun
      obtain ⟨wi, rfl⟩ : ∃ wi : World, wi = wr := ⟨_, rfl⟩
      have HSz := hid (show (wi.setCell ⟨gT, F, none⟩ (.bool true)).heap.size = wi.heap.size by simp [World.setCell])
      have HRow := hid (World.ownsRow.alloc (hOM.out.1.kept (gset (World.grownBy.refl wi (some gT)) F (.bool true)) (by
        by_cases h : (Value.slice q j cc).ownBlock = some gT
        · have := (hrow _ h).1; omega
        · exact .inr h)) (.cells #[.int .i64 F] 2))
      have HNew := hid (show ((wi.setCell ⟨gT, F, none⟩ (.bool true)).alloc (.cells #[.int .i64 F] 2)).heap[wi.heap.size]? = some (.cells #[.int .i64 F] 2 (0, 0)) by rw [← HSz.out]; exact heap_alloc_new _ _)
      have hj31 : j + 1 ≤ 31 := by omega
      go_wp2_with (at_builtin; go_must (refine wpList_append_lies _ rfl (.tmp 31) (.tmp 33) 25 rfl (w.heap.size + 1) 2 j0 (.int .i64 0) 1 8 Try.underlying25 Hj.out hy0 hy1 hy2 rfl (by decide) (.slice q j cc) j _ rfl HRow.out ⟨wi.heap.size, 0, none⟩ 1 1 [.int .i64 F] rfl rfl (World.news_of_block (cs := #[.int .i64 F]) (t := 2) (fr := (0, 0)) HNew.out) (by simp [Value.oneCell']) (by decide) (by unfold maxLen; omega) (by omega) (by rw [World.size_alloc, HSz.out]; omega) (wi.heap.size + 1) (by rw [World.size_alloc, HSz.out]) ?_); intro g7 cap7 w7 hown7 hgrow7 hlie7 hg7; have Hown7 := hid hown7; have Hgrow7 := hid hgrow7; have hKp7 : Kept (fun i => i < w2.heap.size ∧ i ≠ gT) w2 w7 := ((hKp.out.set (a := ⟨gT, F, none⟩) (fun h => h.2 rfl) (.bool true)).call (on_alloc _ (.cells #[.int .i64 F] 2))).row hgrow7 (fun r e h => by have h1 := h.1; have h2 := (hrow r e).1; omega); have HKp7 := hid hKp7; have hX7 := HX0.out.keepT (hKp7.same w.heap.size ⟨by omega, by omega⟩ (by omega)); have HX7 := hid hX7; have hx7 := hX7.1; have hy7 := hX7.2; have hz7 := hX7.lt; clear hown7 hgrow7 hlie7 hX7 hKp7)
      have HOM7 := hid (show OwnB w7 gT n (tjL es ok nx k (j + 1)) by
        rw [← tjL_step (by rw [HS1.out]; exact HFl.out), HS1.out]
        exact ((OwnB.set hOM.out.2 (by rw [tjL_len]; exact HFl.out) true).alloc (.cells #[.int .i64 F] 2)).keep (Hgrow7.out.block gT (by rw [World.size_alloc, HSz.out]; omega) (fun e => by have := (hrow _ e.symm).1; omega)))
      have hcy : intVals (cyP es nx k j) ++ [.int .i64 (F : Int)] = intVals (cyP es nx k (j + 1)) := by rw [cyP_succ, intVals_append, HS1.out]; rfl
      have HOc7 := hid (show w7.ownsRow (w.heap.size + 1) 2 1 (.slice (some ⟨g7, 0, none⟩) (j + 1) cap7) (j + 1) (intVals (cyP es nx k (j + 1))) by rw [← hcy]; exact Hown7.out)
      have HRe7 := hid (show ReadsE w7 b off es from (Hr.out.on HB0.out).keep (HKp7.out.same b ⟨by omega, hbT⟩ (by omega)))
      have hb7 : b < w7.heap.size := by have := HKp7.out.size; omega
      clear hcy hx7 hy7 hz7
      refine (iUntaken_any N b off n c gT V es (tjL es ok nx k (j + 1)) _ Hn.out hn30 hb7 HRe7.out HOM7.out (by rw [tjL_len, Hn.out])).mono ?_
      rw [HUn.out]
      by_cases hend : j + 1 = K
      · rw [if_pos hend]
        dsimp only
        rintro e' w8 ⟨rfl, hb8⟩
        have HB8 := hid hb8
        have HEnd := hid hend
        clear hb8 hend
        go_wp2
        go_roundw
        case rel => exact ⟨j + 1, cap7, 0, 0, some ⟨g7, 0, none⟩, false, by omega, rfl, rfl, rfl, rfl, hid ⟨by rw [decide_eq_false (by have := HEnd.out; omega)], fun h => by have := HEnd.out; omega⟩, hid ⟨HOc7.out.kept (below_grown HB8.out) (Or.inr (by intro h; cases h)), HOM7.out.on HB8.out⟩, hid (HKp7.out.call HB8.out)⟩
        case measure => simp [lenT]; omega
      · rw [if_neg hend]
        dsimp only
        have hj2 : j + 1 < K := by omega
        have hs2' : othE es V (wyS es nx k (j + 1)).1 = (wyS es nx k (j + 1)).2 := by rw [← HS2.out]; rfl
        have hv2 := wyS_rng T.out (wyS_ok T.out HOK.out (j + 1))
        rw [hs2']
        obtain ⟨F2, hF2⟩ : ∃ F2, (wyS es nx k (j + 1)).1 = F2 := ⟨_, rfl⟩
        obtain ⟨V2, hV2⟩ : ∃ V2 : Nat, (wyS es nx k (j + 1)).2 = V2 := ⟨_, (Int.toNat_of_nonneg hv2.1).symm⟩
        rw [hF2, hV2]
        have HF2 := hid (And.intro hF2 hV2)
        rintro e' w8 ⟨rfl, hb8⟩
        have HB8 := hid hb8
        clear hb8 hend hs2' hv2 hF2 hV2
        go_wp2
        go_roundw
        case rel => exact ⟨j + 1, cap7, F2, V2, some ⟨g7, 0, none⟩, true, by omega, rfl, rfl, rfl, rfl, hid ⟨by rw [decide_eq_true hj2], fun _ => HF2.out⟩, hid ⟨HOc7.out.kept (below_grown HB8.out) (Or.inr (by intro h; cases h)), HOM7.out.on HB8.out⟩, hid (HKp7.out.call HB8.out)⟩
        case measure => simp [lenT]; omega
    · obtain rfl : j = K := by omega
      have hfd := hS.out.1
      rw [decide_eq_false (by omega)] at hfd
      subst hfd
      go_wp2
      go_ret
      have hF : FreshI (w.heap.size + 1) wr q j cc (cyL es nx k) := ⟨by have h := hOM.out.1; unfold cyL; rw [HKc.out]; exact h, HLen.out⟩
      exact ⟨q, cc, rfl, FreshI.less hF (by omega), by have h := hOM.out.2; rw [← HKc.out, tjL_end HLd.out] at h; exact h, ⟨hKp.out.os.trans HB0.out.os, hKp.out.tape.trans HB0.out.tape, hKp.out.output.trans HB0.out.output, by omega, fun i hi hl => (hKp.out.same i ⟨by have := hi.1; omega, hi.2⟩ (by omega)).trans (HB0.out.block i hi.1)⟩⟩

end Go.Proofs.Ythncgpbgffbpgaa
