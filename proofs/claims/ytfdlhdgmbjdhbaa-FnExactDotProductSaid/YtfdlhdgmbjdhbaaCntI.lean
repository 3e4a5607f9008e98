/- How often each edge stands in a graph, in the program: countsOfEdges. -/
import Derived.Test.YtfdlhdgmbjdhbaaGraphs
import Derived.Test.YtfdlhdgmbjdhbaaLawsF
import Derived.Test.YtfdlhdgmbjdhbaaMapE
import Derived.WideKeyEntry
import Derived.BigRegion

/- How many edges join two vertices, and the first one of them, in the model. -/
namespace Go.Proofs.Ytfdlhdgmbjdhbaa
open Go.RowKit

/-- An edge has just these ends. -/
def jnP (es : List (Int × Int)) (x y : Int) (i : Nat) : Bool := eA es i == x && eB es i == y
def jcU (es : List (Int × Int)) (x y : Int) (k : Nat) : Nat := ((List.range k).filter (jnP es x y)).length
/-- The first of the first k edges that has these ends, -1 if none has. -/
def jfU (es : List (Int × Int)) (x y : Int) (k : Nat) : Int := match (List.range k).find? (jnP es x y) with
  | some i => (i : Int)
  | none => -1
theorem jcU_yes {es : List (Int × Int)} {x y : Int} {k : Nat} (h : jnP es x y k = true) : jcU es x y (k + 1) = jcU es x y k + 1 := by
  unfold jcU
  rw [List.range_succ, List.filter_append, List.length_append]
  simp [h]
theorem jcU_no {es : List (Int × Int)} {x y : Int} {k : Nat} (h : jnP es x y k = false) : jcU es x y (k + 1) = jcU es x y k := by
  unfold jcU
  rw [List.range_succ, List.filter_append, List.length_append]
  simp [h]
theorem jcU_le (es : List (Int × Int)) (x y : Int) (k : Nat) : jcU es x y k ≤ k := by
  unfold jcU
  exact Nat.le_trans (List.length_filter_le _ _) (by simp)
theorem jfU_succ (es : List (Int × Int)) (x y : Int) (k : Nat) : jfU es x y (k + 1) = if jfU es x y k < 0 then (if jnP es x y k = true then (k : Int) else -1) else jfU es x y k := by
  unfold jfU
  rw [List.range_succ, List.find?_append]
  cases h : (List.range k).find? (jnP es x y) with
  | some i =>
    have hi : ¬ ((i : Int) < 0) := by omega
    simp [hi]
  | none => cases hp : jnP es x y k <;> simp [hp]

theorem jfU_neg {es : List (Int × Int)} {x y F : Int} {k : Nat} (h : jfU es x y k = F) (hF : F < 0) : F = -1 := by
  unfold jfU at h
  cases hc : (List.range k).find? (jnP es x y) with
  | some i => rw [hc] at h; dsimp only at h; omega
  | none => rw [hc] at h; exact h.symm

set_option maxRecDepth 100000 in
set_option maxHeartbeats 4000000 in
theorem sJoined_le (s a d : Int) (b off n c : Nat) (es : List (Int × Int)) (w : World) (hn : es.length = n) (hn30 : n ≤ 30) (hr : ReadsE w b off es) (hbl : b < w.heap.size) (hle : a ≤ d) :
    Calls Try.prog 28 #[.agg #[.int .i64 s, .slice (some ⟨b, off, none⟩) n c], .int .i64 a, .int .i64 d] w fun e w' => e = .returned (.tuple #[.int .i64 (jcU es a d n), .int .i64 (jfU es a d n)]) ∧ Below w.heap.size w w' := by
  have Hn := hid hn
  have Hr := hid hr
  clear hn hr
  go_enter Try.func28, Try.ntmps28
  go_wp2_with fail
  obtain ⟨W1, hW1⟩ : ∃ W1, W1 = w.alloc (.cells #[.int .i64 s, .slice (some ⟨b, off, none⟩) n c] 28) := ⟨_, rfl⟩
  have hX1 : Box W1 w.heap.size s (some ⟨b, off, none⟩) n c := by rw [hW1]; exact Box.new w s (some ⟨b, off, none⟩) n c 28
  have HB1 : Hid (Below w.heap.size w W1) := hid (by rw [hW1]; exact on_alloc _ _)
  have hbW : b < W1.heap.size := by rw [hW1, World.size_alloc]; omega
  have hx1 := hX1.1
  have hy1 := hX1.2
  have hl1 := hX1.lt
  rw [← hW1]
  clear hW1 hX1
  go_loopw [8, 9, 10] (fun u f i wr => ∃ (k C : Nat) (F : Int), k ≤ n ∧ Hid (jcU es a d k = C) ∧ Hid (jfU es a d k = F) ∧ u = .int .i64 C ∧ f = .int .i64 F ∧ i = .int .i64 k ∧ W1 = wr) (fun _ _ i _ => n - (intOf i).toNat)
  case atStart => exact ⟨0, 0, -1, Nat.zero_le _, hid rfl, hid rfl, rfl, rfl, rfl, rfl⟩
  case round =>
    obtain ⟨k, C, F, hk, hC, hF, rfl, rfl, rfl, rfl⟩ := hrel
    by_cases hlt : k < n
    · have hml : k < es.length := by rw [Hn.out]; exact hlt
      have hc1 := (Hr.out.on HB1.out k hml).1
      have hc2 := (Hr.out.on HB1.out k hml).2
      obtain ⟨X, hX⟩ : ∃ X, eA es k = X := ⟨_, rfl⟩
      obtain ⟨Y, hY⟩ : ∃ Y, eB es k = Y := ⟨_, rfl⟩
      rw [hX] at hc1
      rw [hY] at hc2
      have hC30 : C < 31 := by have h := jcU_le es a d k; rw [hC.out] at h; omega
      have hjp : jnP es a d k = (X == a && Y == d) := by unfold jnP; rw [hX, hY]
      have hfs := hid (jfU_succ es a d k)
      by_cases e1 : X = a
      · by_cases e2 : Y = d
        · have b1 : (X == a) = true := by simpa using e1
          have b2 : (Y == d) = true := by simpa using e2
          have hcy := hid (jcU_yes (show jnP es a d k = true by rw [hjp, b1, b2]; rfl))
          have HJ := hid (show jnP es a d k = true by rw [hjp, b1, b2]; rfl)
          by_cases hf : F < 0
          · have hfb : decide (F < 0) = true := decide_eq_true hf
            have HFn := hid (show jfU es a d (k + 1) = k by rw [hfs.out, hF.out, if_pos hf, if_pos HJ.out])
            clear hjp hX hY e1 e2 hf
            go_wp2_with fail
            go_roundw
            case rel => exact ⟨k + 1, C + 1, k, by omega, hid (by rw [hcy.out, hC.out]), HFn, by go_num, rfl, by go_num, trivial⟩
            case measure => simp [intOf]; omega
          · have hfb : decide (F < 0) = false := decide_eq_false hf
            have HFn := hid (show jfU es a d (k + 1) = F by rw [hfs.out, hF.out, if_neg hf])
            clear hjp hX hY e1 e2 hf
            go_wp2_with fail
            go_roundw
            case rel => exact ⟨k + 1, C + 1, F, by omega, hid (by rw [hcy.out, hC.out]), HFn, by go_num, rfl, by go_num, trivial⟩
            case measure => simp [intOf]; omega
        · have b1 : (X == a) = true := by simpa using e1
          have b2 : (Y == d) = false := by simpa using e2
          have HJ := hid (show jnP es a d k = false by rw [hjp, b1, b2]; rfl)
          have hcy := hid (jcU_no HJ.out)
          have HFn := hid (show jfU es a d (k + 1) = F by rw [hfs.out, hF.out, HJ.out]; by_cases h : F < 0; (rw [if_pos h]; exact (jfU_neg hF.out h).symm); rw [if_neg h])
          clear hjp hX hY e1 e2
          go_wp2_with fail
          go_roundw
          case rel => exact ⟨k + 1, C, F, by omega, hid (by rw [hcy.out, hC.out]), HFn, rfl, rfl, by go_num, trivial⟩
          case measure => simp [intOf]; omega
      · have b1 : (X == a) = false := by simpa using e1
        have HJ := hid (show jnP es a d k = false by rw [hjp, b1]; rfl)
        have hcy := hid (jcU_no HJ.out)
        have HFn := hid (show jfU es a d (k + 1) = F by rw [hfs.out, hF.out, HJ.out]; by_cases h : F < 0; (rw [if_pos h]; exact (jfU_neg hF.out h).symm); rw [if_neg h])
        clear hjp hX hY e1
        go_wp2_with fail
        go_roundw
        case rel => exact ⟨k + 1, C, F, by omega, hid (by rw [hcy.out, hC.out]), HFn, rfl, rfl, by go_num, trivial⟩
        case measure => simp [intOf]; omega
    · obtain rfl : k = n := by omega
      go_wp2_with fail
      go_ret2
      exact ⟨by rw [hC.out, hF.out]; rfl, HB1.out⟩

set_option maxRecDepth 100000 in
set_option maxHeartbeats 4000000 in
theorem sJoined_gt (s a d : Int) (b off n c : Nat) (es : List (Int × Int)) (w : World) (hn : es.length = n) (hn30 : n ≤ 30) (hr : ReadsE w b off es) (hbl : b < w.heap.size) (hle : ¬ a ≤ d) :
    Calls Try.prog 28 #[.agg #[.int .i64 s, .slice (some ⟨b, off, none⟩) n c], .int .i64 a, .int .i64 d] w fun e w' => e = .returned (.tuple #[.int .i64 (jcU es d a n), .int .i64 (jfU es d a n)]) ∧ Below w.heap.size w w' := by
  have Hn := hid hn
  have Hr := hid hr
  clear hn hr
  go_enter Try.func28, Try.ntmps28
  go_wp2_with fail
  obtain ⟨W1, hW1⟩ : ∃ W1, W1 = w.alloc (.cells #[.int .i64 s, .slice (some ⟨b, off, none⟩) n c] 28) := ⟨_, rfl⟩
  have hX1 : Box W1 w.heap.size s (some ⟨b, off, none⟩) n c := by rw [hW1]; exact Box.new w s (some ⟨b, off, none⟩) n c 28
  have HB1 : Hid (Below w.heap.size w W1) := hid (by rw [hW1]; exact on_alloc _ _)
  have hbW : b < W1.heap.size := by rw [hW1, World.size_alloc]; omega
  have hx1 := hX1.1
  have hy1 := hX1.2
  have hl1 := hX1.lt
  rw [← hW1]
  clear hW1 hX1
  go_loopw [8, 9, 10] (fun u f i wr => ∃ (k C : Nat) (F : Int), k ≤ n ∧ Hid (jcU es d a k = C) ∧ Hid (jfU es d a k = F) ∧ u = .int .i64 C ∧ f = .int .i64 F ∧ i = .int .i64 k ∧ W1 = wr) (fun _ _ i _ => n - (intOf i).toNat)
  case atStart => exact ⟨0, 0, -1, Nat.zero_le _, hid rfl, hid rfl, rfl, rfl, rfl, rfl⟩
  case round =>
    obtain ⟨k, C, F, hk, hC, hF, rfl, rfl, rfl, rfl⟩ := hrel
    by_cases hlt : k < n
    · have hml : k < es.length := by rw [Hn.out]; exact hlt
      have hc1 := (Hr.out.on HB1.out k hml).1
      have hc2 := (Hr.out.on HB1.out k hml).2
      obtain ⟨X, hX⟩ : ∃ X, eA es k = X := ⟨_, rfl⟩
      obtain ⟨Y, hY⟩ : ∃ Y, eB es k = Y := ⟨_, rfl⟩
      rw [hX] at hc1
      rw [hY] at hc2
      have hC30 : C < 31 := by have h := jcU_le es d a k; rw [hC.out] at h; omega
      have hjp : jnP es d a k = (X == d && Y == a) := by unfold jnP; rw [hX, hY]
      have hfs := hid (jfU_succ es d a k)
      by_cases e1 : X = d
      · by_cases e2 : Y = a
        · have b1 : (X == d) = true := by simpa using e1
          have b2 : (Y == a) = true := by simpa using e2
          have hcy := hid (jcU_yes (show jnP es d a k = true by rw [hjp, b1, b2]; rfl))
          have HJ := hid (show jnP es d a k = true by rw [hjp, b1, b2]; rfl)
          by_cases hf : F < 0
          · have hfb : decide (F < 0) = true := decide_eq_true hf
            have HFn := hid (show jfU es d a (k + 1) = k by rw [hfs.out, hF.out, if_pos hf, if_pos HJ.out])
            clear hjp hX hY e1 e2 hf
            go_wp2_with fail
            go_roundw
            case rel => exact ⟨k + 1, C + 1, k, by omega, hid (by rw [hcy.out, hC.out]), HFn, by go_num, rfl, by go_num, trivial⟩
            case measure => simp [intOf]; omega
          · have hfb : decide (F < 0) = false := decide_eq_false hf
            have HFn := hid (show jfU es d a (k + 1) = F by rw [hfs.out, hF.out, if_neg hf])
            clear hjp hX hY e1 e2 hf
            go_wp2_with fail
            go_roundw
            case rel => exact ⟨k + 1, C + 1, F, by omega, hid (by rw [hcy.out, hC.out]), HFn, by go_num, rfl, by go_num, trivial⟩
            case measure => simp [intOf]; omega
        · have b1 : (X == d) = true := by simpa using e1
          have b2 : (Y == a) = false := by simpa using e2
          have HJ := hid (show jnP es d a k = false by rw [hjp, b1, b2]; rfl)
          have hcy := hid (jcU_no HJ.out)
          have HFn := hid (show jfU es d a (k + 1) = F by rw [hfs.out, hF.out, HJ.out]; by_cases h : F < 0; (rw [if_pos h]; exact (jfU_neg hF.out h).symm); rw [if_neg h])
          clear hjp hX hY e1 e2
          go_wp2_with fail
          go_roundw
          case rel => exact ⟨k + 1, C, F, by omega, hid (by rw [hcy.out, hC.out]), HFn, rfl, rfl, by go_num, trivial⟩
          case measure => simp [intOf]; omega
      · have b1 : (X == d) = false := by simpa using e1
        have HJ := hid (show jnP es d a k = false by rw [hjp, b1]; rfl)
        have hcy := hid (jcU_no HJ.out)
        have HFn := hid (show jfU es d a (k + 1) = F by rw [hfs.out, hF.out, HJ.out]; by_cases h : F < 0; (rw [if_pos h]; exact (jfU_neg hF.out h).symm); rw [if_neg h])
        clear hjp hX hY e1
        go_wp2_with fail
        go_roundw
        case rel => exact ⟨k + 1, C, F, by omega, hid (by rw [hcy.out, hC.out]), HFn, rfl, rfl, by go_num, trivial⟩
        case measure => simp [intOf]; omega
    · obtain rfl : k = n := by omega
      go_wp2_with fail
      go_ret2
      exact ⟨by rw [hC.out, hF.out]; rfl, HB1.out⟩

theorem sJoined_any (s a d x y : Int) (b off n c : Nat) (es : List (Int × Int)) (w : World) (hn : es.length = n) (hn30 : n ≤ 30) (hr : ReadsE w b off es) (hbl : b < w.heap.size) (hx : min a d = x) (hy : max a d = y) :
    Calls Try.prog 28 #[.agg #[.int .i64 s, .slice (some ⟨b, off, none⟩) n c], .int .i64 a, .int .i64 d] w fun e w' => e = .returned (.tuple #[.int .i64 (jcU es x y n), .int .i64 (jfU es x y n)]) ∧ Below w.heap.size w w' := by
  by_cases h : a ≤ d
  · obtain rfl : x = a := by omega
    obtain rfl : y = d := by omega
    exact sJoined_le s x y b off n c es w hn hn30 hr hbl h
  · obtain rfl : x = d := by omega
    obtain rfl : y = a := by omega
    exact sJoined_gt s y x b off n c es w hn hn30 hr hbl h

end Go.Proofs.Ytfdlhdgmbjdhbaa

/- Maps that are keyed by edges and hold numbers, as the call makes them. -/
namespace Go.Proofs.Ytfdlhdgmbjdhbaa
open Go.RowKit Go.Maps Go.ChangeShapes Go.WideShapes Go.WideMaps Go.WideElems Go.ChangeMaps

theorem zeroN (w : World) : (zeroValue 2).run Try.prog w = .ok (.int .i64 0) w := by kernel_rfl
theorem edgeLaw0 : KeyLaw Try.prog 57 := deep_law_laid (by kernel_rfl) (m := 2) (by omega) (of_decide_eq_true (by kernel_rfl)) (by kernel_rfl) (by rw [Try.underlying57])

/-- Block b is a map of at most n edges, with these numbers. -/
def MapN (w : World) (b n : Nat) (F : Int → Int → Int) : Prop := ∃ D : DataW Unit, w.ownsMap Try.prog 57 (plainElem Try.prog 2) b n D ∧ IsMap D ∧
  ∀ x y kl, keyOf Try.prog 57 (.agg #[.int .i64 x, .int .i64 y]) = some kl → D.atKey kl (.lit (.int .i64 0)) = .lit (.int .i64 (F x y))

section
variable {w w' : World} {b n : Nat} {F : Int → Int → Int}
theorem MapN.made (w : World) : MapN (w.alloc (.map #[] 0)) w.heap.size 0 (fun _ _ => 0) :=
  ⟨.map [], World.ownsMap_made w _ _ _, isMap_empty, fun x y kl _ => by simp [DataW.atKey]⟩
theorem MapN.lt (h : MapN w b n F) : b < w.heap.size := h.choose_spec.1.lt
theorem MapN.same (h : MapN w b n F) (he : w'.heap[b]? = w.heap[b]?) : MapN w' b n F := by
  obtain ⟨D, ⟨es, clock, hb, r⟩, h2, h3⟩ := h
  exact ⟨D, ⟨es, clock, he.trans hb, r⟩, h2, h3⟩
theorem MapN.on (h : MapN w b n F) (hb : Below w.heap.size w w') : MapN w' b n F := h.same (hb.block b h.lt)
theorem MapN.drew (h : MapN w b n F) : MapN w.drew b n F := h
theorem MapN.fun {G : Int → Int → Int} (h : MapN w b n F) (he : ∀ x y, F x y = G x y) : MapN w b n G := by
  obtain ⟨D, h1, h2, h3⟩ := h
  exact ⟨D, h1, h2, fun x y kl hk => by rw [h3 x y kl hk, he]⟩
set_option maxRecDepth 100000 in
theorem MapN.look {T : TypeId} (h : MapN w b n F) (hT : Try.prog.underlying T = some (.map 57 2)) {x y : Int} (wx : (Lit.int .i64 x).wf = true) (wy : (Lit.int .i64 y).wf = true) :
    (Instr.lookup T (.map (some b)) (.agg #[.int .i64 x, .int .i64 y]) false).run Try.prog w = .ok (.int .i64 (F x y)) w := by
  obtain ⟨D, h1, h2, h3⟩ := h
  obtain ⟨c, hrun, hc, _⟩ := h1.lookup_int edgeLaw hT Try.underlying2 (zeroN w) (edgeKey wx wy)
  rw [h3 x y _ (edgeKey wx wy)] at hc
  simp only [DataW.lit.injEq, Lit.int.injEq, true_and] at hc
  rw [hrun, hc]

/-- One key's number is another one. -/
def putN (F : Int → Int → Int) (x y c : Int) : Int → Int → Int := fun x' y' => if x' = x ∧ y' = y then c else F x' y'

theorem MapN.putS (h : MapN w b n F) {T : TypeId} (hT : Try.prog.underlying T = some (.map 57 2)) (hn : n < maxLen) {x y c : Int} (wx : (Lit.int .i64 x).wf = true) (wy : (Lit.int .i64 y).wf = true) (wc : (Lit.int .i64 c).wf = true) :
    ∃ w', (Instr.mapUpdate T (.map (some b)) (.agg #[.int .i64 x, .int .i64 y]) (.int .i64 c)).run Try.prog w = .ok () w' ∧ MapN w' b (n + 1) (putN F x y c) ∧ w.grownBy w' (some b) := by
  obtain ⟨D, h1, h2, h3⟩ := h
  have hk := edgeKey wx wy
  obtain ⟨w', hrun, h4, h5⟩ := h1.update edgeLaw hT hn hk (plainElem_int Try.underlying2 wc)
  refine ⟨w', hrun, ⟨_, h4, h2.put _ _, fun x' y' kl hk2 => ?_⟩, h5⟩
  unfold putN
  by_cases e : kl = .string (keyBytes [.int .i64 x, .int .i64 y])
  · subst e
    rw [atKey_put_same h2 (edgeLaw.key hk2)]
    have e3 := agg_two (edgeLaw.inj hk2 hk)
    rw [if_pos e3]
  · rw [atKey_put_other e, h3 x' y' kl hk2]
    rw [if_neg (fun h => e (by
      obtain ⟨h6, h7⟩ := h
      subst h6; subst h7
      exact Option.some.inj (hk2.symm.trans hk)))]

set_option maxRecDepth 100000 in
/-- The entry of a key with its number, and then a store into it. -/
theorem MapN.entry {T : TypeId} (h : MapN w b n F) (hT : Try.prog.underlying T = some (.map 57 2)) (hn : n < maxLen) {x y c : Int} (wx : (Lit.int .i64 x).wf = true) (wy : (Lit.int .i64 y).wf = true) (wc : (Lit.int .i64 c).wf = true) :
    ∃ (st : Nat) (W2 W4 : World), (Instr.mapEntry T (.map (some b)) (.agg #[.int .i64 x, .int .i64 y])).run Try.prog w = .ok (.tuple #[.int .i64 (F x y), .int .i64 (st : Int)]) W2 ∧
      (Instr.lookup T (.map (some b)) (.agg #[.int .i64 x, .int .i64 y]) false).run Try.prog W2 = .ok (.int .i64 (F x y)) W2 ∧
      (Instr.entryStore T (.map (some b)) (.int .i64 (st : Int)) (.int .i64 c)).run Try.prog W2 = .ok () W4 ∧ MapN W4 b (n + 1) (putN F x y c) ∧ w.grownBy W4 (some b) := by
  have hM := h
  obtain ⟨D, h1, h2, h3⟩ := h
  have h1' := h1
  obtain ⟨es, clock, hb, Ft, hs, hD⟩ := h1
  have hk := edgeKey wx wy
  obtain ⟨v0, st, es1, clock1, hE, hcase, hS⟩ := entry_then_store edgeLaw0 hT zeroN hb Ft hk
  have hv0 : v0 = .int .i64 (F x y) := by
    rcases hcase with ⟨e1, hm1, hk1, hv1⟩ | ⟨hno, hv1⟩
    · obtain ⟨y1, hy⟩ := Ft.reads e1 hm1
      obtain ⟨z, hz, _⟩ := rd_val hy
      have hat := atKey_some edgeLaw0 Ft hk hm1 hk1 hz (.lit (.int .i64 0))
      rw [← hD, h3 x y _ hk] at hat
      obtain ⟨a, ha, hz2, _⟩ := plainElem_int_inv Try.underlying2 hz
      rw [hz2] at hat
      simp only [DataW.lit.injEq, Lit.int.injEq, true_and] at hat
      rw [hv1, ha, hat]
    · have hat := atKey_none edgeLaw0 Ft hk hno (.lit (.int .i64 0))
      rw [← hD, h3 x y _ hk] at hat
      simp only [DataW.lit.injEq, Lit.int.injEq, true_and] at hat
      rw [hv1, hat]
  obtain ⟨w', hrun, h4, h5⟩ := hM.putS hT hn wx wy wc
  obtain ⟨es', clock', hrunS, hrunU⟩ := hS (setBlock w b (.map es1 clock1)) (.int .i64 c) (heap_setBlock_same hb _)
  have hw' : w' = setBlock w b (.map es' clock') := by
    have := hrun.symm.trans hrunU
    injection this
  have hM2 : MapN (setBlock w b (.map es1 clock1)) b (n + 1) F := by
    rcases edgeLaw0.find w hk es.toList Ft.keys with ⟨f1, f2⟩ | ⟨j, e0, f1, f2, f3⟩
    · have e1 : (Instr.mapEntry T (.map (some b)) (.agg #[.int .i64 x, .int .i64 y])).run Try.prog w = .ok (.tuple #[.int .i64 0, goInt clock]) (setBlock w b (.map (es.push ⟨.agg #[.int .i64 x, .int .i64 y], .int .i64 0, clock⟩) (clock + 1))) := by
        simp [Instr.mapEntry, run_underlying hT, MapKept.run_getObj_map hb, edgeLaw0.check w false hk, f1, MapKept.run_setObj_map _ hb, Result.andThen, setBlock]
      have e2 : (Instr.mapUpdate T (.map (some b)) (.agg #[.int .i64 x, .int .i64 y]) (.int .i64 0)).run Try.prog w = .ok () (setBlock w b (.map (es.push ⟨.agg #[.int .i64 x, .int .i64 y], .int .i64 0, clock⟩) (clock + 1))) := by
        simp [Instr.mapUpdate, run_underlying hT, MapKept.run_getObj_map hb, edgeLaw0.check w false hk, f1, MapKept.run_setObj_map _ hb, Result.andThen, setBlock]
      have e3 := hE.symm.trans e1
      injection e3 with e4 e5
      obtain ⟨w9, hrun9, h9, _⟩ := hM.putS hT hn wx wy (c := 0) (by decide)
      have e6 := hrun9.symm.trans e2
      injection e6 with e7 e8
      have hF0 : F x y = 0 := by
        rw [hv0] at e4
        injection e4 with e9
        have := congrArg Array.toList e9
        simp at this
        exact this.1
      rw [e5, ← e8]
      refine h9.fun fun x' y' => ?_
      unfold putN
      split
      · rename_i h
        rw [h.1, h.2, hF0]
      · rfl
    · have hj : es[j]? = some e0 := by simpa using f2
      have hsame : es.modify j (fun e => { e with key := .agg #[.int .i64 x, .int .i64 y] }) = es := by
        apply Array.ext'
        rw [Array.toList_modify, modify_eq_set _ _ _ _ f2]
        have : ({ e0 with key := .agg #[.int .i64 x, .int .i64 y] } : MapEntry) = e0 := by rw [← f3]
        rw [this]
        exact set_self _ _ _ f2
      have e1 : (Instr.mapEntry T (.map (some b)) (.agg #[.int .i64 x, .int .i64 y])).run Try.prog w = .ok (.tuple #[e0.val, goInt e0.born]) (setBlock w b (.map es clock)) := by
        simp [Instr.mapEntry, run_underlying hT, MapKept.run_getObj_map hb, edgeLaw0.check w false hk, f1, hj, f3, edgeLaw0.stays w hk, hsame, MapKept.run_setObj_map _ hb, Result.andThen, setBlock]
      have e3 := hE.symm.trans e1
      injection e3 with e4 e5
      rw [e5]
      obtain ⟨D, ⟨es2, clock2, hb2, r⟩, q2, q3⟩ := hM.same (w' := setBlock w b (.map es clock)) (by rw [heap_setBlock_same hb, hb])
      exact ⟨D, ⟨es2, clock2, hb2, r.1, by omega, r.2.2⟩, q2, q3⟩
  refine ⟨st, setBlock w b (.map es1 clock1), setBlock (setBlock w b (.map es1 clock1)) b (.map es' clock'), by rw [← hv0]; exact hE, hM2.look hT wx wy, hrunS, h4.same ?_, ?_⟩
  · rw [hw', heap_setBlock_same hb, heap_setBlock_same (heap_setBlock_same hb _)]
  · refine ⟨rfl, rfl, rfl, by simp [setBlock], fun i _ hi => ?_⟩
    have hne : i ≠ b := fun e => hi (by rw [e])
    rw [heap_setBlock_other (heap_setBlock_same hb _) _ hne, heap_setBlock_other hb _ hne]
end

end Go.Proofs.Ytfdlhdgmbjdhbaa

namespace Go.Proofs.Ytfdlhdgmbjdhbaa
open Go.RowKit

attribute [local go_sem] Oper.semAt_some

/-- How often an edge stands among the first k ones. -/
def jnN (es : List (Int × Int)) (k : Nat) : Int → Int → Int := fun x y => ((jcU es x y k : Nat) : Int)
theorem jnN_succ (es : List (Int × Int)) (k : Nat) (x y : Int) : putN (jnN es k) (eA es k) (eB es k) (jnN es k (eA es k) (eB es k) + 1) x y = jnN es (k + 1) x y := by
  unfold putN jnN
  by_cases h : x = eA es k ∧ y = eB es k
  · rw [if_pos h, h.1, h.2, jcU_yes (by unfold jnP; simp)]
    simp
  · rw [if_neg h, jcU_no (by
      unfold jnP
      rw [Bool.and_eq_false_iff, beq_eq_false_iff_ne, beq_eq_false_iff_ne]
      by_cases h1 : eA es k = x
      · exact .inr fun h2 => h ⟨h1.symm, h2.symm⟩
      · exact .inl h1)]
theorem jnN_zero (es : List (Int × Int)) (x y : Int) : (0 : Int) = jnN es 0 x y := by unfold jnN jcU; simp
theorem wf_small {c : Int} (h : 0 ≤ c ∧ c ≤ 1000) : (Lit.int .i64 c).wf = true := WalkArith.wf_i64 (by omega)

set_option maxRecDepth 100000 in
set_option maxHeartbeats 8000000 in
theorem iCounts_any (s : Int) (b off n c : Nat) (es : List (Int × Int)) (w : World) (hn : es.length = n) (hn100 : n ≤ 100) (hr : ReadsE w b off es) (_ : b < w.heap.size) (hwf : ∀ i, i < es.length → (Lit.int .i64 (eA es i)).wf = true ∧ (Lit.int .i64 (eB es i)).wf = true) :
    Calls Try.prog 37 #[.agg #[.int .i64 s, .slice (some ⟨b, off, none⟩) n c]] w fun e w' => ∃ m, e = .returned (.map (some m)) ∧ w.heap.size ≤ m ∧ MapN w' m n (jnN es n) ∧ Below w.heap.size w w' := by
  have Hn := hid hn
  have Hr := hid hr
  have Hw := hid hwf
  have hmm := @run_makeMap Try.prog
  clear hn hr hwf
  go_enter Try.func37, Try.ntmps37
  go_wp2
  have HM0 := hid ((MapN.made (w.alloc (.cells #[.int .i64 s, .slice (some ⟨b, off, none⟩) n c] 28))).fun (jnN_zero es))
  have HB0 := hid (bfrom (on_alloc w (.cells #[.int .i64 s, .slice (some ⟨b, off, none⟩) n c] 28)) (on_alloc _ (.map #[] 0)))
  rw [World.size_alloc] at HM0
  go_loopw [10] (fun v wr => ∃ k : Nat, k ≤ n ∧ v = .int .i64 k ∧ Hid (MapN wr (w.heap.size + 1) k (jnN es k)) ∧ Hid (Below w.heap.size w wr)) (fun v _ => n - (intOf v).toNat)
  case atStart => exact ⟨0, Nat.zero_le _, rfl, HM0, HB0⟩
  case round =>
    obtain ⟨k, hk, rfl, hM, hB⟩ := hrel
    obtain ⟨wo, rfl⟩ : ∃ wo : World, wo = wr := ⟨_, rfl⟩
    by_cases hlt : k < n
    · have hlt' : (k : Int) < (n : Int) := by omega
      have hkl : k < es.length := by rw [Hn.out]; exact hlt
      have hJs := jnN_succ es k
      obtain ⟨X, hX⟩ : ∃ X, eA es k = X := ⟨_, rfl⟩
      obtain ⟨Y, hY⟩ : ∃ Y, eB es k = Y := ⟨_, rfl⟩
      have hc1 := (Hr.out.on hB.out k hkl).1
      have hc2 := (Hr.out.on hB.out k hkl).2
      have hw1 := Hw.out k hkl
      rw [hX] at hc1 hw1 hJs
      rw [hY] at hc2 hw1 hJs
      have hbw := World.block_lt_of_cell? wo _ hc1
      dsimp only at hbw
      obtain ⟨C, hC⟩ : ∃ C, jnN es k X Y = C := ⟨_, rfl⟩
      have hC0 : 0 ≤ C ∧ C ≤ 100 := by
        have h := jcU_le es X Y k
        rw [← hC]
        unfold jnN
        omega
      have hCw : IntKind.i64.wrap (C + 1) = C + 1 := IntWalk.i64_in _ (by omega)
      rw [hC] at hJs
      have HJs := hid hJs
      have hMa := (hM.out.on (on_alloc wo (.cells #[.int .i64 X, .int .i64 Y] 57))).drew
      have hlook := hMa.look Try.underlying63 hw1.1 hw1.2
      obtain ⟨st, W2, W4, hent, hlook2, hsto, hM4, hg4⟩ := hMa.entry Try.underlying63 (by unfold maxLen; omega) hw1.1 hw1.2 (wf_small (c := C + 1) (by omega))
      rw [hC] at hlook hent hlook2
      have HM4 := hid (hM4.fun hJs)
      have HG4 := hid hg4
      have HN := hid hlt
      clear hM4 hg4 hX hY hw1 hMa hC hC0 hJs
      go_wp2
      go_region
      all_goals
        go_wp2
        go_roundw
        case rel =>
          refine ⟨k + 1, by have := HN.out; omega, by go_num, HM4, hid ?_⟩
          exact ((bfrom hB.out (on_alloc _ _)).drew).grown HG4.out (by simp; have := hB.out.size; omega) (fun j e => by have e1 : w.heap.size + 1 = j := Option.some.inj e; omega)
        case measure => have := HN.out; simp [intOf]; omega
    · obtain rfl : k = n := by omega
      go_wp2
      go_ret
      exact ⟨_, rfl, by omega, hM.out, hB.out⟩

end Go.Proofs.Ytfdlhdgmbjdhbaa
