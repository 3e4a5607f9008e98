/- How many edges join two vertices, and the first one of them, in the model. -/
import Derived.Test.YtemhbbggnednpaaGraphs
import Derived.Test.YtemhbbggnednpaaLawsF
namespace Go.Proofs.Ytemhbbggnednpaa
open Go.RowKit

/-- An edge has just these ends. -/
def jnP (es : List (Int × Int)) (x y : Int) (i : Nat) : Bool := eA es i == x && eB es i == y
def jcU (es : List (Int × Int)) (x y : Int) (k : Nat) : Nat := ((List.range k).filter (jnP es x y)).length
/-- The first of the first k edges that has these ends, -1 if none has. -/
def jfU (es : List (Int × Int)) (x y : Int) (k : Nat) : Int := match (List.range k).find? (jnP es x y) with
  | some i => (i : Int)
  | none => -1
theorem jcU_yes {es : List (Int × Int)} {x y : Int} {k : Nat} (h : jnP es x y k = true) : jcU es x y (k + 1) = jcU es x y k + 1 := by
  unfold jcU
  rw [List.range_succ, List.filter_append, List.length_append]
  simp [h]
theorem jcU_no {es : List (Int × Int)} {x y : Int} {k : Nat} (h : jnP es x y k = false) : jcU es x y (k + 1) = jcU es x y k := by
  unfold jcU
  rw [List.range_succ, List.filter_append, List.length_append]
  simp [h]
theorem jcU_le (es : List (Int × Int)) (x y : Int) (k : Nat) : jcU es x y k ≤ k := by
  unfold jcU
  exact Nat.le_trans (List.length_filter_le _ _) (by simp)
theorem jfU_succ (es : List (Int × Int)) (x y : Int) (k : Nat) : jfU es x y (k + 1) = if jfU es x y k < 0 then (if jnP es x y k = true then (k : Int) else -1) else jfU es x y k := by
  unfold jfU
  rw [List.range_succ, List.find?_append]
  cases h : (List.range k).find? (jnP es x y) with
  | some i =>
    have hi : ¬ ((i : Int) < 0) := by omega
    simp [hi]
  | none => cases hp : jnP es x y k <;> simp [hp]

theorem jfU_neg {es : List (Int × Int)} {x y F : Int} {k : Nat} (h : jfU es x y k = F) (hF : F < 0) : F = -1 := by
  unfold jfU at h
  cases hc : (List.range k).find? (jnP es x y) with
  | some i => rw [hc] at h; dsimp only at h; omega
  | none => rw [hc] at h; exact h.symm

set_option maxRecDepth 100000 in
set_option maxHeartbeats 4000000 in
theorem sJoined_le (s a d : Int) (b off n c : Nat) (es : List (Int × Int)) (w : World) (hn : es.length = n) (hn30 : n ≤ 30) (hr : ReadsE w b off es) (hbl : b < w.heap.size) (hle : a ≤ d) :
    Calls Try.prog 37 #[.agg #[.int .i64 s, .slice (some ⟨b, off, none⟩) n c], .int .i64 a, .int .i64 d] w fun e w' => e = .returned (.tuple #[.int .i64 (jcU es a d n), .int .i64 (jfU es a d n)]) ∧ Below w.heap.size w w' := by
  have Hn := hid hn
  have Hr := hid hr
  clear hn hr
  go_enter Try.func37, Try.ntmps37
  go_wp2_with fail
  obtain ⟨W1, hW1⟩ : ∃ W1, W1 = w.alloc (.cells #[.int .i64 s, .slice (some ⟨b, off, none⟩) n c] 28) := ⟨_, rfl⟩
  have hX1 : Box W1 w.heap.size s (some ⟨b, off, none⟩) n c := by rw [hW1]; exact Box.new w s (some ⟨b, off, none⟩) n c 28
  have HB1 : Hid (Below w.heap.size w W1) := hid (by rw [hW1]; exact on_alloc _ _)
  have hbW : b < W1.heap.size := by rw [hW1, World.size_alloc]; omega
  have hx1 := hX1.1
  have hy1 := hX1.2
  have hl1 := hX1.lt
  rw [← hW1]
  clear hW1 hX1
  go_loopw [8, 9, 10] (fun u f i wr => ∃ (k C : Nat) (F : Int), k ≤ n ∧ Hid (jcU es a d k = C) ∧ Hid (jfU es a d k = F) ∧ u = .int .i64 C ∧ f = .int .i64 F ∧ i = .int .i64 k ∧ W1 = wr) (fun _ _ i _ => n - (intOf i).toNat)
  case atStart => exact ⟨0, 0, -1, Nat.zero_le _, hid rfl, hid rfl, rfl, rfl, rfl, rfl⟩
  case round =>
    obtain ⟨k, C, F, hk, hC, hF, rfl, rfl, rfl, rfl⟩ := hrel
    by_cases hlt : k < n
    · have hml : k < es.length := by rw [Hn.out]; exact hlt
      have hc1 := (Hr.out.on HB1.out k hml).1
      have hc2 := (Hr.out.on HB1.out k hml).2
      obtain ⟨X, hX⟩ : ∃ X, eA es k = X := ⟨_, rfl⟩
      obtain ⟨Y, hY⟩ : ∃ Y, eB es k = Y := ⟨_, rfl⟩
      rw [hX] at hc1
      rw [hY] at hc2
      have hC30 : C < 31 := by have h := jcU_le es a d k; rw [hC.out] at h; omega
      have hjp : jnP es a d k = (X == a && Y == d) := by unfold jnP; rw [hX, hY]
      have hfs := hid (jfU_succ es a d k)
      by_cases e1 : X = a
      · by_cases e2 : Y = d
        · have b1 : (X == a) = true := by simpa using e1
          have b2 : (Y == d) = true := by simpa using e2
          have hcy := hid (jcU_yes (show jnP es a d k = true by rw [hjp, b1, b2]; rfl))
          have HJ := hid (show jnP es a d k = true by rw [hjp, b1, b2]; rfl)
          by_cases hf : F < 0
          · have hfb : decide (F < 0) = true := decide_eq_true hf
            have HFn := hid (show jfU es a d (k + 1) = k by rw [hfs.out, hF.out, if_pos hf, if_pos HJ.out])
            clear hjp hX hY e1 e2 hf
            go_wp2_with fail
            go_roundw
            case rel => exact ⟨k + 1, C + 1, k, by omega, hid (by rw [hcy.out, hC.out]), HFn, by go_num, rfl, by go_num, trivial⟩
            case measure => simp [intOf]; omega
          · have hfb : decide (F < 0) = false := decide_eq_false hf
            have HFn := hid (show jfU es a d (k + 1) = F by rw [hfs.out, hF.out, if_neg hf])
            clear hjp hX hY e1 e2 hf
            go_wp2_with fail
            go_roundw
            case rel => exact ⟨k + 1, C + 1, F, by omega, hid (by rw [hcy.out, hC.out]), HFn, by go_num, rfl, by go_num, trivial⟩
            case measure => simp [intOf]; omega
        · have b1 : (X == a) = true := by simpa using e1
          have b2 : (Y == d) = false := by simpa using e2
          have HJ := hid (show jnP es a d k = false by rw [hjp, b1, b2]; rfl)
          have hcy := hid (jcU_no HJ.out)
          have HFn := hid (show jfU es a d (k + 1) = F by rw [hfs.out, hF.out, HJ.out]; by_cases h : F < 0; (rw [if_pos h]; exact (jfU_neg hF.out h).symm); rw [if_neg h])
          clear hjp hX hY e1 e2
          go_wp2_with fail
          go_roundw
          case rel => exact ⟨k + 1, C, F, by omega, hid (by rw [hcy.out, hC.out]), HFn, rfl, rfl, by go_num, trivial⟩
          case measure => simp [intOf]; omega
      · have b1 : (X == a) = false := by simpa using e1
        have HJ := hid (show jnP es a d k = false by rw [hjp, b1]; rfl)
        have hcy := hid (jcU_no HJ.out)
        have HFn := hid (show jfU es a d (k + 1) = F by rw [hfs.out, hF.out, HJ.out]; by_cases h : F < 0; (rw [if_pos h]; exact (jfU_neg hF.out h).symm); rw [if_neg h])
        clear hjp hX hY e1
        go_wp2_with fail
        go_roundw
        case rel => exact ⟨k + 1, C, F, by omega, hid (by rw [hcy.out, hC.out]), HFn, rfl, rfl, by go_num, trivial⟩
        case measure => simp [intOf]; omega
    · obtain rfl : k = n := by omega
      go_wp2_with fail
      go_ret2
      exact ⟨by rw [hC.out, hF.out]; rfl, HB1.out⟩

set_option maxRecDepth 100000 in
set_option maxHeartbeats 4000000 in
theorem sJoined_gt (s a d : Int) (b off n c : Nat) (es : List (Int × Int)) (w : World) (hn : es.length = n) (hn30 : n ≤ 30) (hr : ReadsE w b off es) (hbl : b < w.heap.size) (hle : ¬ a ≤ d) :
    Calls Try.prog 37 #[.agg #[.int .i64 s, .slice (some ⟨b, off, none⟩) n c], .int .i64 a, .int .i64 d] w fun e w' => e = .returned (.tuple #[.int .i64 (jcU es d a n), .int .i64 (jfU es d a n)]) ∧ Below w.heap.size w w' := by
  have Hn := hid hn
  have Hr := hid hr
  clear hn hr
  go_enter Try.func37, Try.ntmps37
  go_wp2_with fail
  obtain ⟨W1, hW1⟩ : ∃ W1, W1 = w.alloc (.cells #[.int .i64 s, .slice (some ⟨b, off, none⟩) n c] 28) := ⟨_, rfl⟩
  have hX1 : Box W1 w.heap.size s (some ⟨b, off, none⟩) n c := by rw [hW1]; exact Box.new w s (some ⟨b, off, none⟩) n c 28
  have HB1 : Hid (Below w.heap.size w W1) := hid (by rw [hW1]; exact on_alloc _ _)
  have hbW : b < W1.heap.size := by rw [hW1, World.size_alloc]; omega
  have hx1 := hX1.1
  have hy1 := hX1.2
  have hl1 := hX1.lt
  rw [← hW1]
  clear hW1 hX1
  go_loopw [8, 9, 10] (fun u f i wr => ∃ (k C : Nat) (F : Int), k ≤ n ∧ Hid (jcU es d a k = C) ∧ Hid (jfU es d a k = F) ∧ u = .int .i64 C ∧ f = .int .i64 F ∧ i = .int .i64 k ∧ W1 = wr) (fun _ _ i _ => n - (intOf i).toNat)
  case atStart => exact ⟨0, 0, -1, Nat.zero_le _, hid rfl, hid rfl, rfl, rfl, rfl, rfl⟩
  case round =>
    obtain ⟨k, C, F, hk, hC, hF, rfl, rfl, rfl, rfl⟩ := hrel
    by_cases hlt : k < n
    · have hml : k < es.length := by rw [Hn.out]; exact hlt
      have hc1 := (Hr.out.on HB1.out k hml).1
      have hc2 := (Hr.out.on HB1.out k hml).2
      obtain ⟨X, hX⟩ : ∃ X, eA es k = X := ⟨_, rfl⟩
      obtain ⟨Y, hY⟩ : ∃ Y, eB es k = Y := ⟨_, rfl⟩
      rw [hX] at hc1
      rw [hY] at hc2
      have hC30 : C < 31 := by have h := jcU_le es d a k; rw [hC.out] at h; omega
      have hjp : jnP es d a k = (X == d && Y == a) := by unfold jnP; rw [hX, hY]
      have hfs := hid (jfU_succ es d a k)
      by_cases e1 : X = d
      · by_cases e2 : Y = a
        · have b1 : (X == d) = true := by simpa using e1
          have b2 : (Y == a) = true := by simpa using e2
          have hcy := hid (jcU_yes (show jnP es d a k = true by rw [hjp, b1, b2]; rfl))
          have HJ := hid (show jnP es d a k = true by rw [hjp, b1, b2]; rfl)
          by_cases hf : F < 0
          · have hfb : decide (F < 0) = true := decide_eq_true hf
            have HFn := hid (show jfU es d a (k + 1) = k by rw [hfs.out, hF.out, if_pos hf, if_pos HJ.out])
            clear hjp hX hY e1 e2 hf
            go_wp2_with fail
            go_roundw
            case rel => exact ⟨k + 1, C + 1, k, by omega, hid (by rw [hcy.out, hC.out]), HFn, by go_num, rfl, by go_num, trivial⟩
            case measure => simp [intOf]; omega
          · have hfb : decide (F < 0) = false := decide_eq_false hf
            have HFn := hid (show jfU es d a (k + 1) = F by rw [hfs.out, hF.out, if_neg hf])
            clear hjp hX hY e1 e2 hf
            go_wp2_with fail
            go_roundw
            case rel => exact ⟨k + 1, C + 1, F, by omega, hid (by rw [hcy.out, hC.out]), HFn, by go_num, rfl, by go_num, trivial⟩
            case measure => simp [intOf]; omega
        · have b1 : (X == d) = true := by simpa using e1
          have b2 : (Y == a) = false := by simpa using e2
          have HJ := hid (show jnP es d a k = false by rw [hjp, b1, b2]; rfl)
          have hcy := hid (jcU_no HJ.out)
          have HFn := hid (show jfU es d a (k + 1) = F by rw [hfs.out, hF.out, HJ.out]; by_cases h : F < 0; (rw [if_pos h]; exact (jfU_neg hF.out h).symm); rw [if_neg h])
          clear hjp hX hY e1 e2
          go_wp2_with fail
          go_roundw
          case rel => exact ⟨k + 1, C, F, by omega, hid (by rw [hcy.out, hC.out]), HFn, rfl, rfl, by go_num, trivial⟩
          case measure => simp [intOf]; omega
      · have b1 : (X == d) = false := by simpa using e1
        have HJ := hid (show jnP es d a k = false by rw [hjp, b1]; rfl)
        have hcy := hid (jcU_no HJ.out)
        have HFn := hid (show jfU es d a (k + 1) = F by rw [hfs.out, hF.out, HJ.out]; by_cases h : F < 0; (rw [if_pos h]; exact (jfU_neg hF.out h).symm); rw [if_neg h])
        clear hjp hX hY e1
        go_wp2_with fail
        go_roundw
        case rel => exact ⟨k + 1, C, F, by omega, hid (by rw [hcy.out, hC.out]), HFn, rfl, rfl, by go_num, trivial⟩
        case measure => simp [intOf]; omega
    · obtain rfl : k = n := by omega
      go_wp2_with fail
      go_ret2
      exact ⟨by rw [hC.out, hF.out]; rfl, HB1.out⟩

theorem sJoined_any (s a d x y : Int) (b off n c : Nat) (es : List (Int × Int)) (w : World) (hn : es.length = n) (hn30 : n ≤ 30) (hr : ReadsE w b off es) (hbl : b < w.heap.size) (hx : min a d = x) (hy : max a d = y) :
    Calls Try.prog 37 #[.agg #[.int .i64 s, .slice (some ⟨b, off, none⟩) n c], .int .i64 a, .int .i64 d] w fun e w' => e = .returned (.tuple #[.int .i64 (jcU es x y n), .int .i64 (jfU es x y n)]) ∧ Below w.heap.size w w' := by
  by_cases h : a ≤ d
  · obtain rfl : x = a := by omega
    obtain rfl : y = d := by omega
    exact sJoined_le s x y b off n c es w hn hn30 hr hbl h
  · obtain rfl : x = d := by omega
    obtain rfl : y = a := by omega
    exact sJoined_gt s y x b off n c es w hn hn30 hr hbl h

end Go.Proofs.Ytemhbbggnednpaa
