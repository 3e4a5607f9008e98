/- Pairs of vertices, in the program of chapter 6: paired. -/
import Derived.Test.YtemhbbggnednpaaLawsF
import Derived.Test.YtemhbbggnednpaaRowsE
import Derived.Test.YtemhbbggnednpaaOwnMore
import Derived.BigRegion
namespace Go.Proofs.Ytemhbbggnednpaa
open Go.RowKit

/-- The pairs of two lists. -/
def pairL (xs ys : List Int) (k : Nat) : List (Int × Int) := (List.range k).map fun i => (eI xs i, eI ys i)
theorem pairL_len (xs ys : List Int) (k : Nat) : (pairL xs ys k).length = k := by simp [pairL]
theorem pairL_at {xs ys : List Int} {n k : Nat} (hk : k < n) : (pairL xs ys n)[k]? = some (eI xs k, eI ys k) := by simp [pairL, hk]

set_option maxRecDepth 100000 in
set_option maxHeartbeats 4000000 in
theorem iPaired_any (xb xo n c yb yo m d : Nat) (xs ys : List Int) (w : World) (hx : xs.length = n) (hn : n ≤ 100) (hr : ReadsI w xb xo xs) (hy : ys.length = m) (hm : n ≤ m) (hm2 : m ≤ 100) (hry : ReadsI w yb yo ys) :
    Calls Try.prog 95 #[.slice (some ⟨xb, xo, none⟩) n c, .slice (some ⟨yb, yo, none⟩) m d] w fun e w' => ∃ g cap, e = .returned (.slice (some ⟨g, 0, none⟩) n cap) ∧ w.heap.size ≤ g ∧ OwnE w' g cap (pairL xs ys n) ∧ Below w.heap.size w w' := by
  have Hx := hid hx
  have Hr := hid hr
  have Hy := hid hy
  have Hry := hid hry
  obtain ⟨i0, hi, hz0, hz1, hz2⟩ := info_parts infoEdge
  have Hi := hid hi
  clear hx hr hy hry hi
  go_enter Try.func95, Try.ntmps95
  go_wp2_with (at_make; refine wpList_make_full _ rfl _ _ 26 rfl w.heap.size 58 i0 (.agg #[.int .i64 0, .int .i64 0]) 2 Try.underlying26 Hi.out hz0 hz1 _ _ _ _ n rfl rfl rfl rfl (by rw [hz2]; omega) (by unfold maxLen; omega) (Nat.le_refl _) ?_; intro w1 hown hgrow; have Ho := hid (OwnE.made hown); have Hb := hid ((Below.refl w.heap.size w).grown hgrow (Nat.le_refl _) (fun k e => by cases e)); clear hown hgrow)
  go_loopw [13] (fun i wr => ∃ k : Nat, k ≤ n ∧ i = .int .i64 k ∧ Hid (OwnE wr w.heap.size n ((pairL xs ys n).take k ++ List.replicate (n - k) (0, 0))) ∧ Hid (Below w.heap.size w wr)) (fun i _ => n - (intOf i).toNat)
  case atStart => exact ⟨0, Nat.zero_le _, rfl, hid (by simpa using Ho.out), Hb⟩
  case round =>
    obtain ⟨k, hk, rfl, hO, hB⟩ := hrel
    by_cases hlt : k < n
    · have hlt' : (k : Int) < (n : Int) := by omega
      have hkm' : (k : Int) < (m : Int) := by omega
      have h1 := Hr.out.on hB.out k (by have := Hx.out; omega)
      have h2 := Hry.out.on hB.out k (by have := Hy.out; omega)
      have hcl : ((pairL xs ys n).take k ++ List.replicate (n - k) ((0 : Int), (0 : Int))).length = n := by rw [List.length_append, List.length_take, pairL_len, List.length_replicate]; omega
      have hce := hO.out.reads k (by rw [hcl]; exact hlt)
      rw [Nat.zero_add] at hce
      obtain ⟨hce1, hce2⟩ := hce
      have hf1 := hO.out.free (k * 2)
      have hf2 := hO.out.free (k * 2 + 1)
      have hgl := hO.out.lt
      have hxl := World.block_lt_of_cell? wr _ h1
      have hyl := World.block_lt_of_cell? wr _ h2
      obtain ⟨x, hx⟩ : ∃ x, eI xs k = x := ⟨_, rfl⟩
      obtain ⟨y, hy⟩ : ∃ y, eI ys k = y := ⟨_, rfl⟩
      rw [hx] at h1
      rw [hy] at h2
      have HXY := hid (And.intro hx hy)
      clear hx hy hcl
      go_wp2
      go_roundw
      case rel =>
        refine ⟨k + 1, by omega, by go_num, hid ?_, hid ?_⟩
        · rw [← fill_step (pairL_len xs ys n) hlt (x, y) (by rw [pairL_at hlt, HXY.out.1, HXY.out.2])]
          exact hO.out.set (by rw [List.length_append, List.length_take, pairL_len, List.length_replicate]; omega) x y
        · exact (hB.out.setCell (p := ⟨w.heap.size, k * 2, none⟩) (Nat.le_refl _) _).setCell (p := ⟨w.heap.size, k * 2 + 1, none⟩) (Nat.le_refl _) _
      case measure => simp [intOf]; omega
    · obtain rfl : k = n := by omega
      go_wp2
      go_ret
      have h := hO.out
      rw [List.take_of_length_le (by rw [pairL_len]; exact Nat.le_refl _), Nat.sub_self, List.replicate_zero, List.append_nil] at h
      exact ⟨w.heap.size, k, rfl, Nat.le_refl _, h, hB.out⟩

end Go.Proofs.Ytemhbbggnednpaa
