/- The least numbers of colours, in the program: leastDifferent. -/
import Derived.Test.YtonlpihbpbnnmaaUpT
import Derived.Test.YtonlpihbpbnnmaaDifI
import Derived.Test.YtonlpihbpbnnmaaLeaA
namespace Go.Proofs.Ytonlpihbpbnnmaa
open Go.RowKit

set_option maxRecDepth 100000 in
set_option maxHeartbeats 8000000 in
theorem iLdF_any (k N Bp : Nat) (M : Nat → Nat → Bool) (q : Option Addr) (w : World) (hk : 1 ≤ k ∧ k ≤ 60) (hN : 1 ≤ N ∧ N ≤ 50) (hc : w.cell? ⟨Bp, 0, none⟩ = some (.slice q N N)) (hs : SeesL w q (rowsM M N)) :
    Calls Try.prog 134 #[.int .i64 k, .pointer (some ⟨Bp, 0, none⟩)] w fun e w' => e = .returned (.bool (hasK M N k)) ∧ Below w.heap.size w w' := by
  have hBl := World.block_lt_of_cell? w _ hc
  dsimp only at hBl
  have HS := hid hs
  have HC := hid hc
  clear hs
  go_enter Try.func134, Try.ntmps134
  go_wp2
  go_region_with (first
    | (go_at_call 75; refine (iDifferent_any (k : Int) _).mono ?_; rintro e' w5 ⟨rfl, hb5⟩; have hb5' : Below w.heap.size w w5 := bfrom (by first | exact Below.refl _ _ | exact (Below.refl _ _).drew) hb5; have q1 := (hb5'.cell (p := ⟨Bp, 0, none⟩) hBl).trans HC.out; have q3 : Bp < w5.heap.size := (by have := hb5'.size; omega))
    | (go_at_call 76; refine (iLeastFor_any k 1 M N N q _ hk (by omega) hN.1 hN.2 (HS.out.on hb5')).mono ?_; rintro e' w6 ⟨q6, l6, c6, fnd, rfl, h6⟩))
  all_goals
    have HB6 := hid (bfrom hb5' h6.1)
    have HF := hid (show fnd = hasK M N k by
      unfold hasK
      rcases h6.2 with ⟨a, _, g, zs, _, _, h, _⟩ | ⟨a, _, h⟩
      · rw [h, a]; rfl
      · rw [h, a]; rfl)
    clear h6 hb5 hb5'
    go_wp2
    go_ret
    rw [← HF.out]
    exact ⟨rfl, by first | exact HB6.out | exact bdn.2 HB6.out⟩

set_option maxRecDepth 100000 in
set_option maxHeartbeats 4000000 in
theorem iLeastDif_none (s : Int) (G : Nat) (p : Option Addr) (n c : Nat) (es : List (Int × Int)) (w : World) (hm : n ≤ 1048576) (hn : es.length = n) (hr : SeesE w p es) (g : ¬ IsG s es) :
    Calls Try.prog 82 #[.agg #[.int .i64 s, .slice p n c], .func (.func G) #[] #[]] w fun e' w' => e' = .returned (.tuple #[.int .i64 0, .int .i64 1]) ∧ Below w.heap.size w w' := by
  have Hn := hid hn
  have Hr := hid hr
  have G' := hid g
  clear hn hr g
  go_enter Try.func82, Try.ntmps82
  go_wp2_with fail
  refine (iIsGraph_any _ _ _ _ es _ hm Hn.out (Hr.out.on (on_alloc _ _))).mono ?_
  rw [decide_eq_false G'.out]
  rintro e' w2 ⟨rfl, hb2⟩
  have HB2 := hid (bfrom (w := w) (on_alloc _ _) hb2)
  clear hb2
  go_wp2
  go_ret2
  exact ⟨rfl, HB2.out⟩

set_option maxRecDepth 100000 in
set_option maxHeartbeats 4000000 in
theorem iLeastDif_big (s : Int) (G : Nat) (p : Option Addr) (n c : Nat) (es : List (Int × Int)) (w : World) (hm : n ≤ 1048576) (hn : es.length = n) (hr : SeesE w p es) (g : IsG s es) (hs : 10 < s) :
    Calls Try.prog 82 #[.agg #[.int .i64 s, .slice p n c], .func (.func G) #[] #[]] w fun e' w' => e' = .returned (.tuple #[.int .i64 0, .int .i64 3]) ∧ Below w.heap.size w w' := by
  have Hn := hid hn
  have Hr := hid hr
  have G' := hid g
  clear hn hr g
  go_enter Try.func82, Try.ntmps82
  go_wp2_with fail
  refine (iIsGraph_any _ _ _ _ es _ hm Hn.out (Hr.out.on (on_alloc _ _))).mono ?_
  rw [decide_eq_true G'.out]
  rintro e' w2 ⟨rfl, hb2⟩
  have HB2 := hid (bfrom (w := w) (on_alloc _ _) hb2)
  have HX2 := hid ((Box.new w s p n c 30).on hb2)
  have hx2 := HX2.out.1
  have hz2 := HX2.out.lt
  clear hb2
  go_wp2
  go_ret2
  exact ⟨rfl, HB2.out⟩

set_option maxRecDepth 100000 in
set_option maxHeartbeats 4000000 in
theorem iLeastDif_yes (s : Int) (G N : Nat) (M : Nat → Nat → Bool) (b off n c : Nat) (es : List (Int × Int)) (w : World) (hn : es.length = n) (hr : ReadsE w b off es) (g : IsG s es) (hs : s ≤ 10)
    (eg : ∀ args w, (callFunc G args).run Try.prog w = .ok (.enter G args) w)
    (hG : ∀ W, Below w.heap.size w W → Calls Try.prog G #[.agg #[.int .i64 s, .slice (some ⟨b, off, none⟩) n c]] W fun e' w' => (∃ q, e' = .returned (.slice q N N) ∧ SeesL w' q (rowsM M N)) ∧ Below W.heap.size W w')
    (hN : 1 ≤ N ∧ N ≤ 50) :
    Calls Try.prog 82 #[.agg #[.int .i64 s, .slice (some ⟨b, off, none⟩) n c], .func (.func G) #[] #[]] w fun e' w' => e' = .returned (.tuple #[.int .i64 (leastX M N), .int .i64 0]) ∧ Below w.heap.size w w' := by
  have hn30 : n ≤ 30 := by have := isG_len g; omega
  have Hn := hid hn
  have Hr := hid hr
  have GG := hid g
  have HG := hid hG
  have HX := hid (leastX_spec (M := M) hN.1)
  obtain ⟨X, hX⟩ : ∃ X, leastX M N = X := ⟨_, rfl⟩
  rw [hX] at HX ⊢
  clear hn hr g hG hX
  go_enter Try.func82, Try.ntmps82
  go_wp2_with fail
  refine (iIsGraph_any _ _ _ _ es _ (by omega) Hn.out (SeesE.on (.inr ⟨b, off, rfl, Hr.out⟩) (on_alloc _ _))).mono ?_
  rw [decide_eq_true GG.out]
  rintro e' w2 ⟨rfl, hb2⟩
  have HB2 := hid (bfrom (w := w) (on_alloc _ _) hb2)
  have HX2 := hid ((Box.new w s (some ⟨b, off, none⟩) n c 30).on hb2)
  have hx2 := HX2.out.1
  have hy2 := HX2.out.2
  have hz2 := HX2.out.lt
  clear hb2
  go_wp2_with fail
  refine (HG.out _ HB2.out).mono ?_
  rintro e' w3 ⟨⟨q, rfl, hs3⟩, hb3⟩
  have HB3 := hid (bfrom HB2.out hb3)
  have HS3 := hid hs3
  clear hs3 hb3 hx2 hy2
  go_wp2_with fail
  obtain ⟨w4, hw4⟩ : ∃ w4, w4 = w3.alloc (.cells #[.slice q N N] 49) := ⟨_, rfl⟩
  have HC4 := hid (show w4.cell? ⟨w3.heap.size, 0, none⟩ = some (.slice q N N) by rw [hw4]; exact cell_of_row _ _ 0 _ _ _ (heap_alloc_new w3 _))
  have HB34 := hid (show Below w3.heap.size w3 w4 by rw [hw4]; exact on_alloc _ _)
  have HZ4 := hid (show w4.heap.size = w3.heap.size + 1 by rw [hw4]; simp)
  rw [← hw4]
  clear hw4
  refine (iUpTo_any N w4).mono ?_
  rintro e' w5 ⟨rfl, rfl⟩
  obtain ⟨w5, hw5⟩ : ∃ w5, w5 = w4.alloc (.cells #[.int .i64 N] 3) := ⟨_, rfl⟩
  have HN5 := hid (show w5.cell? ⟨w4.heap.size, 0, none⟩ = some (.int .i64 N) by rw [hw5]; exact cell_of_row _ _ 0 _ _ _ (heap_alloc_new w4 _))
  have HB45 := hid (show Below w4.heap.size w4 w5 by rw [hw5]; exact on_alloc _ _)
  rw [← hw5]
  clear hw5
  have HB35 := hid (bfrom HB34.out HB45.out)
  go_wp2_with fail
  refine (iFirst_any N w4.heap.size w3.heap.size X (hasK M N) w5 (by omega) HN5.out HX.out.1 HX.out.2.1 HX.out.2.2 (fun x h1 h2 W hW => iLdF_any x N w3.heap.size M q W ⟨h1, by omega⟩ hN ((hW.cell (p := ⟨w3.heap.size, 0, none⟩) (by have := HZ4.out; have := HB45.out.size; show w3.heap.size < w5.heap.size; omega)).trans ((HB45.out.cell (p := ⟨w3.heap.size, 0, none⟩) (by have := HZ4.out; show w3.heap.size < w4.heap.size; omega)).trans HC4.out)) (HS3.out.on (bfrom HB35.out hW)))).mono ?_
  rintro e' w6 ⟨rfl, hb6⟩
  have HB6 := hid (bfrom (bfrom HB3.out HB35.out) hb6)
  clear hb6
  go_wp2
  go_ret2
  exact ⟨rfl, HB6.out⟩

end Go.Proofs.Ytonlpihbpbnnmaa
