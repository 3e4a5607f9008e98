/- Distances of two vertices, as a plain value; the model's DistanceOf. -/
import Derived.Test.YtafhpldcpgjpjaaFarS
namespace Go.Proofs.Ytafhpldcpgjpjaa
open Go.RowKit

abbrev allK : Nat → Bool := fun _ => true
def fDistanceOf (s : Int) (es : List (Int × Int)) (a b : Int) : Int × Int :=
  if IsG s es then (if (0 ≤ a ∧ a < s) ∧ (0 ≤ b ∧ b < s) then (if eI (farF s.toNat es allK a) b.toNat = -1 then (0, 4) else (eI (farF s.toNat es allK a) b.toNat, 0)) else (0, 2)) else (0, 1)

theorem reads_two (w : World) (u v : Int) (t : TypeId) (g : Nat) (hg : g = w.heap.size) : ReadsI (w.alloc (.cells #[.int .i64 u, .int .i64 v] t)) g 0 [u, v] := fun i hi => by
  subst hg
  have hi' : i < 2 := by simpa using hi
  rcases (by omega : i = 0 ∨ i = 1) with rfl | rfl
  · simp [eI]
  · simp [eI]
theorem verts_two (s : Int) (es : List (Int × Int)) (u v : Int) : vertsCode s es [u, v] = if IsG s es then (if (0 ≤ u ∧ u < s) ∧ (0 ≤ v ∧ v < s) then 0 else 2) else 1 := by
  unfold vertsCode
  by_cases h : IsG s es
  · rw [if_pos h, if_pos h]
    by_cases h2 : (0 ≤ u ∧ u < s) ∧ (0 ≤ v ∧ v < s)
    · rw [if_pos h2, if_pos (fun i hi => by
        have hi' : i < 2 := by simpa using hi
        rcases (by omega : i = 0 ∨ i = 1) with rfl | rfl
        · simpa [eI] using h2.1
        · simpa [eI] using h2.2)]
    · rw [if_neg h2, if_neg (fun e => h2 ⟨by simpa [eI] using e 0 (by simp), by simpa [eI] using e 1 (by simp)⟩)]
  · rw [if_neg h, if_neg h]

set_option maxRecDepth 100000 in
set_option maxHeartbeats 2000000 in
theorem sDist_code (s u v q : Int) (p : Option Addr) (n c : Nat) (es : List (Int × Int)) (w : World) (hm : n ≤ 9223372036854775807) (hlen : es.length = n) (hr : SeesE w p es) (hV : vertsCode s es [u, v] = q) (hq : (q == 0) = false) :
    Calls Try.prog 26 #[.agg #[.int .i64 s, .slice p n c], .int .i64 u, .int .i64 v] w fun e' w' => e' = .returned (.tuple #[.int .i64 0, .int .i64 q]) ∧ Below w.heap.size w w' := by
  have Hl := hid hlen
  have Hr := hid hr
  have HV := hid hV
  have hq' : (q != 0) = true := by simpa using hq
  clear hlen hr hV
  go_enter Try.func26, Try.ntmps26
  go_wp2_with (go_at_call 59; refine (sVerts_any _ _ _ _ _ _ 2 _ es [u, v] _ hm Hl.out ((Hr.out.alloc _).alloc _) rfl (by omega) (reads_two _ _ _ _ _ (by simp))).mono ?_; rw [HV.out]; rintro e' w2 ⟨rfl, hb2⟩; obtain ⟨hc2, hf2⟩ := bcells hb2; have hB2 := bfrom (w := w) (by go_grown) hb2)
  go_ret2
  exact ⟨rfl, hB2⟩

set_option maxRecDepth 100000 in
set_option maxHeartbeats 2000000 in
theorem sDist_yes (N V : Nat) (u : Int) (b off n c : Nat) (es : List (Int × Int)) (w : World) (hlen : es.length = n) (hr : ReadsE w b off es) (g : IsG N es) (hu : 0 ≤ u ∧ u < N) (hv : V < N) :
    Calls Try.prog 26 #[.agg #[.int .i64 N, .slice (some ⟨b, off, none⟩) n c], .int .i64 u, .int .i64 V] w fun e' w' => e' = .returned (.tuple #[.int .i64 (if eI (farF N es allK u) V = -1 then (0, 4) else (eI (farF N es allK u) V, (0 : Int))).1, .int .i64 (if eI (farF N es allK u) V = -1 then (0, 4) else (eI (farF N es allK u) V, (0 : Int))).2]) ∧ Below w.heap.size w w' := by
  have hn30 : n ≤ 30 := by have := isG_len g; omega
  have Hl := hid hlen
  have Hr := hid hr
  have G := hid g
  have HU := hid hu
  have HV := hid (show vertsCode N es [u, V] = 0 by rw [verts_two, if_pos g, if_pos ⟨hu, by omega⟩])
  have hbd := farF_bnd (keep := allK) (endsIn_of g) hu hv
  have hfl := farF_len (keep := allK) (endsIn_of g) hu
  obtain ⟨x, hx⟩ : ∃ x, eI (farF N es allK u) V = x := ⟨_, rfl⟩
  rw [hx] at hbd ⊢
  have HX := hid hx
  have HFL := hid hfl
  have hv' : (V : Int) < (N : Int) := by omega
  obtain ⟨r, hrr⟩ : ∃ r : Int × Int, r = if x = -1 then (0, 4) else (x, 0) := ⟨_, rfl⟩
  rw [← hrr]
  have HRR := hid hrr
  clear hlen hr g hu hx hfl hrr
  go_enter Try.func26, Try.ntmps26
  go_wp2_with fail
  refine (sVerts_any _ _ _ _ _ _ 2 _ es [u, (V : Int)] _ (by omega) Hl.out (SeesE.on (.inr ⟨b, off, rfl, Hr.out⟩) (bfrom (on_alloc _ _) (on_alloc _ _))) rfl (by omega) (reads_two _ _ _ _ _ (by simp))).mono ?_
  rw [HV.out]
  rintro e' w2 ⟨rfl, hb2⟩
  have hB2 := bfrom (w := w) (bfrom (on_alloc _ _) (on_alloc _ _)) hb2
  have hX2 := ((Box.new w N (some ⟨b, off, none⟩) n c 31).on (on_alloc _ (.cells #[.int .i64 u, .int .i64 V] 2))).on hb2
  have hx2 := hX2.1
  have hy2 := hX2.2
  have hz2 := hX2.lt
  go_wp2_with fail
  refine (sFar_any N u (-1) b off n c es _ Hl.out (Hr.out.on hB2) G.out HU.out allK (fun e => by show true = ((e : Int) != -1); simp)).mono ?_
  rintro e' w3 ⟨q, cap, rfl, hf3, hb3⟩
  obtain ⟨g3, rfl, hg3, ho3⟩ : ∃ g, q = some ⟨g, 0, none⟩ ∧ w2.heap.size ≤ g ∧ OwnI w3 g cap (farF N es allK u) := by
    rcases hf3.form with ⟨_, h, _⟩ | h
    · omega
    · exact h
  have hcx := ho3.reads V (by rw [HFL.out]; exact hv)
  rw [Nat.zero_add, HX.out] at hcx
  have hgz := ho3.lt
  have hB3 := bfrom hB2 hb3
  have HB3 := hid hB3
  clear hb2 hb3 hB2 hX2 hx2 hy2 hf3 ho3 hB3
  by_cases hm : x = -1
  · have HRm := hid (show r = (0, 4) by rw [HRR.out, if_pos hm])
    subst hm
    have hlt : decide ((-1 : Int) < 0) = true := by decide
    go_wp2
    go_ret2
    refine ⟨?_, HB3.out⟩
    rw [HRm.out]
    rfl
  · have HRm := hid (show r = (x, 0) by rw [HRR.out, if_neg hm])
    have hlt : decide (x < 0) = false := by simp; omega
    clear hm
    go_wp2
    go_ret2
    refine ⟨?_, HB3.out⟩
    rw [HRm.out]
    rfl

theorem sDistanceOf_any (s : Int) (p : Option Addr) (n c : Nat) (es : List (Int × Int)) (u v : Int) (w : World) (hm : n ≤ 1048576) (hl : es.length = n) (hr : SeesE w p es) :
    Calls Try.prog 26 #[.agg #[.int .i64 s, .slice p n c], .int .i64 u, .int .i64 v] w fun e' w' => e' = .returned (.tuple #[.int .i64 (fDistanceOf s es u v).1, .int .i64 (fDistanceOf s es u v).2]) ∧ Below w.heap.size w w' := by
  have hV := verts_two s es u v
  unfold fDistanceOf
  by_cases g : IsG s es
  · rw [if_pos g] at hV ⊢
    by_cases hv : (0 ≤ u ∧ u < s) ∧ (0 ≤ v ∧ v < s)
    · rw [if_pos hv] at hV ⊢
      obtain ⟨b, off, rfl, rd⟩ := isG_sees g hr
      obtain ⟨N, rfl⟩ : ∃ N : Nat, s = N := ⟨_, (Int.toNat_of_nonneg (by have := g.1.1.1; omega)).symm⟩
      obtain ⟨V, rfl⟩ : ∃ V : Nat, v = V := ⟨_, (Int.toNat_of_nonneg hv.2.1).symm⟩
      rw [Int.toNat_natCast, Int.toNat_natCast]
      exact sDist_yes N V u b off n c es w hl rd g hv.1 (by omega)
    · rw [if_neg hv] at hV ⊢
      exact sDist_code s u v 2 p n c es w (by omega) hl hr hV rfl
  · rw [if_neg g] at hV ⊢
    exact sDist_code s u v 1 p n c es w (by omega) hl hr hV rfl

end Go.Proofs.Ytafhpldcpgjpjaa
