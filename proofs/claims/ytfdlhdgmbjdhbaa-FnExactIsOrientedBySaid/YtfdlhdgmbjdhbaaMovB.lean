/- A range over a function whose variable lies in a box of its own; lists one after the other in one block. Cut out of CycO. -/
import Derived.Test.YtfdlhdgmbjdhbaaMoves
import Derived.Test.YtfdlhdgmbjdhbaaAlongI
import Derived.Test.YtfdlhdgmbjdhbaaDistM
import Derived.Test.YtfdlhdgmbjdhbaaOwnMore
import Derived.Test.YtfdlhdgmbjdhbaaLists

/- A range over a function whose loop variable lies in a box of its own, made anew in each round. No program is named here. -/
namespace Go.Proofs.Ytfdlhdgmbjdhbaa
open Go.RowKit

section
variable {F : Fence} {n : Nat} {P : Program}

/-- The same law where the assignment makes a block for what is handed on. -/
theorem rangeFunc_movesB {α : Type} {g : Operand} {ps : Array Tmp} {assign body : Code} {Q : Exit → Act → World → Prop} {a : Act} {w : World}
    (hro : F.round = none) (h1 : 1 ≤ n) {gf : Nat} {lb : Array Value} (hg : a.eval g = .func (.func gf) #[] lb) (hFg : F.fn gf) (eg : ∀ args w, (callFunc gf args).run P w = .ok (.enter gf args) w)
    {encs : α → Array Value} {A : Nat} {X : α → World → Prop} {Kp Mv : World → World → Prop} {S Sp : List α → Prop} {N : Nat} {w0 : World} (hA : A = w.heap.size + 2) (hseq : SeqMoves F (n - 1) P gf lb encs A X Kp Mv S Sp N w0)
    (hKt : ∀ {A B C : World}, Kp A B → Kp B C → Kp A C) (hKb : ∀ (W : World) (l : Nat) (o o' : Obj), w.heap.size ≤ l → l < A → W.heap[l]? = some o → o.isCells = false → Kp W (W.putObj l o'))
    (hMb : ∀ (Y Z : World) (i : Nat) (o : Obj), Mv Y Z → w.heap.size ≤ i → i < A → Y.heap[i]? = some o → Z.heap[i]? = some o)
    (hMs : ∀ (Y Z : World), Mv Y Z → Y.heap.size ≤ Z.heap.size)
    (hXb : ∀ (x : α) (W : World) (l : Nat) (o o' : Obj), X x W → w.heap.size ≤ l → l < A → W.heap[l]? = some o → o.isCells = false → X x (W.putObj l o'))
    (hb0 : Below w0.heap.size w0 w) (hps : ∀ x, (encs x).size = ps.size)
    (I : List α → World → Prop) (Ix : Code → List α → World → Prop) (hI : OwnFrom w.heap.size I) (hIx : ∀ c, OwnFrom w.heap.size (Ix c))
    (hIm : ∀ s Y Z, I s Y → Mv Y Z → I s Z) (hIxm : ∀ c s Y Z, Ix c s Y → Mv Y Z → Ix c s Z) (h0 : I [] w) (bx : α → Obj) (hKa : ∀ (W : World) (o : Obj), Kp W (W.alloc o)) (hXa : ∀ (x : α) (W : World) (o : Obj), X x W → X x (W.alloc o)) (a₁ : α → Nat → Act)
    (hassign : ∀ (l : Nat) (x : α) (W : World) (K : Act → World → Prop), K (a₁ x W.heap.size) (W.alloc (bx x)) →
      assign.wpIn (F.inRound l) (n - 1 - 1) P (Exit.then K (fun _ _ _ => False)) { tmps := (ps.zip (encs x)).foldl (fun t (p, v) => t.setIfInBounds p v) a.tmps, defers := [] } W)
    (hbody : ∀ (l : Nat) (pre : List α) (x : α) (B : Nat) (W : World), I pre W → X x W → A ≤ B → W.heap[B]? = some (bx x) → pre.length < N → body.wpIn (F.inRound l) (n - 1 - 1) P (ownPostG w.heap.size Kp I Ix (pre ++ [x]) W) (a₁ x B) W)
    (hdone : ∀ (D : Nat) (xs : List α) (W : World), w.heap.size ≤ D → S xs → I xs W → W.heap[D]? = some (.deferred (some [])) → Q .normal { a with defers := { target := .collected D, args := #[] } :: a.defers } W)
    (hstop : ∀ (D : Nat) (c : Code) (pre : List α) (W : World), w.heap.size ≤ D → Sp pre → Ix c pre W → W.heap[D]? = some (.deferred (some [])) → c.wpIn F n P Q { a with defers := { target := .collected D, args := #[] } :: a.defers } W) :
    (Code.rangeFunc g ps assign body).wpIn F n P Q a w := by
  refine wpIn_rangeFunc fun fn hfn => ?_
  rw [hro]
  obtain ⟨r, hr⟩ : ∃ r : Loop, r = { state := .ready, pending := none, fn, tmps := a.tmps, params := ps, assign, body, defers := w.heap.size } := ⟨_, rfl⟩
  have hrs : r.state = .ready := by rw [hr]
  have hr0 : ({ r with state := .ready, pending := none } : Loop) = r := by rw [hr]
  obtain ⟨V, hV⟩ : ∃ V, V = (w.alloc (.deferred (some []))).alloc (.loop r) := ⟨_, rfl⟩
  have vl : V.heap[w.heap.size + 1]? = some (.loop r) := by
    rw [hV]
    have h := World.alloc_heap_new (w.alloc (.deferred (some []))) (.loop r)
    rwa [World.size_alloc] at h
  have vk : V.heap[w.heap.size]? = some (.deferred (some [])) := by
    rw [hV]
    exact (Below.heap_alloc _ _ _ (by simp)).trans (World.alloc_heap_new w _)
  have vI : I [] V := by rw [hV]; exact hI.alloc _ (hI.alloc _ h0)
  have vz : V.heap.size = A := by rw [hV, hA]; simp
  have vb : Below w0.heap.size w0 V := by
    rw [hV]
    exact (hb0.alloc hb0.size _).alloc (by have := hb0.size; simp; omega) _
  refine ⟨w.heap.size + 1, [{ target := .collected w.heap.size, args := #[] }], V, { target := .fn (.func gf) lb, args := #[.func (.yield (w.heap.size + 1)) #[] #[]] }, V, gf,
    #[.func (.yield (w.heap.size + 1)) #[] #[]] ++ lb, V, ?_, ?_, ?_, ?_, fun _ => h1, ?_⟩
  · rw [hV, hr]; exact run_enterLoop_outer _ _ _ _ _
  · simp only [resolve, hg]
    simp [go_sem]
  · intro f' hf'
    simp [Target.leads] at hf'
    subst hf'
    exact hFg
  · simp [invoke, go_sem, eg]
  have key := hseq (w.heap.size + 1)
    (fun pre W => I pre W ∧ A ≤ W.heap.size ∧ W.heap[w.heap.size + 1]? = some (.loop r) ∧ W.heap[w.heap.size]? = some (.deferred (some [])))
    (fun pre W => ∃ c, Ix c pre W ∧ W.heap[w.heap.size + 1]? = some (.loop { r with state := .done, pending := some c }) ∧ W.heap[w.heap.size]? = some (.deferred (some [])))
    V vz vb ?m1 ?m2 ?round ⟨vI, by omega, vl, vk⟩
  case m1 =>
    rintro s Y Z ⟨q1, q2, q3, q4⟩ hm
    have z3 := hMb Y Z _ _ hm (by omega) (by omega) q3
    exact ⟨hIm s Y Z q1 hm, Nat.le_trans q2 (hMs Y Z hm), z3, hMb Y Z _ _ hm (by omega) (by omega) q4⟩
  case m2 =>
    rintro s Y Z ⟨c, q1, q3, q4⟩ hm
    exact ⟨c, hIxm c s Y Z q1 hm, hMb Y Z _ _ hm (by omega) (by omega) q3, hMb Y Z _ _ hm (by omega) (by omega) q4⟩
  case round =>
    rintro pre x W ⟨q1, q2, q3, q4⟩ hX hlen
    have hy := run_yield (P := P) (args := encs x) q3 (by rw [hr]; exact hps x)
    have hlt : w.heap.size + 1 < W.heap.size := (Array.getElem?_eq_some_iff.1 q3).1
    rw [hr] at hy
    obtain ⟨V2, hV2⟩ : ∃ V2, V2 = W.alloc (bx x) := ⟨_, rfl⟩
    have v3 : V2.heap[w.heap.size + 1]? = some (.loop r) := by rw [hV2]; exact (Below.heap_alloc W _ _ hlt).trans q3
    have v4 : V2.heap[w.heap.size]? = some (.deferred (some [])) := by rw [hV2]; exact (Below.heap_alloc W _ _ (by omega)).trans q4
    have vb2 : V2.heap[W.heap.size]? = some (bx x) := by rw [hV2]; exact World.alloc_heap_new W _
    have vz2 : V2.heap.size = W.heap.size + 1 := by rw [hV2]; simp
    have vk2 : Kp W V2 := by rw [hV2]; exact hKa _ _
    have vi2 : I pre V2 := by rw [hV2]; exact hI.alloc _ q1
    have vx2 : X x V2 := by rw [hV2]; exact hXa _ _ _ hX
    refine ⟨fn, _, assign, body, hy, roundIn_of_wpIn hfn (hassign _ x W _ ?_)⟩
    rw [← hV2]
    clear hV2
    refine ⟨_, run_beginRound v3 hrs, ?_⟩
    obtain ⟨W2, hW2⟩ : ∃ W2, W2 = V2.putObj (w.heap.size + 1) (.loop { r with state := .busy }) := ⟨_, rfl⟩
    rw [← hW2]
    have l2 : W2.heap[w.heap.size + 1]? = some (.loop { r with state := .busy }) := by rw [hW2]; exact World.putObj_heap_same (by omega)
    have k2 : W2.heap[w.heap.size]? = some (.deferred (some [])) := by rw [hW2]; exact (World.putObj_heap_other (by omega)).trans v4
    have b2 : W2.heap[W.heap.size]? = some (bx x) := by rw [hW2]; exact (World.putObj_heap_other (by omega)).trans vb2
    have p2 : Kp W W2 := by rw [hW2]; exact hKt vk2 (hKb _ _ _ _ (by omega) (by omega) v3 rfl)
    have i2 : I pre W2 := by rw [hW2]; exact hI.putObj _ vi2 (by omega) v3 rfl
    have x2 : X x W2 := by rw [hW2]; exact hXb _ _ _ _ _ vx2 (by omega) (by omega) v3 rfl
    have z2 : A ≤ W.heap.size := q2
    have z3 : W2.heap.size = W.heap.size + 1 := by rw [hW2]; simpa [World.putObj] using vz2
    clear hW2
    refine wpIn_mono (hbody _ pre x W.heap.size W2 i2 x2 z2 b2 hlen) ?_
    rintro e a3 W3 hp
    have keep3 : ∀ (c : Code) (hkf : KeepsFrom w.heap.size W2 W3) (_ : Ix c (pre ++ [x]) W3), ∃ c', Ix c' (pre ++ [x]) (W3.putObj (w.heap.size + 1) (.loop { r with state := .done, pending := some c })) ∧ (W3.putObj (w.heap.size + 1) (.loop { r with state := .done, pending := some c })).heap[w.heap.size + 1]? = some (.loop { r with state := .done, pending := some c' }) ∧ (W3.putObj (w.heap.size + 1) (.loop { r with state := .done, pending := some c })).heap[w.heap.size]? = some (.deferred (some [])) := fun c hkf hx => by
      obtain ⟨_, e2, e3, e4⟩ := round_end (P := P) (some c) l2 k2 hkf
      exact ⟨c, (hIx c).putObj _ hx (by omega) e2 rfl, e3, e4⟩
    cases e with
    | normal =>
      obtain ⟨hkf, hkp, hi⟩ := hp
      obtain ⟨e1, e2, e3, e4⟩ := round_end (P := P) none l2 k2 hkf
      have hsz : A ≤ (W3.putObj (w.heap.size + 1) (.loop { r with state := .ready, pending := none })).heap.size := by
        have := hkf.size
        simp only [World.putObj]
        simp
        omega
      refine ⟨_, _, e1, .inl ⟨rfl, ⟨hI.putObj _ hi (by omega) e2 rfl, hsz, ?_, e4⟩, hKt (hKt p2 hkp) (hKb _ _ _ _ (by omega) (by omega) e2 rfl)⟩⟩
      exact e3.trans (congrArg (fun q => some (Obj.loop q)) hr0)
    | ret => exact ⟨_, _, (round_end (P := P) (some .ret) l2 k2 hp.1).1, .inr ⟨rfl, keep3 .ret hp.1 hp.2⟩⟩
    | exit id => exact ⟨_, _, (round_end (P := P) (some (.exit id)) l2 k2 hp.1).1, .inr ⟨rfl, keep3 (.exit id) hp.1 hp.2⟩⟩
    | goto t => exact ⟨_, _, (round_end (P := P) (some (.goto t)) l2 k2 hp.1).1, .inr ⟨rfl, keep3 (.goto t) hp.1 hp.2⟩⟩
    | panic ch => exact hp.elim
    | outgrown => exact hp.elim
  refine key.mono ?_
  rintro e W2 ⟨⟨v, rfl⟩, (⟨xs, hS, q1, _, q3, q4⟩ | ⟨pre, hSp, c, q1, q3, q4⟩)⟩
  · exact ⟨none, _, by have h := run_endLoop (P := P) q3 (by rw [hrs]; simp); rw [show r.pending = none by rw [hr]] at h; exact h, hdone _ xs _ (Nat.le_refl _) hS (hI.putObj _ q1 (by omega) q3 rfl) ((World.putObj_heap_other (by omega)).trans q4)⟩
  · exact ⟨some c, _, run_endLoop (P := P) q3 (by simp), hstop _ c pre _ (Nat.le_refl _) hSp ((hIx c).putObj _ q1 (by omega) q3 rfl) ((World.putObj_heap_other (by omega)).trans q4)⟩
end

end Go.Proofs.Ytfdlhdgmbjdhbaa

namespace Go.Proofs.Ytfdlhdgmbjdhbaa
open Go.RowKit Go.Shelf

attribute [local go_sem] Oper.semAt_some

theorem infoSlO : (Try.prog.info? 41).map (fun i => (i.zero, i.size, i.bytes)) = some (some (.slice none 0 0), 1, 24) := by kernel_rfl
/-- Lists one after the other in one block, and where each lies. -/
def rowsV (ba : Nat) (Ls : List (List Int)) : List Value := (List.range Ls.length).map fun j => Value.slice (some ⟨ba, sumLL Ls j, none⟩) (lI Ls j).length (lI Ls j).length
theorem sumLL_flat : ∀ (Ls : List (List Int)), sumLL Ls Ls.length = Ls.flatten.length := by
  intro Ls
  have key : ∀ k, k ≤ Ls.length → sumLL Ls k = (Ls.take k).flatten.length := by
    intro k
    induction k with
    | zero => intro _; rfl
    | succ k ih =>
      intro hk
      show sumLL Ls k + (lI Ls k).length = _
      rw [ih (by omega), List.take_add_one, lI_lt (by omega), List.flatten_append, List.length_append]
      simp
  have := key Ls.length (Nat.le_refl _)
  rwa [List.take_length] at this
theorem sumLL_app (Ls : List (List Int)) (x : List Int) {k : Nat} (hk : k ≤ Ls.length) : sumLL (Ls ++ [x]) k = sumLL Ls k := by
  induction k with
  | zero => rfl
  | succ k ih =>
    show sumLL (Ls ++ [x]) k + (lI (Ls ++ [x]) k).length = sumLL Ls k + (lI Ls k).length
    rw [ih (by omega)]
    congr 2
    unfold lI
    rw [List.getD_eq_getElem?_getD, List.getD_eq_getElem?_getD, List.getElem?_append_left (by omega)]
theorem rowsV_push (ba : Nat) (Ls : List (List Int)) (x : List Int) : rowsV ba (Ls ++ [x]) = rowsV ba Ls ++ [Value.slice (some ⟨ba, Ls.flatten.length, none⟩) x.length x.length] := by
  unfold rowsV
  rw [List.length_append, List.length_singleton, List.range_succ, List.map_append]
  congr 1
  · apply List.map_congr_left
    intro j hj
    have hj' := List.mem_range.1 hj
    have e1 : lI (Ls ++ [x]) j = lI Ls j := by
      unfold lI
      rw [List.getD_eq_getElem?_getD, List.getD_eq_getElem?_getD, List.getElem?_append_left hj']
    rw [sumLL_app Ls x (by omega), e1]
  · have e1 : lI (Ls ++ [x]) Ls.length = x := by
      unfold lI
      rw [List.getD_eq_getElem?_getD, List.getElem?_append_right (Nat.le_refl _)]
      simp
    simp only [List.map_cons, List.map_nil]
    rw [sumLL_app Ls x (Nat.le_refl _), e1, sumLL_flat]
theorem rowsV_len (ba : Nat) (Ls : List (List Int)) : (rowsV ba Ls).length = Ls.length := by simp [rowsV]

theorem Box.same {w w' : World} {B : Nat} {s : Int} {q : Option Addr} {n cap : Nat} (h : Box w B s q n cap) (hk : w'.heap[B]? = w.heap[B]?) : Box w' B s q n cap :=
  ⟨(World.cell?_of_block (w := w) (a := ⟨B, 0, none⟩) hk).trans h.1, (World.cell?_of_block (w := w) (a := ⟨B, 1, none⟩) hk).trans h.2⟩

theorem run_three (w : World) (ba l L m K : Nat) (hL : l + K = L) (hK : 0 < K) (hm : L ≤ m) :
    (Instr.slice 41 (.slice (some ⟨ba, 0, none⟩) L m) (some (.int .i64 l)) (some (.int .i64 L)) (some (.int .i64 L))).run Try.prog w = .ok (.slice (some ⟨ba, l, none⟩) K K) w := by
  have hu : Try.prog.underlying 41 = some (.slice (Try.prog.elem 41)) := by kernel_rfl
  have hs : (sizeOf (Try.prog.elem 41)).run Try.prog w = .ok 1 w := by kernel_rfl
  have h := run_slice_lhm (P := Try.prog) (w := w) 41 (some ⟨ba, 0, none⟩) L m hu .i64 .i64 .i64 l L L (by omega) (by omega) (Int.le_refl _) (by omega)
  rw [h, hs]
  simp only [Int.toNat_natCast]
  unfold sliced
  show Result.ok (Value.slice (if L = l then _ else _) (L - l) (L - l)) w = _
  rw [if_neg (by omega), show L - l = K by omega, Nat.mul_one]
  simp [Addr.add_lit]

theorem ownsRow_keep {w w' : World} {B n sz : Nat} {e : TypeId} {v : Value} {xs : List Value} (h : w.ownsRow B e sz v n xs) (hk : ∀ k, B ≤ k → k < w.heap.size → w'.heap[k]? = w.heap[k]?) : w'.ownsRow B e sz v n xs := by
  refine ⟨h.1, ?_⟩
  rcases h.2 with hn | ⟨g, c, cur, hv, hb, hg, r⟩
  · exact .inl hn
  · exact .inr ⟨g, c, cur, hv, hb, (hk g hb (Array.getElem?_eq_some_iff.1 hg).1).trans hg, r⟩

theorem ownsRow_leave {w w' : World} {B n sz : Nat} {e : TypeId} {v : Value} {xs : List Value} (h : w.ownsRow B e sz v n xs) (hk : ∀ k cur t fr, k < w.heap.size → w.heap[k]? = some (Obj.cells cur t fr) → w'.heap[k]? = w.heap[k]?) : w'.ownsRow B e sz v n xs := by
  refine ⟨h.1, ?_⟩
  rcases h.2 with hn | ⟨g, c, cur, hv, hb, hg, r⟩
  · exact .inl hn
  · exact .inr ⟨g, c, cur, hv, hb, (hk g _ _ _ (Array.getElem?_eq_some_iff.1 hg).1 hg).trans hg, r⟩

end Go.Proofs.Ytfdlhdgmbjdhbaa
