/- A range over a function that writes memory of its own between two rounds, and hands on what lies there: what such a function owes, and what a loop over it may rely on. No program is named here. -/
import Derived.RangeFuncNested
import Derived.RangeFuncBound
import Derived.RangeFuncCalls
import Derived.RangeFuncLeaves
import Derived.RangeFuncWrites
import Derived.WalkKit
namespace Go.Proofs.Ytaafbdpdpndplaa
open Go.RowKit

/-- Some blocks are as they were, and all that is no memory. -/
structure Kept (p : Nat → Prop) (W W' : World) : Prop where
  os : W'.os = W.os
  tape : W'.tape = W.tape
  output : W'.output = W.output
  size : W.heap.size ≤ W'.heap.size
  same : ∀ i, p i → i < W.heap.size → W'.heap[i]? = W.heap[i]?
theorem Kept.refl (p : Nat → Prop) (W : World) : Kept p W W := ⟨rfl, rfl, rfl, Nat.le_refl _, fun _ _ _ => rfl⟩
theorem Kept.trans {p : Nat → Prop} {A B C : World} (h : Kept p A B) (k : Kept p B C) : Kept p A C :=
  ⟨k.os.trans h.os, k.tape.trans h.tape, k.output.trans h.output, Nat.le_trans h.size k.size, fun i hp hi => (k.same i hp (Nat.lt_of_lt_of_le hi h.size)).trans (h.same i hp hi)⟩
theorem Kept.mono {p q : Nat → Prop} {A B : World} (h : Kept p A B) (hq : ∀ i, q i → p i) : Kept q A B := ⟨h.os, h.tape, h.output, h.size, fun i hi hl => h.same i (hq i hi) hl⟩

/-- What a function that is ranged over owes: of all that a loop keeps (`J`, once a part has come; `Jx`, once a round has left) it asks that its own moves `Mv` leave it alone; at each round what it hands on lies there (`X`); of a round that goes on it asks `Kp`. `A` is the first block that it makes. -/
def SeqMoves {α : Type} (F : Fence) (n : Nat) (P : Program) (gf : Nat) (lb : Array Value) (encs : α → Array Value) (A : Nat) (X : α → World → Prop) (Kp Mv : World → World → Prop) (S Sp : List α → Prop) (N : Nat) (w0 : World) : Prop :=
  ∀ (l : Nat) (J Jx : List α → World → Prop) (W : World), W.heap.size = A → Below w0.heap.size w0 W → (∀ s X Y, J s X → Mv X Y → J s Y) → (∀ s X Y, Jx s X → Mv X Y → Jx s Y) →
    (∀ pre x W1, J pre W1 → X x W1 → pre.length < N → YieldAt F (n - 1) P l (encs x) W1 fun e W' =>
      (e = .returned (.bool true) ∧ J (pre ++ [x]) W' ∧ Kp W1 W') ∨ (e = .returned (.bool false) ∧ Jx (pre ++ [x]) W')) →
    J [] W →
    CallsIn F n P gf (#[.func (.yield l) #[] #[]] ++ lb) W fun e W' => (∃ v, e = .returned v) ∧ ((∃ xs, S xs ∧ J xs W') ∨ (∃ pre, Sp pre ∧ Jx pre W'))

section
variable {F : Fence} {n : Nat} {P : Program}

/-- The loop's book-keeping behind a round: the record is turned once more. -/
theorem round_end {B : Nat} {r : Loop} {W2 W3 : World} (jump : Option Code) (hl : W2.heap[B + 1]? = some (.loop { r with state := .busy })) (hk : W2.heap[B]? = some (.deferred (some []))) (hkf : KeepsFrom B W2 W3) :
    (Instr.endRound (B + 1) jump).run P W3 = .ok (.bool jump.isNone) (W3.putObj (B + 1) (.loop { r with state := if jump.isNone then .ready else .done, pending := jump })) ∧
    W3.heap[B + 1]? = some (.loop { r with state := .busy }) ∧
    (W3.putObj (B + 1) (.loop { r with state := if jump.isNone then .ready else .done, pending := jump })).heap[B + 1]? = some (.loop { r with state := if jump.isNone then .ready else .done, pending := jump }) ∧
    (W3.putObj (B + 1) (.loop { r with state := if jump.isNone then .ready else .done, pending := jump })).heap[B]? = some (.deferred (some [])) := by
  have h3 := hkf.same _ _ (Nat.le_succ B) hl rfl
  have k3 := hkf.same _ _ (Nat.le_refl B) hk rfl
  exact ⟨run_endRound (P := P) (r := { r with state := .busy }) jump h3, h3, World.putObj_heap_same (Array.getElem?_eq_some_iff.1 h3).1, (World.putObj_heap_other (by omega)).trans k3⟩

/-- The law of a loop over a function that makes moves of its own. -/
theorem rangeFunc_moves {α : Type} {g : Operand} {ps : Array Tmp} {assign body : Code} {Q : Exit → Act → World → Prop} {a : Act} {w : World}
    (hro : F.round = none) (h1 : 1 ≤ n) {gf : Nat} {lb : Array Value} (hg : a.eval g = .func (.func gf) #[] lb) (hFg : F.fn gf) (eg : ∀ args w, (callFunc gf args).run P w = .ok (.enter gf args) w)
    {encs : α → Array Value} {A : Nat} {X : α → World → Prop} {Kp Mv : World → World → Prop} {S Sp : List α → Prop} {N : Nat} {w0 : World} (hA : A = w.heap.size + 2) (hseq : SeqMoves F (n - 1) P gf lb encs A X Kp Mv S Sp N w0)
    (hKt : ∀ {A B C : World}, Kp A B → Kp B C → Kp A C) (hKb : ∀ (W : World) (l : Nat) (o o' : Obj), w.heap.size ≤ l → l < A → W.heap[l]? = some o → o.isCells = false → Kp W (W.putObj l o'))
    (hMb : ∀ (Y Z : World) (i : Nat) (o : Obj), Mv Y Z → w.heap.size ≤ i → i < A → Y.heap[i]? = some o → Z.heap[i]? = some o)
    (hMs : ∀ (Y Z : World), Mv Y Z → Y.heap.size ≤ Z.heap.size)
    (hXb : ∀ (x : α) (W : World) (l : Nat) (o o' : Obj), X x W → w.heap.size ≤ l → l < A → W.heap[l]? = some o → o.isCells = false → X x (W.putObj l o'))
    (hb0 : Below w0.heap.size w0 w) (hps : ∀ x, (encs x).size = ps.size)
    (I : List α → World → Prop) (Ix : Code → List α → World → Prop) (hI : OwnFrom w.heap.size I) (hIx : ∀ c, OwnFrom w.heap.size (Ix c))
    (hIm : ∀ s Y Z, I s Y → Mv Y Z → I s Z) (hIxm : ∀ c s Y Z, Ix c s Y → Mv Y Z → Ix c s Z) (h0 : I [] w) (a₁ : α → Act)
    (hassign : ∀ (l : Nat) (x : α) (W : World) (K : Act → World → Prop), K (a₁ x) W →
      assign.wpIn (F.inRound l) (n - 1 - 1) P (Exit.then K (fun _ _ _ => False)) { tmps := (ps.zip (encs x)).foldl (fun t (p, v) => t.setIfInBounds p v) a.tmps, defers := [] } W)
    (hbody : ∀ (l : Nat) (pre : List α) (x : α) (W : World), I pre W → X x W → A ≤ W.heap.size → pre.length < N → body.wpIn (F.inRound l) (n - 1 - 1) P (ownPostG w.heap.size Kp I Ix (pre ++ [x]) W) (a₁ x) W)
    (hdone : ∀ (D : Nat) (xs : List α) (W : World), w.heap.size ≤ D → S xs → I xs W → W.heap[D]? = some (.deferred (some [])) → Q .normal { a with defers := { target := .collected D, args := #[] } :: a.defers } W)
    (hstop : ∀ (D : Nat) (c : Code) (pre : List α) (W : World), w.heap.size ≤ D → Sp pre → Ix c pre W → W.heap[D]? = some (.deferred (some [])) → c.wpIn F n P Q { a with defers := { target := .collected D, args := #[] } :: a.defers } W) :
    (Code.rangeFunc g ps assign body).wpIn F n P Q a w := by
  refine wpIn_rangeFunc fun fn hfn => ?_
  rw [hro]
  obtain ⟨r, hr⟩ : ∃ r : Loop, r = { state := .ready, pending := none, fn, tmps := a.tmps, params := ps, assign, body, defers := w.heap.size } := ⟨_, rfl⟩
  have hrs : r.state = .ready := by rw [hr]
  have hr0 : ({ r with state := .ready, pending := none } : Loop) = r := by rw [hr]
  obtain ⟨V, hV⟩ : ∃ V, V = (w.alloc (.deferred (some []))).alloc (.loop r) := ⟨_, rfl⟩
  have vl : V.heap[w.heap.size + 1]? = some (.loop r) := by
    rw [hV]
    have h := World.alloc_heap_new (w.alloc (.deferred (some []))) (.loop r)
    rwa [World.size_alloc] at h
  have vk : V.heap[w.heap.size]? = some (.deferred (some [])) := by
    rw [hV]
    exact (Below.heap_alloc _ _ _ (by simp)).trans (World.alloc_heap_new w _)
  have vI : I [] V := by rw [hV]; exact hI.alloc _ (hI.alloc _ h0)
  have vz : V.heap.size = A := by rw [hV, hA]; simp
  have vb : Below w0.heap.size w0 V := by
    rw [hV]
    exact (hb0.alloc hb0.size _).alloc (by have := hb0.size; simp; omega) _
  refine ⟨w.heap.size + 1, [{ target := .collected w.heap.size, args := #[] }], V, { target := .fn (.func gf) lb, args := #[.func (.yield (w.heap.size + 1)) #[] #[]] }, V, gf,
    #[.func (.yield (w.heap.size + 1)) #[] #[]] ++ lb, V, ?_, ?_, ?_, ?_, fun _ => h1, ?_⟩
  · rw [hV, hr]; exact run_enterLoop_outer _ _ _ _ _
  · simp only [resolve, hg]
    simp [go_sem]
  · intro f' hf'
    simp [Target.leads] at hf'
    subst hf'
    exact hFg
  · simp [invoke, go_sem, eg]
  have key := hseq (w.heap.size + 1)
    (fun pre W => I pre W ∧ A ≤ W.heap.size ∧ W.heap[w.heap.size + 1]? = some (.loop r) ∧ W.heap[w.heap.size]? = some (.deferred (some [])))
    (fun pre W => ∃ c, Ix c pre W ∧ W.heap[w.heap.size + 1]? = some (.loop { r with state := .done, pending := some c }) ∧ W.heap[w.heap.size]? = some (.deferred (some [])))
    V vz vb ?m1 ?m2 ?round ⟨vI, by omega, vl, vk⟩
  case m1 =>
    rintro s Y Z ⟨q1, q2, q3, q4⟩ hm
    have z3 := hMb Y Z _ _ hm (by omega) (by omega) q3
    exact ⟨hIm s Y Z q1 hm, Nat.le_trans q2 (hMs Y Z hm), z3, hMb Y Z _ _ hm (by omega) (by omega) q4⟩
  case m2 =>
    rintro s Y Z ⟨c, q1, q3, q4⟩ hm
    exact ⟨c, hIxm c s Y Z q1 hm, hMb Y Z _ _ hm (by omega) (by omega) q3, hMb Y Z _ _ hm (by omega) (by omega) q4⟩
  case round =>
    rintro pre x W ⟨q1, q2, q3, q4⟩ hX hlen
    have hy := run_yield (P := P) (args := encs x) q3 (by rw [hr]; exact hps x)
    have hlt : w.heap.size + 1 < W.heap.size := (Array.getElem?_eq_some_iff.1 q3).1
    rw [hr] at hy
    refine ⟨fn, _, assign, body, hy, roundIn_of_wpIn hfn (hassign _ x W _ ⟨_, run_beginRound q3 hrs, ?_⟩)⟩
    obtain ⟨W2, hW2⟩ : ∃ W2, W2 = W.putObj (w.heap.size + 1) (.loop { r with state := .busy }) := ⟨_, rfl⟩
    rw [← hW2]
    have l2 : W2.heap[w.heap.size + 1]? = some (.loop { r with state := .busy }) := by rw [hW2]; exact World.putObj_heap_same hlt
    have k2 : W2.heap[w.heap.size]? = some (.deferred (some [])) := by rw [hW2]; exact (World.putObj_heap_other (by omega)).trans q4
    have p2 : Kp W W2 := by rw [hW2]; exact hKb _ _ _ _ (by omega) (by omega) q3 rfl
    have i2 : I pre W2 := by rw [hW2]; exact hI.putObj _ q1 (by omega) q3 rfl
    have x2 : X x W2 := by rw [hW2]; exact hXb _ _ _ _ _ hX (by omega) (by omega) q3 rfl
    have z2 : A ≤ W2.heap.size := by rw [hW2]; simpa [World.putObj] using q2
    clear hW2
    refine wpIn_mono (hbody _ pre x W2 i2 x2 z2 hlen) ?_
    rintro e a3 W3 hp
    have keep3 : ∀ (c : Code) (hkf : KeepsFrom w.heap.size W2 W3) (_ : Ix c (pre ++ [x]) W3), ∃ c', Ix c' (pre ++ [x]) (W3.putObj (w.heap.size + 1) (.loop { r with state := .done, pending := some c })) ∧ (W3.putObj (w.heap.size + 1) (.loop { r with state := .done, pending := some c })).heap[w.heap.size + 1]? = some (.loop { r with state := .done, pending := some c' }) ∧ (W3.putObj (w.heap.size + 1) (.loop { r with state := .done, pending := some c })).heap[w.heap.size]? = some (.deferred (some [])) := fun c hkf hx => by
      obtain ⟨_, e2, e3, e4⟩ := round_end (P := P) (some c) l2 k2 hkf
      exact ⟨c, (hIx c).putObj _ hx (by omega) e2 rfl, e3, e4⟩
    cases e with
    | normal =>
      obtain ⟨hkf, hkp, hi⟩ := hp
      obtain ⟨e1, e2, e3, e4⟩ := round_end (P := P) none l2 k2 hkf
      have hsz : A ≤ (W3.putObj (w.heap.size + 1) (.loop { r with state := .ready, pending := none })).heap.size := by
        have := hkf.size
        simp only [World.putObj]
        simp
        omega
      refine ⟨_, _, e1, .inl ⟨rfl, ⟨hI.putObj _ hi (by omega) e2 rfl, hsz, ?_, e4⟩, hKt (hKt p2 hkp) (hKb _ _ _ _ (by omega) (by omega) e2 rfl)⟩⟩
      exact e3.trans (congrArg (fun q => some (Obj.loop q)) hr0)
    | ret => exact ⟨_, _, (round_end (P := P) (some .ret) l2 k2 hp.1).1, .inr ⟨rfl, keep3 .ret hp.1 hp.2⟩⟩
    | exit id => exact ⟨_, _, (round_end (P := P) (some (.exit id)) l2 k2 hp.1).1, .inr ⟨rfl, keep3 (.exit id) hp.1 hp.2⟩⟩
    | goto t => exact ⟨_, _, (round_end (P := P) (some (.goto t)) l2 k2 hp.1).1, .inr ⟨rfl, keep3 (.goto t) hp.1 hp.2⟩⟩
    | panic ch => exact hp.elim
    | outgrown => exact hp.elim
  refine key.mono ?_
  rintro e W2 ⟨⟨v, rfl⟩, (⟨xs, hS, q1, _, q3, q4⟩ | ⟨pre, hSp, c, q1, q3, q4⟩)⟩
  · exact ⟨none, _, by have h := run_endLoop (P := P) q3 (by rw [hrs]; simp); rw [show r.pending = none by rw [hr]] at h; exact h, hdone _ xs _ (Nat.le_refl _) hS (hI.putObj _ q1 (by omega) q3 rfl) ((World.putObj_heap_other (by omega)).trans q4)⟩
  · exact ⟨some c, _, run_endLoop (P := P) q3 (by simp), hstop _ c pre _ (Nat.le_refl _) hSp ((hIx c).putObj _ q1 (by omega) q3 rfl) ((World.putObj_heap_other (by omega)).trans q4)⟩
end

end Go.Proofs.Ytaafbdpdpndplaa
