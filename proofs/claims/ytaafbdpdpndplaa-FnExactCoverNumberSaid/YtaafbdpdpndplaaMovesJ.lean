/- The law of MovesK where the body is told of the loop's record (a loop within it wants that). No program is named here. -/
import Derived.Test.YtaafbdpdpndplaaMoves
import Derived.ControlIn
import Derived.Scope
import Derived.WalkKit

/- A range over a function that writes memory of its own between two rounds, where a round that leaves keeps a part of that memory too. No program is named here. -/
namespace Go.Proofs.Ytaafbdpdpndplaa
open Go.RowKit

/-- What a function that is ranged over owes: of all that a loop keeps (`J`, once a part has come; `Jx`, once a round has left) it asks that its own moves `Mv` leave it alone; at each round what it hands on lies there (`X`); of a round that goes on it asks `Kp`, of one that leaves `Kx`. `A` is the first block that it makes. -/
def SeqMovesK {α : Type} (F : Fence) (n : Nat) (P : Program) (gf : Nat) (lb : Array Value) (encs : α → Array Value) (A : Nat) (X : α → World → Prop) (Kp Kx Mv : World → World → Prop) (S Sp : List α → Prop) (N : Nat) (w0 : World) : Prop :=
  ∀ (l : Nat) (J Jx : List α → World → Prop) (W : World), W.heap.size = A → Below w0.heap.size w0 W → (∀ s X Y, J s X → Mv X Y → J s Y) → (∀ s X Y, Jx s X → Mv X Y → Jx s Y) →
    (∀ pre x W1, J pre W1 → X x W1 → pre.length < N → YieldAt F (n - 1) P l (encs x) W1 fun e W' =>
      (e = .returned (.bool true) ∧ J (pre ++ [x]) W' ∧ Kp W1 W') ∨ (e = .returned (.bool false) ∧ Jx (pre ++ [x]) W' ∧ Kx W1 W')) →
    J [] W →
    CallsIn F n P gf (#[.func (.yield l) #[] #[]] ++ lb) W fun e W' => (∃ v, e = .returned v) ∧ ((∃ xs, S xs ∧ J xs W') ∨ (∃ pre, Sp pre ∧ Jx pre W'))

/-- How the body of a round may be left. -/
def ownPostX {α : Type} (B : Nat) (Kp Kx : World → World → Prop) (I : List α → World → Prop) (Ix : Code → List α → World → Prop) (xs : List α) (W : World) : Exit → Act → World → Prop
  | .normal, _, W' => KeepsFrom B W W' ∧ Kp W W' ∧ I xs W'
  | .ret, _, W' => KeepsFrom B W W' ∧ Kx W W' ∧ Ix .ret xs W'
  | .exit id, _, W' => KeepsFrom B W W' ∧ Kx W W' ∧ Ix (.exit id) xs W'
  | .goto t, _, W' => KeepsFrom B W W' ∧ Kx W W' ∧ Ix (.goto t) xs W'
  | .panic _, _, _ => False
  | .outgrown, _, _ => False

section
variable {F : Fence} {n : Nat} {P : Program}

/-- The law of a loop over a function that makes moves of its own. -/
theorem rangeFunc_movesK {α : Type} {g : Operand} {ps : Array Tmp} {assign body : Code} {Q : Exit → Act → World → Prop} {a : Act} {w : World}
    (hro : F.round = none) (h1 : 1 ≤ n) {gf : Nat} {lb : Array Value} (hg : a.eval g = .func (.func gf) #[] lb) (hFg : F.fn gf) (eg : ∀ args w, (callFunc gf args).run P w = .ok (.enter gf args) w)
    {encs : α → Array Value} {A : Nat} {X : α → World → Prop} {Kp Kx Mv : World → World → Prop} {S Sp : List α → Prop} {N : Nat} {w0 : World} (hA : A = w.heap.size + 2) (hseq : SeqMovesK F (n - 1) P gf lb encs A X Kp Kx Mv S Sp N w0)
    (hKt : ∀ {A B C : World}, Kp A B → Kp B C → Kp A C) (hKb : ∀ (W : World) (l : Nat) (o o' : Obj), w.heap.size ≤ l → l < A → W.heap[l]? = some o → o.isCells = false → Kp W (W.putObj l o'))
    (hXt : ∀ {A B C : World}, Kx A B → Kx B C → Kx A C) (hXk : ∀ (W : World) (l : Nat) (o o' : Obj), w.heap.size ≤ l → l < A → W.heap[l]? = some o → o.isCells = false → Kx W (W.putObj l o'))
    (hMb : ∀ (Y Z : World) (i : Nat) (o : Obj), Mv Y Z → w.heap.size ≤ i → i < A → Y.heap[i]? = some o → Z.heap[i]? = some o)
    (hMs : ∀ (Y Z : World), Mv Y Z → Y.heap.size ≤ Z.heap.size)
    (hXb : ∀ (x : α) (W : World) (l : Nat) (o o' : Obj), X x W → w.heap.size ≤ l → l < A → W.heap[l]? = some o → o.isCells = false → X x (W.putObj l o'))
    (hb0 : Below w0.heap.size w0 w) (hps : ∀ x, (encs x).size = ps.size)
    (I : List α → World → Prop) (Ix : Code → List α → World → Prop) (hI : OwnFrom w.heap.size I) (hIx : ∀ c, OwnFrom w.heap.size (Ix c))
    (hIm : ∀ s Y Z, I s Y → Mv Y Z → I s Z) (hIxm : ∀ c s Y Z, Ix c s Y → Mv Y Z → Ix c s Z) (h0 : I [] w) (a₁ : α → Act)
    (hassign : ∀ (l : Nat) (x : α) (W : World) (K : Act → World → Prop), K (a₁ x) W →
      assign.wpIn (F.inRound l) (n - 1 - 1) P (Exit.then K (fun _ _ _ => False)) { tmps := (ps.zip (encs x)).foldl (fun t (p, v) => t.setIfInBounds p v) a.tmps, defers := [] } W)
    (hbody : ∀ (l : Nat) (pre : List α) (x : α) (W : World), I pre W → X x W → A ≤ W.heap.size → pre.length < N → body.wpIn (F.inRound l) (n - 1 - 1) P (ownPostX w.heap.size Kp Kx I Ix (pre ++ [x]) W) (a₁ x) W)
    (hdone : ∀ (D : Nat) (xs : List α) (W : World), w.heap.size ≤ D → S xs → I xs W → W.heap[D]? = some (.deferred (some [])) → Q .normal { a with defers := { target := .collected D, args := #[] } :: a.defers } W)
    (hstop : ∀ (D : Nat) (c : Code) (pre : List α) (W : World), w.heap.size ≤ D → Sp pre → Ix c pre W → W.heap[D]? = some (.deferred (some [])) → c.wpIn F n P Q { a with defers := { target := .collected D, args := #[] } :: a.defers } W) :
    (Code.rangeFunc g ps assign body).wpIn F n P Q a w := by
  refine wpIn_rangeFunc fun fn hfn => ?_
  rw [hro]
  obtain ⟨r, hr⟩ : ∃ r : Loop, r = { state := .ready, pending := none, fn, tmps := a.tmps, params := ps, assign, body, defers := w.heap.size } := ⟨_, rfl⟩
  have hrs : r.state = .ready := by rw [hr]
  have hr0 : ({ r with state := .ready, pending := none } : Loop) = r := by rw [hr]
  obtain ⟨V, hV⟩ : ∃ V, V = (w.alloc (.deferred (some []))).alloc (.loop r) := ⟨_, rfl⟩
  have vl : V.heap[w.heap.size + 1]? = some (.loop r) := by
    rw [hV]
    have h := World.alloc_heap_new (w.alloc (.deferred (some []))) (.loop r)
    rwa [World.size_alloc] at h
  have vk : V.heap[w.heap.size]? = some (.deferred (some [])) := by
    rw [hV]
    exact (Below.heap_alloc _ _ _ (by simp)).trans (World.alloc_heap_new w _)
  have vI : I [] V := by rw [hV]; exact hI.alloc _ (hI.alloc _ h0)
  have vz : V.heap.size = A := by rw [hV, hA]; simp
  have vb : Below w0.heap.size w0 V := by
    rw [hV]
    exact (hb0.alloc hb0.size _).alloc (by have := hb0.size; simp; omega) _
  refine ⟨w.heap.size + 1, [{ target := .collected w.heap.size, args := #[] }], V, { target := .fn (.func gf) lb, args := #[.func (.yield (w.heap.size + 1)) #[] #[]] }, V, gf,
    #[.func (.yield (w.heap.size + 1)) #[] #[]] ++ lb, V, ?_, ?_, ?_, ?_, fun _ => h1, ?_⟩
  · rw [hV, hr]; exact run_enterLoop_outer _ _ _ _ _
  · simp only [resolve, hg]
    simp [go_sem]
  · intro f' hf'
    simp [Target.leads] at hf'
    subst hf'
    exact hFg
  · simp [invoke, go_sem, eg]
  have key := hseq (w.heap.size + 1)
    (fun pre W => I pre W ∧ A ≤ W.heap.size ∧ W.heap[w.heap.size + 1]? = some (.loop r) ∧ W.heap[w.heap.size]? = some (.deferred (some [])))
    (fun pre W => ∃ c, Ix c pre W ∧ W.heap[w.heap.size + 1]? = some (.loop { r with state := .done, pending := some c }) ∧ W.heap[w.heap.size]? = some (.deferred (some [])))
    V vz vb ?m1 ?m2 ?round ⟨vI, by omega, vl, vk⟩
  case m1 =>
    rintro s Y Z ⟨q1, q2, q3, q4⟩ hm
    have z3 := hMb Y Z _ _ hm (by omega) (by omega) q3
    exact ⟨hIm s Y Z q1 hm, Nat.le_trans q2 (hMs Y Z hm), z3, hMb Y Z _ _ hm (by omega) (by omega) q4⟩
  case m2 =>
    rintro s Y Z ⟨c, q1, q3, q4⟩ hm
    exact ⟨c, hIxm c s Y Z q1 hm, hMb Y Z _ _ hm (by omega) (by omega) q3, hMb Y Z _ _ hm (by omega) (by omega) q4⟩
  case round =>
    rintro pre x W ⟨q1, q2, q3, q4⟩ hX hlen
    have hy := run_yield (P := P) (args := encs x) q3 (by rw [hr]; exact hps x)
    have hlt : w.heap.size + 1 < W.heap.size := (Array.getElem?_eq_some_iff.1 q3).1
    rw [hr] at hy
    refine ⟨fn, _, assign, body, hy, roundIn_of_wpIn hfn (hassign _ x W _ ⟨_, run_beginRound q3 hrs, ?_⟩)⟩
    obtain ⟨W2, hW2⟩ : ∃ W2, W2 = W.putObj (w.heap.size + 1) (.loop { r with state := .busy }) := ⟨_, rfl⟩
    rw [← hW2]
    have l2 : W2.heap[w.heap.size + 1]? = some (.loop { r with state := .busy }) := by rw [hW2]; exact World.putObj_heap_same hlt
    have k2 : W2.heap[w.heap.size]? = some (.deferred (some [])) := by rw [hW2]; exact (World.putObj_heap_other (by omega)).trans q4
    have p2 : Kp W W2 := by rw [hW2]; exact hKb _ _ _ _ (by omega) (by omega) q3 rfl
    have x2' : Kx W W2 := by rw [hW2]; exact hXk _ _ _ _ (by omega) (by omega) q3 rfl
    have i2 : I pre W2 := by rw [hW2]; exact hI.putObj _ q1 (by omega) q3 rfl
    have x2 : X x W2 := by rw [hW2]; exact hXb _ _ _ _ _ hX (by omega) (by omega) q3 rfl
    have z2 : A ≤ W2.heap.size := by rw [hW2]; simpa [World.putObj] using q2
    clear hW2
    refine wpIn_mono (hbody _ pre x W2 i2 x2 z2 hlen) ?_
    rintro e a3 W3 hp
    have keep3 : ∀ (c : Code) (hkf : KeepsFrom w.heap.size W2 W3) (hkx : Kx W2 W3) (_ : Ix c (pre ++ [x]) W3), (∃ c', Ix c' (pre ++ [x]) (W3.putObj (w.heap.size + 1) (.loop { r with state := .done, pending := some c })) ∧ (W3.putObj (w.heap.size + 1) (.loop { r with state := .done, pending := some c })).heap[w.heap.size + 1]? = some (.loop { r with state := .done, pending := some c' }) ∧ (W3.putObj (w.heap.size + 1) (.loop { r with state := .done, pending := some c })).heap[w.heap.size]? = some (.deferred (some []))) ∧ Kx W (W3.putObj (w.heap.size + 1) (.loop { r with state := .done, pending := some c })) := fun c hkf hkx hx => by
      obtain ⟨_, e2, e3, e4⟩ := round_end (P := P) (some c) l2 k2 hkf
      exact ⟨⟨c, (hIx c).putObj _ hx (by omega) e2 rfl, e3, e4⟩, hXt (hXt x2' hkx) (hXk _ _ _ _ (by omega) (by omega) e2 rfl)⟩
    cases e with
    | normal =>
      obtain ⟨hkf, hkp, hi⟩ := hp
      obtain ⟨e1, e2, e3, e4⟩ := round_end (P := P) none l2 k2 hkf
      have hsz : A ≤ (W3.putObj (w.heap.size + 1) (.loop { r with state := .ready, pending := none })).heap.size := by
        have := hkf.size
        simp only [World.putObj]
        simp
        omega
      refine ⟨_, _, e1, .inl ⟨rfl, ⟨hI.putObj _ hi (by omega) e2 rfl, hsz, ?_, e4⟩, hKt (hKt p2 hkp) (hKb _ _ _ _ (by omega) (by omega) e2 rfl)⟩⟩
      exact e3.trans (congrArg (fun q => some (Obj.loop q)) hr0)
    | ret => exact ⟨_, _, (round_end (P := P) (some .ret) l2 k2 hp.1).1, .inr ⟨rfl, keep3 .ret hp.1 hp.2.1 hp.2.2⟩⟩
    | exit id => exact ⟨_, _, (round_end (P := P) (some (.exit id)) l2 k2 hp.1).1, .inr ⟨rfl, keep3 (.exit id) hp.1 hp.2.1 hp.2.2⟩⟩
    | goto t => exact ⟨_, _, (round_end (P := P) (some (.goto t)) l2 k2 hp.1).1, .inr ⟨rfl, keep3 (.goto t) hp.1 hp.2.1 hp.2.2⟩⟩
    | panic ch => exact hp.elim
    | outgrown => exact hp.elim
  refine key.mono ?_
  rintro e W2 ⟨⟨v, rfl⟩, (⟨xs, hS, q1, _, q3, q4⟩ | ⟨pre, hSp, c, q1, q3, q4⟩)⟩
  · exact ⟨none, _, by have h := run_endLoop (P := P) q3 (by rw [hrs]; simp); rw [show r.pending = none by rw [hr]] at h; exact h, hdone _ xs _ (Nat.le_refl _) hS (hI.putObj _ q1 (by omega) q3 rfl) ((World.putObj_heap_other (by omega)).trans q4)⟩
  · exact ⟨some c, _, run_endLoop (P := P) q3 (by simp), hstop _ c pre _ (Nat.le_refl _) hSp ((hIx c).putObj _ q1 (by omega) q3 rfl) ((World.putObj_heap_other (by omega)).trans q4)⟩
end

end Go.Proofs.Ytaafbdpdpndplaa

/- A range over a function that writes memory of its own, where the body is told of the loop's record, and the same law for a loop within a round of another loop. No program is named here. -/
namespace Go.Proofs.Ytaafbdpdpndplaa
open Go.RowKit
section
variable {F : Fence} {n : Nat} {P : Program}

/-- The law of a loop over a function that makes moves of its own; the body is told of the loop's own record (a loop within it wants that). -/
theorem rangeFunc_movesH {α : Type} {g : Operand} {ps : Array Tmp} {assign body : Code} {Q : Exit → Act → World → Prop} {a : Act} {w : World}
    (hro : F.round = none) (h1 : 1 ≤ n) {gf : Nat} {lb : Array Value} (hg : a.eval g = .func (.func gf) #[] lb) (hFg : F.fn gf) (eg : ∀ args w, (callFunc gf args).run P w = .ok (.enter gf args) w)
    {encs : α → Array Value} {A : Nat} {X : α → World → Prop} {Kp Mv : World → World → Prop} {S Sp : List α → Prop} {N : Nat} {w0 : World} (hA : A = w.heap.size + 2) (hseq : SeqMoves F (n - 1) P gf lb encs A X Kp Mv S Sp N w0)
    (hKt : ∀ {A B C : World}, Kp A B → Kp B C → Kp A C) (hKb : ∀ (W : World) (l : Nat) (o o' : Obj), w.heap.size ≤ l → l < A → W.heap[l]? = some o → o.isCells = false → Kp W (W.putObj l o'))
    (hMb : ∀ (Y Z : World) (i : Nat) (o : Obj), Mv Y Z → w.heap.size ≤ i → i < A → Y.heap[i]? = some o → Z.heap[i]? = some o)
    (hMs : ∀ (Y Z : World), Mv Y Z → Y.heap.size ≤ Z.heap.size)
    (hXb : ∀ (x : α) (W : World) (l : Nat) (o o' : Obj), X x W → w.heap.size ≤ l → l < A → W.heap[l]? = some o → o.isCells = false → X x (W.putObj l o'))
    (hb0 : Below w0.heap.size w0 w) (hps : ∀ x, (encs x).size = ps.size)
    (I : List α → World → Prop) (Ix : Code → List α → World → Prop) (hI : OwnFrom w.heap.size I) (hIx : ∀ c, OwnFrom w.heap.size (Ix c))
    (hIm : ∀ s Y Z, I s Y → Mv Y Z → I s Z) (hIxm : ∀ c s Y Z, Ix c s Y → Mv Y Z → Ix c s Z) (h0 : I [] w) (a₁ : α → Act)
    (hassign : ∀ (l : Nat) (x : α) (W : World) (K : Act → World → Prop), K (a₁ x) W →
      assign.wpIn (F.inRound l) (n - 1 - 1) P (Exit.then K (fun _ _ _ => False)) { tmps := (ps.zip (encs x)).foldl (fun t (p, v) => t.setIfInBounds p v) a.tmps, defers := [] } W)
    (hbody : ∀ (l : Nat) (pre : List α) (x : α) (W : World), w.heap.size ≤ l → l < A → (∃ r, W.heap[l]? = some (.loop r)) → I pre W → X x W → A ≤ W.heap.size → pre.length < N → body.wpIn (F.inRound l) (n - 1 - 1) P (ownPostG w.heap.size Kp I Ix (pre ++ [x]) W) (a₁ x) W)
    (hdone : ∀ (D : Nat) (xs : List α) (W : World), w.heap.size ≤ D → S xs → I xs W → W.heap[D]? = some (.deferred (some [])) → Q .normal { a with defers := { target := .collected D, args := #[] } :: a.defers } W)
    (hstop : ∀ (D : Nat) (c : Code) (pre : List α) (W : World), w.heap.size ≤ D → Sp pre → Ix c pre W → W.heap[D]? = some (.deferred (some [])) → c.wpIn F n P Q { a with defers := { target := .collected D, args := #[] } :: a.defers } W) :
    (Code.rangeFunc g ps assign body).wpIn F n P Q a w := by
  refine wpIn_rangeFunc fun fn hfn => ?_
  rw [hro]
  obtain ⟨r, hr⟩ : ∃ r : Loop, r = { state := .ready, pending := none, fn, tmps := a.tmps, params := ps, assign, body, defers := w.heap.size } := ⟨_, rfl⟩
  have hrs : r.state = .ready := by rw [hr]
  have hr0 : ({ r with state := .ready, pending := none } : Loop) = r := by rw [hr]
  obtain ⟨V, hV⟩ : ∃ V, V = (w.alloc (.deferred (some []))).alloc (.loop r) := ⟨_, rfl⟩
  have vl : V.heap[w.heap.size + 1]? = some (.loop r) := by
    rw [hV]
    have h := World.alloc_heap_new (w.alloc (.deferred (some []))) (.loop r)
    rwa [World.size_alloc] at h
  have vk : V.heap[w.heap.size]? = some (.deferred (some [])) := by
    rw [hV]
    exact (Below.heap_alloc _ _ _ (by simp)).trans (World.alloc_heap_new w _)
  have vI : I [] V := by rw [hV]; exact hI.alloc _ (hI.alloc _ h0)
  have vz : V.heap.size = A := by rw [hV, hA]; simp
  have vb : Below w0.heap.size w0 V := by
    rw [hV]
    exact (hb0.alloc hb0.size _).alloc (by have := hb0.size; simp; omega) _
  refine ⟨w.heap.size + 1, [{ target := .collected w.heap.size, args := #[] }], V, { target := .fn (.func gf) lb, args := #[.func (.yield (w.heap.size + 1)) #[] #[]] }, V, gf,
    #[.func (.yield (w.heap.size + 1)) #[] #[]] ++ lb, V, ?_, ?_, ?_, ?_, fun _ => h1, ?_⟩
  · rw [hV, hr]; exact run_enterLoop_outer _ _ _ _ _
  · simp only [resolve, hg]
    simp [go_sem]
  · intro f' hf'
    simp [Target.leads] at hf'
    subst hf'
    exact hFg
  · simp [invoke, go_sem, eg]
  have key := hseq (w.heap.size + 1)
    (fun pre W => I pre W ∧ A ≤ W.heap.size ∧ W.heap[w.heap.size + 1]? = some (.loop r) ∧ W.heap[w.heap.size]? = some (.deferred (some [])))
    (fun pre W => ∃ c, Ix c pre W ∧ W.heap[w.heap.size + 1]? = some (.loop { r with state := .done, pending := some c }) ∧ W.heap[w.heap.size]? = some (.deferred (some [])))
    V vz vb ?m1 ?m2 ?round ⟨vI, by omega, vl, vk⟩
  case m1 =>
    rintro s Y Z ⟨q1, q2, q3, q4⟩ hm
    have z3 := hMb Y Z _ _ hm (by omega) (by omega) q3
    exact ⟨hIm s Y Z q1 hm, Nat.le_trans q2 (hMs Y Z hm), z3, hMb Y Z _ _ hm (by omega) (by omega) q4⟩
  case m2 =>
    rintro s Y Z ⟨c, q1, q3, q4⟩ hm
    exact ⟨c, hIxm c s Y Z q1 hm, hMb Y Z _ _ hm (by omega) (by omega) q3, hMb Y Z _ _ hm (by omega) (by omega) q4⟩
  case round =>
    rintro pre x W ⟨q1, q2, q3, q4⟩ hX hlen
    have hy := run_yield (P := P) (args := encs x) q3 (by rw [hr]; exact hps x)
    have hlt : w.heap.size + 1 < W.heap.size := (Array.getElem?_eq_some_iff.1 q3).1
    rw [hr] at hy
    refine ⟨fn, _, assign, body, hy, roundIn_of_wpIn hfn (hassign _ x W _ ⟨_, run_beginRound q3 hrs, ?_⟩)⟩
    obtain ⟨W2, hW2⟩ : ∃ W2, W2 = W.putObj (w.heap.size + 1) (.loop { r with state := .busy }) := ⟨_, rfl⟩
    rw [← hW2]
    have l2 : W2.heap[w.heap.size + 1]? = some (.loop { r with state := .busy }) := by rw [hW2]; exact World.putObj_heap_same hlt
    have k2 : W2.heap[w.heap.size]? = some (.deferred (some [])) := by rw [hW2]; exact (World.putObj_heap_other (by omega)).trans q4
    have p2 : Kp W W2 := by rw [hW2]; exact hKb _ _ _ _ (by omega) (by omega) q3 rfl
    have i2 : I pre W2 := by rw [hW2]; exact hI.putObj _ q1 (by omega) q3 rfl
    have x2 : X x W2 := by rw [hW2]; exact hXb _ _ _ _ _ hX (by omega) (by omega) q3 rfl
    have z2 : A ≤ W2.heap.size := by rw [hW2]; simpa [World.putObj] using q2
    clear hW2
    refine wpIn_mono (hbody _ pre x W2 (by omega) (by omega) ⟨_, l2⟩ i2 x2 z2 hlen) ?_
    rintro e a3 W3 hp
    have keep3 : ∀ (c : Code) (hkf : KeepsFrom w.heap.size W2 W3) (_ : Ix c (pre ++ [x]) W3), ∃ c', Ix c' (pre ++ [x]) (W3.putObj (w.heap.size + 1) (.loop { r with state := .done, pending := some c })) ∧ (W3.putObj (w.heap.size + 1) (.loop { r with state := .done, pending := some c })).heap[w.heap.size + 1]? = some (.loop { r with state := .done, pending := some c' }) ∧ (W3.putObj (w.heap.size + 1) (.loop { r with state := .done, pending := some c })).heap[w.heap.size]? = some (.deferred (some [])) := fun c hkf hx => by
      obtain ⟨_, e2, e3, e4⟩ := round_end (P := P) (some c) l2 k2 hkf
      exact ⟨c, (hIx c).putObj _ hx (by omega) e2 rfl, e3, e4⟩
    cases e with
    | normal =>
      obtain ⟨hkf, hkp, hi⟩ := hp
      obtain ⟨e1, e2, e3, e4⟩ := round_end (P := P) none l2 k2 hkf
      have hsz : A ≤ (W3.putObj (w.heap.size + 1) (.loop { r with state := .ready, pending := none })).heap.size := by
        have := hkf.size
        simp only [World.putObj]
        simp
        omega
      refine ⟨_, _, e1, .inl ⟨rfl, ⟨hI.putObj _ hi (by omega) e2 rfl, hsz, ?_, e4⟩, hKt (hKt p2 hkp) (hKb _ _ _ _ (by omega) (by omega) e2 rfl)⟩⟩
      exact e3.trans (congrArg (fun q => some (Obj.loop q)) hr0)
    | ret => exact ⟨_, _, (round_end (P := P) (some .ret) l2 k2 hp.1).1, .inr ⟨rfl, keep3 .ret hp.1 hp.2⟩⟩
    | exit id => exact ⟨_, _, (round_end (P := P) (some (.exit id)) l2 k2 hp.1).1, .inr ⟨rfl, keep3 (.exit id) hp.1 hp.2⟩⟩
    | goto t => exact ⟨_, _, (round_end (P := P) (some (.goto t)) l2 k2 hp.1).1, .inr ⟨rfl, keep3 (.goto t) hp.1 hp.2⟩⟩
    | panic ch => exact hp.elim
    | outgrown => exact hp.elim
  refine key.mono ?_
  rintro e W2 ⟨⟨v, rfl⟩, (⟨xs, hS, q1, _, q3, q4⟩ | ⟨pre, hSp, c, q1, q3, q4⟩)⟩
  · exact ⟨none, _, by have h := run_endLoop (P := P) q3 (by rw [hrs]; simp); rw [show r.pending = none by rw [hr]] at h; exact h, hdone _ xs _ (Nat.le_refl _) hS (hI.putObj _ q1 (by omega) q3 rfl) ((World.putObj_heap_other (by omega)).trans q4)⟩
  · exact ⟨some c, _, run_endLoop (P := P) q3 (by simp), hstop _ c pre _ (Nat.le_refl _) hSp ((hIx c).putObj _ q1 (by omega) q3 rfl) ((World.putObj_heap_other (by omega)).trans q4)⟩

/-- The same within a round of loop l₀: one block, no mark; the body is told of the loop's own record (a loop within it wants that). -/
theorem rangeFunc_movesN {α : Type} {g : Operand} {ps : Array Tmp} {assign body : Code} {Q : Exit → Act → World → Prop} {a : Act} {w : World}
    {l₀ : Nat} {r₀ : Loop} (hro : F.round = some l₀) (hl₀ : w.heap[l₀]? = some (.loop r₀)) (h1 : 1 ≤ n) {gf : Nat} {lb : Array Value} (hg : a.eval g = .func (.func gf) #[] lb) (hFg : F.fn gf) (eg : ∀ args w, (callFunc gf args).run P w = .ok (.enter gf args) w)
    {encs : α → Array Value} {A : Nat} {X : α → World → Prop} {Kp Mv : World → World → Prop} {S Sp : List α → Prop} {N : Nat} {w0 : World} (hA : A = w.heap.size + 1) (hseq : SeqMoves F (n - 1) P gf lb encs A X Kp Mv S Sp N w0)
    (hKt : ∀ {A B C : World}, Kp A B → Kp B C → Kp A C) (hKb : ∀ (W : World) (l : Nat) (o o' : Obj), w.heap.size ≤ l → l < A → W.heap[l]? = some o → o.isCells = false → Kp W (W.putObj l o'))
    (hMb : ∀ (Y Z : World) (i : Nat) (o : Obj), Mv Y Z → w.heap.size ≤ i → i < A → Y.heap[i]? = some o → Z.heap[i]? = some o)
    (hMs : ∀ (Y Z : World), Mv Y Z → Y.heap.size ≤ Z.heap.size)
    (hXb : ∀ (x : α) (W : World) (l : Nat) (o o' : Obj), X x W → w.heap.size ≤ l → l < A → W.heap[l]? = some o → o.isCells = false → X x (W.putObj l o'))
    (hb0 : Below w0.heap.size w0 w) (hps : ∀ x, (encs x).size = ps.size)
    (I : List α → World → Prop) (Ix : Code → List α → World → Prop) (hI : OwnFrom w.heap.size I) (hIx : ∀ c, OwnFrom w.heap.size (Ix c))
    (hIm : ∀ s Y Z, I s Y → Mv Y Z → I s Z) (hIxm : ∀ c s Y Z, Ix c s Y → Mv Y Z → Ix c s Z) (h0 : I [] w) (a₁ : α → Act)
    (hassign : ∀ (l : Nat) (x : α) (W : World) (K : Act → World → Prop), K (a₁ x) W →
      assign.wpIn (F.inRound l) (n - 1 - 1) P (Exit.then K (fun _ _ _ => False)) { tmps := (ps.zip (encs x)).foldl (fun t (p, v) => t.setIfInBounds p v) a.tmps, defers := [] } W)
    (hbody : ∀ (l : Nat) (pre : List α) (x : α) (W : World), w.heap.size ≤ l → l < A → (∃ r, W.heap[l]? = some (.loop r)) → I pre W → X x W → A ≤ W.heap.size → pre.length < N → body.wpIn (F.inRound l) (n - 1 - 1) P (ownPostG w.heap.size Kp I Ix (pre ++ [x]) W) (a₁ x) W)
    (hdone : ∀ (xs : List α) (W : World), S xs → I xs W → Q .normal a W)
    (hstop : ∀ (c : Code) (pre : List α) (W : World), Sp pre → Ix c pre W → c.wpIn F n P Q a W) :
    (Code.rangeFunc g ps assign body).wpIn F n P Q a w := by
  refine wpIn_rangeFunc fun fn hfn => ?_
  rw [hro]
  obtain ⟨r, hr⟩ : ∃ r : Loop, r = { state := .ready, pending := none, fn, tmps := a.tmps, params := ps, assign, body, defers := r₀.defers } := ⟨_, rfl⟩
  have hrs : r.state = .ready := by rw [hr]
  have hr0 : ({ r with state := .ready, pending := none } : Loop) = r := by rw [hr]
  obtain ⟨V, hV⟩ : ∃ V, V = w.alloc (.loop r) := ⟨_, rfl⟩
  have vl : V.heap[w.heap.size]? = some (.loop r) := by
    rw [hV]
    exact World.alloc_heap_new w (.loop r)
  have vI : I [] V := by rw [hV]; exact hI.alloc _ h0
  have vz : V.heap.size = A := by rw [hV, hA]; simp
  have vb : Below w0.heap.size w0 V := by
    rw [hV]
    exact hb0.alloc hb0.size _
  refine ⟨w.heap.size, [], V, { target := .fn (.func gf) lb, args := #[.func (.yield w.heap.size) #[] #[]] }, V, gf,
    #[.func (.yield w.heap.size) #[] #[]] ++ lb, V, ?_, ?_, ?_, ?_, fun _ => h1, ?_⟩
  · rw [hV, hr]; exact run_enterLoop_inner hl₀ _ _ _ _ _
  · simp only [resolve, hg]
    simp [go_sem]
  · intro f' hf'
    simp [Target.leads] at hf'
    subst hf'
    exact hFg
  · simp [invoke, go_sem, eg]
  have key := hseq w.heap.size
    (fun pre W => I pre W ∧ A ≤ W.heap.size ∧ W.heap[w.heap.size]? = some (.loop r))
    (fun pre W => ∃ c, Ix c pre W ∧ W.heap[w.heap.size]? = some (.loop { r with state := .done, pending := some c }))
    V vz vb ?m1 ?m2 ?round ⟨vI, by omega, vl⟩
  case m1 =>
    rintro s Y Z ⟨q1, q2, q3⟩ hm
    exact ⟨hIm s Y Z q1 hm, Nat.le_trans q2 (hMs Y Z hm), hMb Y Z _ _ hm (by omega) (by omega) q3⟩
  case m2 =>
    rintro s Y Z ⟨c, q1, q3⟩ hm
    exact ⟨c, hIxm c s Y Z q1 hm, hMb Y Z _ _ hm (by omega) (by omega) q3⟩
  case round =>
    rintro pre x W ⟨q1, q2, q3⟩ hX hlen
    have hy := run_yield (P := P) (args := encs x) q3 (by rw [hr]; exact hps x)
    have hlt : w.heap.size < W.heap.size := (Array.getElem?_eq_some_iff.1 q3).1
    rw [hr] at hy
    refine ⟨fn, _, assign, body, hy, roundIn_of_wpIn hfn (hassign _ x W _ ⟨_, run_beginRound q3 hrs, ?_⟩)⟩
    obtain ⟨W2, hW2⟩ : ∃ W2, W2 = W.putObj w.heap.size (.loop { r with state := .busy }) := ⟨_, rfl⟩
    rw [← hW2]
    have l2 : W2.heap[w.heap.size]? = some (.loop { r with state := .busy }) := by rw [hW2]; exact World.putObj_heap_same hlt
    have p2 : Kp W W2 := by rw [hW2]; exact hKb _ _ _ _ (by omega) (by omega) q3 rfl
    have i2 : I pre W2 := by rw [hW2]; exact hI.putObj _ q1 (by omega) q3 rfl
    have x2 : X x W2 := by rw [hW2]; exact hXb _ _ _ _ _ hX (by omega) (by omega) q3 rfl
    have z2 : A ≤ W2.heap.size := by rw [hW2]; simpa [World.putObj] using q2
    clear hW2
    refine wpIn_mono (hbody _ pre x W2 (by omega) (by omega) ⟨_, l2⟩ i2 x2 z2 hlen) ?_
    have fin : ∀ (jump : Option Code) (W3 : World), KeepsFrom w.heap.size W2 W3 →
        (Instr.endRound w.heap.size jump).run P W3 = .ok (.bool jump.isNone) (W3.putObj w.heap.size (.loop { r with state := if jump.isNone then .ready else .done, pending := jump })) ∧
        W3.heap[w.heap.size]? = some (.loop { r with state := .busy }) ∧
        (W3.putObj w.heap.size (.loop { r with state := if jump.isNone then .ready else .done, pending := jump })).heap[w.heap.size]? = some (.loop { r with state := if jump.isNone then .ready else .done, pending := jump }) := fun jump W3 hkf => by
      have h3 := hkf.same _ _ (Nat.le_refl _) l2 rfl
      exact ⟨run_endRound (P := P) (r := { r with state := .busy }) jump h3, h3, World.putObj_heap_same (Array.getElem?_eq_some_iff.1 h3).1⟩
    rintro e a3 W3 hp
    have keep3 : ∀ (c : Code) (hkf : KeepsFrom w.heap.size W2 W3) (_ : Ix c (pre ++ [x]) W3), ∃ c', Ix c' (pre ++ [x]) (W3.putObj w.heap.size (.loop { r with state := .done, pending := some c })) ∧ (W3.putObj w.heap.size (.loop { r with state := .done, pending := some c })).heap[w.heap.size]? = some (.loop { r with state := .done, pending := some c' }) := fun c hkf hx => by
      obtain ⟨_, e2, e3⟩ := fin (some c) W3 hkf
      exact ⟨c, (hIx c).putObj _ hx (by omega) e2 rfl, e3⟩
    cases e with
    | normal =>
      obtain ⟨hkf, hkp, hi⟩ := hp
      obtain ⟨e1, e2, e3⟩ := fin none W3 hkf
      have hsz : A ≤ (W3.putObj w.heap.size (.loop { r with state := .ready, pending := none })).heap.size := by
        have := hkf.size
        simp only [World.putObj]
        simp
        omega
      refine ⟨_, _, e1, .inl ⟨rfl, ⟨hI.putObj _ hi (by omega) e2 rfl, hsz, ?_⟩, hKt (hKt p2 hkp) (hKb _ _ _ _ (by omega) (by omega) e2 rfl)⟩⟩
      exact e3.trans (congrArg (fun q => some (Obj.loop q)) hr0)
    | ret => exact ⟨_, _, (fin (some .ret) W3 hp.1).1, .inr ⟨rfl, keep3 .ret hp.1 hp.2⟩⟩
    | exit id => exact ⟨_, _, (fin (some (.exit id)) W3 hp.1).1, .inr ⟨rfl, keep3 (.exit id) hp.1 hp.2⟩⟩
    | goto t => exact ⟨_, _, (fin (some (.goto t)) W3 hp.1).1, .inr ⟨rfl, keep3 (.goto t) hp.1 hp.2⟩⟩
    | panic ch => exact hp.elim
    | outgrown => exact hp.elim
  refine key.mono ?_
  rintro e W2 ⟨⟨v, rfl⟩, (⟨xs, hS, q1, _, q3⟩ | ⟨pre, hSp, c, q1, q3⟩)⟩
  · exact ⟨none, _, by have h := run_endLoop (P := P) q3 (by rw [hrs]; simp); rw [show r.pending = none by rw [hr]] at h; exact h, hdone xs _ hS (hI.putObj _ q1 (by omega) q3 rfl)⟩
  · exact ⟨some c, _, run_endLoop (P := P) q3 (by simp), hstop c pre _ hSp ((hIx c).putObj _ q1 (by omega) q3 rfl)⟩
end

end Go.Proofs.Ytaafbdpdpndplaa

namespace Go.Proofs.Ytaafbdpdpndplaa
open Go.RowKit
section
variable {F : Fence} {n : Nat} {P : Program}

/-- The law of a loop over a function that makes moves of its own. -/
theorem rangeFunc_movesKH {α : Type} {g : Operand} {ps : Array Tmp} {assign body : Code} {Q : Exit → Act → World → Prop} {a : Act} {w : World}
    (hro : F.round = none) (h1 : 1 ≤ n) {gf : Nat} {lb : Array Value} (hg : a.eval g = .func (.func gf) #[] lb) (hFg : F.fn gf) (eg : ∀ args w, (callFunc gf args).run P w = .ok (.enter gf args) w)
    {encs : α → Array Value} {A : Nat} {X : α → World → Prop} {Kp Kx Mv : World → World → Prop} {S Sp : List α → Prop} {N : Nat} {w0 : World} (hA : A = w.heap.size + 2) (hseq : SeqMovesK F (n - 1) P gf lb encs A X Kp Kx Mv S Sp N w0)
    (hKt : ∀ {A B C : World}, Kp A B → Kp B C → Kp A C) (hKb : ∀ (W : World) (l : Nat) (o o' : Obj), w.heap.size ≤ l → l < A → W.heap[l]? = some o → o.isCells = false → Kp W (W.putObj l o'))
    (hXt : ∀ {A B C : World}, Kx A B → Kx B C → Kx A C) (hXk : ∀ (W : World) (l : Nat) (o o' : Obj), w.heap.size ≤ l → l < A → W.heap[l]? = some o → o.isCells = false → Kx W (W.putObj l o'))
    (hMb : ∀ (Y Z : World) (i : Nat) (o : Obj), Mv Y Z → w.heap.size ≤ i → i < A → Y.heap[i]? = some o → Z.heap[i]? = some o)
    (hMs : ∀ (Y Z : World), Mv Y Z → Y.heap.size ≤ Z.heap.size)
    (hXb : ∀ (x : α) (W : World) (l : Nat) (o o' : Obj), X x W → w.heap.size ≤ l → l < A → W.heap[l]? = some o → o.isCells = false → X x (W.putObj l o'))
    (hb0 : Below w0.heap.size w0 w) (hps : ∀ x, (encs x).size = ps.size)
    (I : List α → World → Prop) (Ix : Code → List α → World → Prop) (hI : OwnFrom w.heap.size I) (hIx : ∀ c, OwnFrom w.heap.size (Ix c))
    (hIm : ∀ s Y Z, I s Y → Mv Y Z → I s Z) (hIxm : ∀ c s Y Z, Ix c s Y → Mv Y Z → Ix c s Z) (h0 : I [] w) (a₁ : α → Act)
    (hassign : ∀ (l : Nat) (x : α) (W : World) (K : Act → World → Prop), K (a₁ x) W →
      assign.wpIn (F.inRound l) (n - 1 - 1) P (Exit.then K (fun _ _ _ => False)) { tmps := (ps.zip (encs x)).foldl (fun t (p, v) => t.setIfInBounds p v) a.tmps, defers := [] } W)
    (hbody : ∀ (l : Nat) (pre : List α) (x : α) (W : World), w.heap.size ≤ l → l < A → (∃ r, W.heap[l]? = some (.loop r)) → I pre W → X x W → A ≤ W.heap.size → pre.length < N → body.wpIn (F.inRound l) (n - 1 - 1) P (ownPostX w.heap.size Kp Kx I Ix (pre ++ [x]) W) (a₁ x) W)
    (hdone : ∀ (D : Nat) (xs : List α) (W : World), w.heap.size ≤ D → S xs → I xs W → W.heap[D]? = some (.deferred (some [])) → Q .normal { a with defers := { target := .collected D, args := #[] } :: a.defers } W)
    (hstop : ∀ (D : Nat) (c : Code) (pre : List α) (W : World), w.heap.size ≤ D → Sp pre → Ix c pre W → W.heap[D]? = some (.deferred (some [])) → c.wpIn F n P Q { a with defers := { target := .collected D, args := #[] } :: a.defers } W) :
    (Code.rangeFunc g ps assign body).wpIn F n P Q a w := by
  refine wpIn_rangeFunc fun fn hfn => ?_
  rw [hro]
  obtain ⟨r, hr⟩ : ∃ r : Loop, r = { state := .ready, pending := none, fn, tmps := a.tmps, params := ps, assign, body, defers := w.heap.size } := ⟨_, rfl⟩
  have hrs : r.state = .ready := by rw [hr]
  have hr0 : ({ r with state := .ready, pending := none } : Loop) = r := by rw [hr]
  obtain ⟨V, hV⟩ : ∃ V, V = (w.alloc (.deferred (some []))).alloc (.loop r) := ⟨_, rfl⟩
  have vl : V.heap[w.heap.size + 1]? = some (.loop r) := by
    rw [hV]
    have h := World.alloc_heap_new (w.alloc (.deferred (some []))) (.loop r)
    rwa [World.size_alloc] at h
  have vk : V.heap[w.heap.size]? = some (.deferred (some [])) := by
    rw [hV]
    exact (Below.heap_alloc _ _ _ (by simp)).trans (World.alloc_heap_new w _)
  have vI : I [] V := by rw [hV]; exact hI.alloc _ (hI.alloc _ h0)
  have vz : V.heap.size = A := by rw [hV, hA]; simp
  have vb : Below w0.heap.size w0 V := by
    rw [hV]
    exact (hb0.alloc hb0.size _).alloc (by have := hb0.size; simp; omega) _
  refine ⟨w.heap.size + 1, [{ target := .collected w.heap.size, args := #[] }], V, { target := .fn (.func gf) lb, args := #[.func (.yield (w.heap.size + 1)) #[] #[]] }, V, gf,
    #[.func (.yield (w.heap.size + 1)) #[] #[]] ++ lb, V, ?_, ?_, ?_, ?_, fun _ => h1, ?_⟩
  · rw [hV, hr]; exact run_enterLoop_outer _ _ _ _ _
  · simp only [resolve, hg]
    simp [go_sem]
  · intro f' hf'
    simp [Target.leads] at hf'
    subst hf'
    exact hFg
  · simp [invoke, go_sem, eg]
  have key := hseq (w.heap.size + 1)
    (fun pre W => I pre W ∧ A ≤ W.heap.size ∧ W.heap[w.heap.size + 1]? = some (.loop r) ∧ W.heap[w.heap.size]? = some (.deferred (some [])))
    (fun pre W => ∃ c, Ix c pre W ∧ W.heap[w.heap.size + 1]? = some (.loop { r with state := .done, pending := some c }) ∧ W.heap[w.heap.size]? = some (.deferred (some [])))
    V vz vb ?m1 ?m2 ?round ⟨vI, by omega, vl, vk⟩
  case m1 =>
    rintro s Y Z ⟨q1, q2, q3, q4⟩ hm
    have z3 := hMb Y Z _ _ hm (by omega) (by omega) q3
    exact ⟨hIm s Y Z q1 hm, Nat.le_trans q2 (hMs Y Z hm), z3, hMb Y Z _ _ hm (by omega) (by omega) q4⟩
  case m2 =>
    rintro s Y Z ⟨c, q1, q3, q4⟩ hm
    exact ⟨c, hIxm c s Y Z q1 hm, hMb Y Z _ _ hm (by omega) (by omega) q3, hMb Y Z _ _ hm (by omega) (by omega) q4⟩
  case round =>
    rintro pre x W ⟨q1, q2, q3, q4⟩ hX hlen
    have hy := run_yield (P := P) (args := encs x) q3 (by rw [hr]; exact hps x)
    have hlt : w.heap.size + 1 < W.heap.size := (Array.getElem?_eq_some_iff.1 q3).1
    rw [hr] at hy
    refine ⟨fn, _, assign, body, hy, roundIn_of_wpIn hfn (hassign _ x W _ ⟨_, run_beginRound q3 hrs, ?_⟩)⟩
    obtain ⟨W2, hW2⟩ : ∃ W2, W2 = W.putObj (w.heap.size + 1) (.loop { r with state := .busy }) := ⟨_, rfl⟩
    rw [← hW2]
    have l2 : W2.heap[w.heap.size + 1]? = some (.loop { r with state := .busy }) := by rw [hW2]; exact World.putObj_heap_same hlt
    have k2 : W2.heap[w.heap.size]? = some (.deferred (some [])) := by rw [hW2]; exact (World.putObj_heap_other (by omega)).trans q4
    have p2 : Kp W W2 := by rw [hW2]; exact hKb _ _ _ _ (by omega) (by omega) q3 rfl
    have x2' : Kx W W2 := by rw [hW2]; exact hXk _ _ _ _ (by omega) (by omega) q3 rfl
    have i2 : I pre W2 := by rw [hW2]; exact hI.putObj _ q1 (by omega) q3 rfl
    have x2 : X x W2 := by rw [hW2]; exact hXb _ _ _ _ _ hX (by omega) (by omega) q3 rfl
    have z2 : A ≤ W2.heap.size := by rw [hW2]; simpa [World.putObj] using q2
    clear hW2
    refine wpIn_mono (hbody _ pre x W2 (by omega) (by omega) ⟨_, l2⟩ i2 x2 z2 hlen) ?_
    rintro e a3 W3 hp
    have keep3 : ∀ (c : Code) (hkf : KeepsFrom w.heap.size W2 W3) (hkx : Kx W2 W3) (_ : Ix c (pre ++ [x]) W3), (∃ c', Ix c' (pre ++ [x]) (W3.putObj (w.heap.size + 1) (.loop { r with state := .done, pending := some c })) ∧ (W3.putObj (w.heap.size + 1) (.loop { r with state := .done, pending := some c })).heap[w.heap.size + 1]? = some (.loop { r with state := .done, pending := some c' }) ∧ (W3.putObj (w.heap.size + 1) (.loop { r with state := .done, pending := some c })).heap[w.heap.size]? = some (.deferred (some []))) ∧ Kx W (W3.putObj (w.heap.size + 1) (.loop { r with state := .done, pending := some c })) := fun c hkf hkx hx => by
      obtain ⟨_, e2, e3, e4⟩ := round_end (P := P) (some c) l2 k2 hkf
      exact ⟨⟨c, (hIx c).putObj _ hx (by omega) e2 rfl, e3, e4⟩, hXt (hXt x2' hkx) (hXk _ _ _ _ (by omega) (by omega) e2 rfl)⟩
    cases e with
    | normal =>
      obtain ⟨hkf, hkp, hi⟩ := hp
      obtain ⟨e1, e2, e3, e4⟩ := round_end (P := P) none l2 k2 hkf
      have hsz : A ≤ (W3.putObj (w.heap.size + 1) (.loop { r with state := .ready, pending := none })).heap.size := by
        have := hkf.size
        simp only [World.putObj]
        simp
        omega
      refine ⟨_, _, e1, .inl ⟨rfl, ⟨hI.putObj _ hi (by omega) e2 rfl, hsz, ?_, e4⟩, hKt (hKt p2 hkp) (hKb _ _ _ _ (by omega) (by omega) e2 rfl)⟩⟩
      exact e3.trans (congrArg (fun q => some (Obj.loop q)) hr0)
    | ret => exact ⟨_, _, (round_end (P := P) (some .ret) l2 k2 hp.1).1, .inr ⟨rfl, keep3 .ret hp.1 hp.2.1 hp.2.2⟩⟩
    | exit id => exact ⟨_, _, (round_end (P := P) (some (.exit id)) l2 k2 hp.1).1, .inr ⟨rfl, keep3 (.exit id) hp.1 hp.2.1 hp.2.2⟩⟩
    | goto t => exact ⟨_, _, (round_end (P := P) (some (.goto t)) l2 k2 hp.1).1, .inr ⟨rfl, keep3 (.goto t) hp.1 hp.2.1 hp.2.2⟩⟩
    | panic ch => exact hp.elim
    | outgrown => exact hp.elim
  refine key.mono ?_
  rintro e W2 ⟨⟨v, rfl⟩, (⟨xs, hS, q1, _, q3, q4⟩ | ⟨pre, hSp, c, q1, q3, q4⟩)⟩
  · exact ⟨none, _, by have h := run_endLoop (P := P) q3 (by rw [hrs]; simp); rw [show r.pending = none by rw [hr]] at h; exact h, hdone _ xs _ (Nat.le_refl _) hS (hI.putObj _ q1 (by omega) q3 rfl) ((World.putObj_heap_other (by omega)).trans q4)⟩
  · exact ⟨some c, _, run_endLoop (P := P) q3 (by simp), hstop _ c pre _ (Nat.le_refl _) hSp ((hIx c).putObj _ q1 (by omega) q3 rfl) ((World.putObj_heap_other (by omega)).trans q4)⟩
end

/- A scope with a label that no goto names. -/
section
variable {F : Fence} {n : Nat} {P : Program} {b : Frame} {a : Act} {k : List Item} {cs : List Frame} {w : World} {Q : Exit → Act → World → Prop}
theorem stepR_scopeI {c : Code} : step P (lone (b.atR a (.code (.scope c) :: k)) cs w) = .next (lone (b.atR a (.code c :: .inScope c :: k)) cs w) :=
  step_lone_go (by simp [stepG, stepG.exec, Frame.atR])
theorem stepR_inScopeI {c : Code} : step P (lone (b.atR a (.inScope c :: k)) cs w) = .next (lone (b.atR a k) cs w) :=
  step_lone_go (by simp [stepG, stepG.exec, Frame.atR])

theorem wpIn_scope_straight {c : Code} (h : c.wpIn F n P (Exit.noGoto Q) a w) : (Code.scope c).wpIn F n P Q a w := by
  intro b k cs hro hb hr
  have h0 : (lone (b.atR a (.code (.scope c) :: k)) cs w).fenced P F := fenced_calm hb hr rfl
  obtain ⟨e, a₁, w₁, hq, harr⟩ := h b (.inScope c :: k) cs hro hb hr
  cases e with
  | normal => exact ⟨.normal, a₁, w₁, hq, .head h0 stepR_scopeI (StepsIn.trans harr (.one (fenced_calm hb hr rfl) stepR_inScopeI))⟩
  | exit id =>
    have hx : exitTo id (.inScope c :: k) = exitTo id k := by simp [exitTo]
    exact ⟨.exit id, a₁, w₁, hq, fun k' hk => .head h0 stepR_scopeI (harr.1 k' (by rw [hx]; exact hk)),
      fun hr' hk => let ⟨k₁, h1, h2⟩ := harr.2 hr' (by rw [hx]; exact hk); ⟨k₁, h1, .head h0 stepR_scopeI h2⟩⟩
  | goto l => exact hq.elim
  | ret => exact ⟨_, a₁, w₁, hq, .of_steps (.one h0 stepR_scopeI) harr⟩
  | panic ch => exact ⟨_, a₁, w₁, hq, .of_steps (.one h0 stepR_scopeI) harr⟩
  | outgrown => exact ⟨_, a₁, w₁, hq, .of_steps (.one h0 stepR_scopeI) harr⟩
end

end Go.Proofs.Ytaafbdpdpndplaa
