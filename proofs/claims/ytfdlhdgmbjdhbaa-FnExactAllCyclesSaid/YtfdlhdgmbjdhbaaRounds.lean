/- Regions that draw their order inside a round of a range over a function: what holds of them outside of rounds holds in one, if they hold no defer. -/
import Derived.Test.YtfdlhdgmbjdhbaaDistM
import Derived.Sort.QuietIn
import Derived.OrdersIn
namespace Go.Proofs.Ytfdlhdgmbjdhbaa
open Go.RowKit Go.Shelf

def plainB (o : Oper) : Bool := match o.op with
  | .defer _ => false
  | _ => true
theorem plainB_ne {o : Oper} (h : plainB o = true) : ∀ c, o.op ≠ .defer c := fun c e => by
  unfold plainB at h
  rw [e] at h
  cases h

section
variable {F : Fence} {n l : Nat} {P : Program} {ops : Array Oper} {Q : Exit → Act → World → Prop} {md : Region.Mode}

theorem oper_round {o : Oper} {a : Act} {w : World} {K K' : Act → World → Prop} (hF : F.round = none) (hnd : ∀ c, o.op ≠ .defer c) (hK : ∀ a w, K a w → K' a w) (h : o.wpIn F n P a w K Q) : o.wpIn (F.inRound l) n P a w K' Q := by
  have h := Oper.wpIn_mono hK h
  unfold Oper.wpIn at h ⊢
  obtain ⟨h1, h2⟩ := h
  refine ⟨h1, ?_⟩
  rw [show (F.inRound l).round = some l from rfl, Oper.semAt_eq _ _ _ hnd]
  rw [hF, Oper.semAt_none] at h2
  generalize (execOp a.eval o).run P w = r at *
  cases r with
  | ok x w' => cases x <;> exact h2
  | halt x w' => cases x <;> exact h2

theorem any_round (hF : F.round = none) (hnd : ops.toList.all plainB = true) : ∀ (fuel : Nat) (listed : Array Bool) (a : Act) (w : World), wpAnyIn F n P md ops Q fuel listed a w → wpAnyIn (F.inRound l) n P md ops Q fuel listed a w
  | 0, _, _, _, h => h
  | fuel + 1, listed, a, w, h => by
    refine ⟨h.1, fun i hi => ?_⟩
    have h2 := h.2 i hi
    unfold wpOpIn at h2 ⊢
    cases ho : ops[i]? with
    | none =>
      rw [ho] at h2
      exact any_round hF hnd fuel _ _ _ h2
    | some o =>
      rw [ho] at h2
      simp only at h2 ⊢
      have hno : ∀ c, o.op ≠ .defer c := plainB_ne (List.all_eq_true.1 hnd o (by
        obtain ⟨h3, h4⟩ := Array.getElem?_eq_some_iff.1 ho
        rw [← h4]
        exact Array.getElem_mem_toList h3))
      split at h2
      · rename_i hw
        rw [if_pos hw]
        exact oper_round hF hno (fun a' w' h' => any_round hF hnd fuel _ a' w' h') h2
      · rename_i hw
        rw [if_neg hw]
        exact ⟨h2.1, any_round hF hnd fuel _ _ _ h2.2⟩

theorem region_round {id : Nat} {a : Act} {w : World} (hF : F.round = none) (hm : P.follows .mixedOrders = true) (hnd : ops.toList.all plainB = true)
    (h : wpAnyIn F n P .any ops Q ops.size (Array.replicate ops.size false) a w.drew) : (Code.region id ops true).wpIn (F.inRound l) n P Q a w :=
  wpIn_region_any hm (any_round hF hnd _ _ _ _ h)

theorem region_round_quiet {id : Nat} {a : Act} {w : World} {os : List Oper} (hF : F.round = none) (hm : P.follows .mixedOrders = true) (hnd : os.toArray.toList.all plainB = true) (hB : Region.lexB .any os.toArray = true)
    (h : wpQuietIn F n P os.toArray (fun w' => ∃ n, w' = w.drewN n) (fun a' => ∀ w', (∃ n, w' = w.drewN n) → Q .normal a' w') os a) : (Code.region id os.toArray true).wpIn (F.inRound l) n P Q a w := by
  simp only [Region.lexB, Bool.and_eq_true] at hB
  refine region_round hF hm hnd (wpAnyIn_of_quiet (C := fun w' => ∃ n, w' = w.drewN n) (Q := fun a' => ∀ w', (∃ n, w' = w.drewN n) → Q .normal a' w') hF (fun _ w' hw' h => h w' hw') _ _ _ _ ⟨1, rfl⟩ ?_)
  have := wpAnyQIn_lex (F := F) (n := n) (C := fun w' => ∃ n, w' = w.drewN n) (md := .any) hB.1 os.toArray.toList 0 (Array.replicate os.toArray.size false) a (by simp) (by simpa using hB.2) (by simpa using h)
  simpa using this
end

theorem cut_later {X G : Prop} (f : X → G) (x : X) : G := f x

end Go.Proofs.Ytfdlhdgmbjdhbaa
