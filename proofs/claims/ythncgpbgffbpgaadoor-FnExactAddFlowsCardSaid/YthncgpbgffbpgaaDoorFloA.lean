/- Flows as plain lists: what is directed to a vertex, less what is directed from it. No program is named here. -/
import Derived.Test.YthncgpbgffbpgaaDoorInts
import Derived.Test.YthncgpbgffbpgaaDoorGraphs
namespace Go.Proofs.YthncgpbgffbpgaaDoor
open Go.RowKit

theorem OwnI.cellI {w : World} {g cap i : Nat} {xs : List Int} (h : OwnI w g cap xs) (hi : i < xs.length) : w.cell? ⟨g, i, none⟩ = some (.int .i64 (eI xs i)) := by
  have := h.reads i hi
  rwa [Nat.zero_add] at this

/-- What the first k edges direct to v, less what they direct from it. -/
def netV (es : List (Int × Int)) (xs : List Int) : Nat → Int → Int
  | 0, _ => 0
  | k + 1, v => netV es xs k v + ((if eB es k = v then eI xs k else 0) - (if eA es k = v then eI xs k else 0))
theorem netV_succ (es : List (Int × Int)) (xs : List Int) (k : Nat) (v : Int) : netV es xs (k + 1) v = netV es xs k v + ((if eB es k = v then eI xs k else 0) - (if eA es k = v then eI xs k else 0)) := rfl
def netL (es : List (Int × Int)) (xs : List Int) (N k : Nat) : List Int := (List.range N).map fun (v : Nat) => netV es xs k (v : Int)
theorem netL_len (es : List (Int × Int)) (xs : List Int) (N k : Nat) : (netL es xs N k).length = N := by simp [netL]
theorem netL_at {es : List (Int × Int)} {xs : List Int} {N k v : Nat} (hv : v < N) : eI (netL es xs N k) v = netV es xs k v := by
  rw [eI_lt (by rw [netL_len]; exact hv)]
  simp [netL]
theorem netL_zero (es : List (Int × Int)) (xs : List Int) (N : Nat) : netL es xs N 0 = List.replicate N 0 := by
  unfold netL
  apply List.ext_getElem
  · simp
  · intro i h1 h2
    simp [netV]
theorem netV_near {es : List (Int × Int)} {xs : List Int} (hb : ∀ i, i < xs.length → -1000 ≤ eI xs i ∧ eI xs i ≤ 1000) (v : Int) : ∀ k, k ≤ xs.length → -(2000 * (k : Int)) ≤ netV es xs k v ∧ netV es xs k v ≤ 2000 * (k : Int)
  | 0, _ => by simp [netV]
  | k + 1, hk => by
    have h1 := netV_near (es := es) hb v k (by omega)
    have h2 := hb k (by omega)
    rw [netV_succ]
    push_cast
    split <;> split <;> omega
theorem eI_get {xs : List Int} {i : Nat} (h : i < xs.length) : xs[i] = eI xs i := (eI_lt h).symm
theorem netL_step {es : List (Int × Int)} {xs : List Int} {N k X Y : Nat} (hX : eA es k = X) (hY : eB es k = Y) (hXY : X ≠ Y) (hXN : X < N) (hYN : Y < N) :
    ((netL es xs N k).set X (netV es xs k X - eI xs k)).set Y (netV es xs k Y + eI xs k) = netL es xs N (k + 1) := by
  apply List.ext_getElem
  · simp [netL_len]
  · intro i h1 h2
    have hi : i < N := by rw [netL_len] at h2; exact h2
    rw [eI_get h1, eI_get h2, eI_set (by rw [List.length_set, netL_len]; exact hYN), eI_set (by rw [netL_len]; exact hXN), netL_at hi, netL_at hi, netV_succ, hX, hY]
    by_cases a : i = Y
    · subst a
      have c : ¬ (X : Int) = (i : Int) := by omega
      simp [c]
    · by_cases b : i = X
      · subst b
        have c : ¬ (Y : Int) = (i : Int) := by omega
        simp [a, c]
        omega
      · have a' : ¬ (Y : Int) = (i : Int) := by omega
        have b' : ¬ (X : Int) = (i : Int) := by omega
        simp [a, b, a', b']
theorem netL_back {es : List (Int × Int)} {xs : List Int} {N k X Y : Nat} (hX : eA es k = X) (hY : eB es k = Y) (hXY : X ≠ Y) (hXN : X < N) (hYN : Y < N) :
    ((netL es xs N k).set Y (netV es xs k Y + eI xs k)).set X (netV es xs k X - eI xs k) = netL es xs N (k + 1) := by
  rw [← netL_step hX hY hXY hXN hYN, List.set_comm _ _ hXY.symm]
theorem netL_other {es : List (Int × Int)} {xs : List Int} {N k X Y : Nat} {x : Int} (hXY : X ≠ Y) (hXN : X < N) (hYN : Y < N) : eI ((netL es xs N k).set X x) Y = netV es xs k Y := by
  rw [eI_set (by rw [netL_len]; exact hXN), if_neg hXY.symm, netL_at hYN]

/-- A number stands for 0: z tells which. -/
def flowP (z : Int → Bool) (N : Nat) (es : List (Int × Int)) (xs : List Int) : Prop := ∀ v : Nat, v < N → z (netV es xs es.length v) = true
instance (z : Int → Bool) (N : Nat) (es : List (Int × Int)) (xs : List Int) : Decidable (flowP z N es xs) := by unfold flowP; infer_instance
def zMod (m : Int) (x : Int) : Bool := decide (x.tmod m = 0)
def zAll (x : Int) : Bool := decide (x = 0)
def valsP (lo hi : Int) (xs : List Int) : Prop := ∀ i, i < xs.length → lo ≤ eI xs i ∧ eI xs i ≤ hi
instance (lo hi : Int) (xs : List Int) : Decidable (valsP lo hi xs) := by unfold valsP; infer_instance
def okMod (m : Int) : Prop := 2 ≤ m ∧ m ≤ 6
instance (m : Int) : Decidable (okMod m) := by unfold okMod; infer_instance
def modCode (s : Int) (es : List (Int × Int)) (m : Int) : Int := if IsG s es then (if okMod m then 0 else 2) else 1
def lstCode (es : List (Int × Int)) (lo hi : Int) (xs : List Int) : Int := if xs.length = es.length ∧ valsP lo hi xs then 0 else 2
def flCode (s : Int) (es : List (Int × Int)) (m lo hi : Int) (xs : List Int) : Int := if modCode s es m = 0 then lstCode es lo hi xs else modCode s es m
/-- No value is 0, and all are less than k by their absolute values. -/
def hasP (lo hi : Int) (xs : List Int) : Prop := ∀ i, i < xs.length → eI xs i ≠ 0 ∧ lo ≤ eI xs i ∧ eI xs i ≤ hi
instance (lo hi : Int) (xs : List Int) : Decidable (hasP lo hi xs) := by unfold hasP; infer_instance
def fIsFlow (s : Int) (es : List (Int × Int)) (m : Int) (xs : List Int) : Bool × Int :=
  if flCode s es m 0 (m - 1) xs = 0 then (decide (flowP (zMod m) s.toNat es xs), 0) else (false, flCode s es m 0 (m - 1) xs)
def fIsNowhereZero (s : Int) (es : List (Int × Int)) (m : Int) (xs : List Int) : Bool × Int :=
  if flCode s es m 0 (m - 1) xs = 0 then (decide (hasP 1 (m - 1) xs ∧ flowP (zMod m) s.toNat es xs), 0) else (false, flCode s es m 0 (m - 1) xs)
def fIsWholeFlow (s : Int) (es : List (Int × Int)) (k : Int) (xs : List Int) : Bool × Int :=
  if flCode s es k (-1000) 1000 xs = 0 then (decide (hasP (1 - k) (k - 1) xs ∧ flowP zAll s.toNat es xs), 0) else (false, flCode s es k (-1000) 1000 xs)
def addL (m : Int) (xs ys : List Int) (k : Nat) : List Int := (List.range k).map fun i => (eI xs i + eI ys i).tmod m
def fAddFlows (s : Int) (es : List (Int × Int)) (m : Int) (xs ys : List Int) : List Int × Int :=
  if flCode s es m 0 (m - 1) xs = 0 then
    if lstCode es 0 (m - 1) ys = 0 then
      if flowP (zMod m) s.toNat es xs ∧ flowP (zMod m) s.toNat es ys then (addL m xs ys xs.length, 0) else ([], 5)
    else ([], 2)
  else ([], flCode s es m 0 (m - 1) xs)
theorem modCode_of {s m : Int} {es : List (Int × Int)} (h : modCode s es m = 0) : IsG s es ∧ okMod m := by
  unfold modCode at h
  split at h
  · split at h
    · exact ⟨by assumption, by assumption⟩
    · omega
  · omega
theorem lstCode_of {lo hi : Int} {es : List (Int × Int)} {xs : List Int} (h : lstCode es lo hi xs = 0) : xs.length = es.length ∧ valsP lo hi xs := by
  unfold lstCode at h
  split at h
  · assumption
  · omega
theorem flCode_of {s m lo hi : Int} {es : List (Int × Int)} {xs : List Int} (h : flCode s es m lo hi xs = 0) : IsG s es ∧ okMod m ∧ xs.length = es.length ∧ valsP lo hi xs := by
  unfold flCode at h
  split at h
  · rename_i h1
    exact ⟨(modCode_of h1).1, (modCode_of h1).2, lstCode_of h⟩
  · rename_i h1
    exact absurd h h1
theorem addL_len (m : Int) (xs ys : List Int) (k : Nat) : (addL m xs ys k).length = k := by simp [addL]
theorem fAddFlows_len (s : Int) (es : List (Int × Int)) (m : Int) (xs ys : List Int) (_h0 : es.length ≤ 1048576) (h1 : xs.length ≤ 1048576) (_h2 : ys.length ≤ 1048576) : (fAddFlows s es m xs ys).1.length ≤ 1048576 := by
  unfold fAddFlows
  split
  · split
    · split
      · rw [addL_len]; exact h1
      · simp
    · simp
  · simp

end Go.Proofs.YthncgpbgffbpgaaDoor
