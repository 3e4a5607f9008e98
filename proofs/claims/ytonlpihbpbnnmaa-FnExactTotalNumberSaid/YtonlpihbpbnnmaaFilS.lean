/- The search for numbers that differ where a square of marks tells, in the model: l08Fill, l08Least. -/
import Derived.Test.YtonlpihbpbnnmaaMxS
import Derived.Test.YtonlpihbpbnnmaaSrcA
import Derived.Test.YtonlpihbpbnnmaaOwnS
namespace Go.Proofs.Ytonlpihbpbnnmaa
open Go.RowKit

/-- append at an operation that is wanted, whatever its guard. -/
theorem wpList_append_guard {P : Program} {ops : Array Oper} {rest : List Oper} {o : Oper} {a : Act} {w : World} {Q : Exit → Act → World → Prop} (hw : Region.wanted o (yielded ops a.tmps) = true) (s x : Operand) {t ty : TypeId}
    (ho : o.op = .call { callee := .builtin .append, args := #[s, x], argTypes := #[t, t] }) (hty : o.type = ty) (vs vx : Value) (hs : a.eval s = vs) (hx : a.eval x = vx) (v : Value) (w' : World)
    (hrun : (Builtin.append_ #[t, t] ty #[vs, vx]).run P w = .ok v w') (hK : wpList P ops Q rest (a.put o.dst v) w') : wpList P ops Q (o :: rest) a w := by
  unfold wpList
  rw [if_pos hw]
  left
  unfold Oper.wp
  simp [execOp, ho, resolve, invoke, builtin, hs, hx, hty, hrun, Result.andThen]
  exact hK

theorem push_run {w : World} {g cap p B : Nat} {x : Int} {xs : List Int} {ad : Addr} (hO : OwnI w g cap xs) (hl : xs.length = p) (hg : B ≤ g) (hB : B ≤ w.heap.size) (hp : p ≤ 1000) (had : w.cell? ad = some (.int .i64 x)) :
    ∃ g' cap' w', (Builtin.append_ #[34, 34] 34 #[.slice (some ⟨g, 0, none⟩) p cap, .slice (some ad) 1 1]).run Try.prog w = .ok (.slice (some ⟨g', 0, none⟩) (p + 1) cap') w' ∧ OwnI w' g' cap' (xs ++ [x]) ∧ Below B w w' ∧ B ≤ g' := by
  obtain ⟨i0, hi, hy0, hy1, hy2⟩ := info_parts infoInt
  obtain ⟨g', cap', w', h1, h2, h3, _, _⟩ := run_append_lies (P := Try.prog) w 34 34 B 2 i0 (.int .i64 0) 1 8 Try.underlying34 hi hy0 hy1 hy2 rfl (by decide) (.slice (some ⟨g, 0, none⟩) p cap) p (intVals xs) (hO.row hl hg) ad 1 1 [.int .i64 x] rfl (fun j u hj => by
    match j, hj with
    | 0, hj =>
      simp at hj
      subst hj
      simpa [Addr.add] using had) (by simp [Value.oneCell']) (by decide) (by unfold maxLen; omega) (by omega) hB w.heap.size rfl
  have h4 := OwnI.of_row (xs := xs ++ [x]) (n := p + 1) (by rw [intVals_append]; exact h2) (by rw [List.length_append, hl]; rfl)
  exact ⟨g', cap', w', h1, h4.1, (Below.refl B w).grown h3 hB (fun j hj => by have e : g = j := Option.some.inj hj; omega), h4.2⟩

/-- One more than the greatest of the first numbers, or 0. -/
def mostU (xs : List Int) : Nat → Int
  | 0 => 0
  | k + 1 => max (mostU xs k) (eI xs k + 1)
theorem mostU_ge (xs : List Int) : ∀ k i, i < k → eI xs i + 1 ≤ mostU xs k
  | 0, i, h => absurd h (by omega)
  | k + 1, i, h => by
    show _ ≤ max (mostU xs k) (eI xs k + 1)
    rcases Nat.lt_or_ge i k with h1 | h1
    · have := mostU_ge xs k i h1; omega
    · have : i = k := by omega
      subst this; omega
theorem mostU_le {xs : List Int} {K : Int} (h : ∀ i, i < xs.length → 0 ≤ eI xs i ∧ eI xs i < K) (hK : 0 ≤ K) : ∀ k, k ≤ xs.length → 0 ≤ mostU xs k ∧ mostU xs k ≤ K
  | 0, _ => by show 0 ≤ (0 : Int) ∧ (0 : Int) ≤ K; omega
  | k + 1, hk => by
    have h2 := mostU_le h hK k (by omega)
    have h3 := h k (by omega)
    show 0 ≤ max (mostU xs k) (eI xs k + 1) ∧ max (mostU xs k) (eI xs k + 1) ≤ K
    omega
/-- The numbers that the model tries are enough. -/
theorem most_tried {k : Nat} {xs : List Int} (hk : 1 ≤ k) (h : ∀ i, i < xs.length → 0 ≤ eI xs i ∧ eI xs i < k) : ∃ t : Nat, t ≤ k ∧ (t : Int) ≤ mostU xs xs.length + 1 ∧ ((k : Int) ≤ t ∨ mostU xs xs.length + 1 ≤ t) ∧ triedP k 1 xs t := by
  obtain ⟨m1, m2⟩ := mostU_le h (by omega) xs.length (Nat.le_refl _)
  obtain ⟨m, hm⟩ : ∃ m : Nat, mostU xs xs.length = m := ⟨_, (Int.toNat_of_nonneg m1).symm⟩
  rw [hm] at m1 m2 ⊢
  by_cases h1 : k ≤ m + 1
  · exact ⟨k, Nat.le_refl _, by omega, .inl (Int.le_refl _), .inl rfl⟩
  · refine ⟨m + 1, by omega, by omega, .inr (by omega), .inr (.inr ⟨rfl, by omega, by omega, fun i hi => ?_⟩)⟩
    have := mostU_ge xs xs.length i hi
    omega

/-- The number x fits the first f ones. -/
def fitV (S : Nat → Nat → Bool) (xs : List Int) (p : Nat) (x : Int) (f : Nat) : Bool := decide (∀ j, j < f → S p j = false ∨ eI xs j ≠ x)
theorem fitV_fit {k x : Int} {S : Nat → Nat → Bool} {xs : List Int} {p : Nat} (hx : 0 ≤ x ∧ x < k) (h : ∀ i, i < p → 0 ≤ eI xs i ∧ eI xs i < k) : fitV S xs p x p = fitB k 1 S xs p x := by
  unfold fitV fitB
  rw [decide_eq_decide]
  constructor
  · intro h1 j hj hS
    rw [apart_one hx (h j hj)]
    rcases h1 j hj with h2 | h2
    · rw [hS] at h2; cases h2
    · simp only [Bool.not_eq_true', beq_eq_false_iff_ne]; exact fun e => h2 e.symm
  · intro h1 j hj
    cases hS : S p j
    · exact .inl rfl
    · right
      have h2 := h1 j hj hS
      rw [apart_one hx (h j hj)] at h2
      simp only [Bool.not_eq_true', beq_eq_false_iff_ne] at h2
      exact fun e => h2 e.symm
theorem fitV_more {S : Nat → Nat → Bool} {xs : List Int} {p : Nat} {x : Int} {f g : Nat} (h : f ≤ g) (hf : fitV S xs p x f = false) : fitV S xs p x g = false := by
  unfold fitV at *
  exact decide_eq_false fun h1 => of_decide_eq_false hf fun j hj => h1 j (by omega)
theorem fitV_succ {S : Nat → Nat → Bool} {xs : List Int} {p : Nat} {x : Int} {f : Nat} (hf : fitV S xs p x f = true) : fitV S xs p x (f + 1) = (!S p f || !(eI xs f == x)) := by
  unfold fitV at *
  rw [Bool.eq_iff_iff, Bool.or_eq_true, decide_eq_true_eq]
  simp only [Bool.not_eq_true', beq_eq_false_iff_ne]
  constructor
  · intro h
    exact h f (by omega)
  · intro h j hj
    rcases Nat.lt_or_ge j f with h1 | h1
    · exact of_decide_eq_true hf j h1
    · have e : j = f := by omega
      subst e
      exact h

set_option maxRecDepth 100000 in
set_option maxHeartbeats 16000000 in
theorem sFill_any (k N g cap B : Nat) (bs : List Nat) (S : Nat → Nat → Bool) (w0 : World) (hk : 1 ≤ k ∧ k ≤ 60) (hN : N ≤ 50) (hbs : bs.length = N) (hO0 : OutB w0 g bs N) (hR0 : RowsB w0 B bs N S) :
    ∀ (r : Nat) (xs : List Int) (p gl cl : Nat) (w : World), xs.length = p → p + r = N → suitP k 1 S xs → Below w0.heap.size w0 w → OwnI w gl cl xs →
    Calls Try.prog 131 #[.slice (some ⟨g, 0, none⟩) N cap, .int .i64 k, .slice (some ⟨gl, 0, none⟩) p cl] w fun e w' => e = .returned (.bool (srch k 1 S r xs).isSome) ∧ Below w.heap.size w w' := by
  intro r
  induction r with
  | zero =>
    intro xs p gl cl w hl hp hs hB hO
    obtain rfl : p = N := by omega
    have HP := hid (show true = (srch k 1 S 0 xs).isSome from rfl)
    rw [← HP.out]
    clear hl hp hs hB hO hO0 hR0 HP
    go_enter Try.func131, Try.ntmps131
    go_wp2
    go_ret
    exact ⟨rfl, Below.refl _ _⟩
  | succ r ih =>
    intro xs p gl cl w hl hp hs hB hO
    have hpn : ((p : Int) == (N : Int)) = false := by simp; omega
    have hpn2 : p < N := by omega
    have hpn3 : (p : Int) < (N : Int) := by omega
    have IH := hid ih
    have HL := hid hl
    have HS := hid hs
    have HB := hid hB
    have HO := hid hO
    have HO0 := hid (hO0.on hB)
    have HR0 := hid (hR0.on hB)
    have Hbs := hid hbs
    have HSR := hid (suit_fit.1 hs).1
    obtain ⟨t, ht1, ht2, ht3, ht4⟩ := most_tried hk.1 (suit_fit.1 hs).1
    rw [hl] at ht2 ht3
    have HTP := hid ht4
    have hglw : gl < w.heap.size := hO.lt
    obtain ⟨V, hV⟩ : ∃ V, (srch k 1 S (r + 1) xs).isSome = V := ⟨_, rfl⟩
    have HV := hid hV
    rw [hV]
    obtain ⟨mo, hmo⟩ : ∃ mo, mostU xs p = mo := ⟨_, rfl⟩
    rw [hmo] at ht2 ht3
    have HMO := hid hmo
    have HMb := hid (fun j (hj : j ≤ p) => mostU_le (suit_fit.1 hs).1 (by omega) j (by omega))
    clear ih hl hs hB hO hO0 hR0 hbs ht4 hV hmo
    go_enter Try.func131, Try.ntmps131
    go_wp2
    go_loop [7, 8] (fun a i => ∃ (j : Nat) (m : Int), j ≤ p ∧ a = .int .i64 m ∧ i = .int .i64 j ∧ Hid (m = mostU xs j)) (fun _ i => p - (intOf i).toNat)
    case atStart => exact ⟨0, 0, Nat.zero_le _, rfl, rfl, hid rfl⟩
    case round =>
      obtain ⟨j, m, hj, rfl, rfl, hM⟩ := hrel
      by_cases hlj : j < p
      · have hlj' : (j : Int) < (p : Int) := by omega
        have k1 := HO.out.reads j (by rw [HL.out]; exact hlj)
        rw [Nat.zero_add] at k1
        obtain ⟨y, hy⟩ : ∃ y, eI xs j = y := ⟨_, rfl⟩
        have hy2 := HSR.out j (by rw [HL.out]; exact hlj)
        rw [hy] at k1 hy2
        have HY := hid hy
        have hm2 := HMb.out j (by omega)
        rw [← hM.out] at hm2
        clear hy
        go_wp2
        all_goals
          go_round
          case rel => exact ⟨j + 1, _, by omega, rfl, by go_num, hid (by show _ = max (mostU xs j) (eI xs j + 1); rw [← hM.out, HY.out]; omega)⟩
          case measure => simp [intOf]; omega
      · have hjp : j = p := by omega
        have hmm : m = mo := by rw [hM.out, hjp, HMO.out]
        subst hmm
        clear hjp
        go_wp2
        go_loopw [9] (fun i wr => ∃ x : Nat, x ≤ t ∧ i = .int .i64 x ∧ Hid (∀ y : Nat, y < x → fitB k 1 S xs p y = true → srch k 1 S r (xs ++ [(y : Int)]) = none) ∧ Hid (Below w.heap.size w wr)) (fun i _ => t - (intOf i).toNat)
        case atStart => exact ⟨0, Nat.zero_le _, rfl, hid (fun y hy => absurd hy (by omega)), hid (Below.refl _ _)⟩
        case round =>
          obtain ⟨x, hx, rfl, hnone, hBr⟩ := hrel
          by_cases hlt : x < t
          · have hxk : (x : Int) < (k : Int) := by omega
            have hxm : (x : Int) ≤ m := by omega
            have hxN : x < k := by omega
            have hx60 : 0 ≤ (x : Int) ∧ (x : Int) ≤ 1000 := by omega
            go_wp2
            go_loopw [10, 11] (fun u i wx => ∃ f : Nat, f ≤ p ∧ i = .int .i64 f ∧ u = .bool (fitV S xs p x f) ∧ Hid (Below w.heap.size w wx)) (fun u i _ => p - (intOf i).toNat)
            case atStart => exact ⟨0, Nat.zero_le _, rfl, by rw [show fitV S xs p x 0 = true from decide_eq_true (fun j hj => absurd hj (by omega))], hBr⟩
            case round =>
              obtain ⟨f, hf, rfl, rfl, hBx⟩ := hrel
              obtain ⟨wo, rfl⟩ : ∃ wo : World, wo = wr := ⟨_, rfl⟩
              by_cases hcond : f < p ∧ fitV S xs p x f = true
              · obtain ⟨hfp, hfu⟩ := hcond
                have hfp' : (f : Int) < (p : Int) := by omega
                have hfN : (f : Int) < (N : Int) := by omega
                have HSU := hid (fitV_succ hfu)
                rw [hfu]
                have k1 := (HO.out.on hBx.out).reads f (by rw [HL.out]; exact hfp)
                rw [Nat.zero_add] at k1
                obtain ⟨y, hy⟩ : ∃ y, eI xs f = y := ⟨_, rfl⟩
                rw [hy] at k1 HSU
                have c1 := (HO0.out.on hBx.out).cell (i := p) (by rw [Hbs.out]; exact hpn2)
                have c2 := (HR0.out.on hBx.out).cell (i := p) (j := f) (by rw [Hbs.out]; exact hpn2) (by omega)
                obtain ⟨bp, hbp⟩ : ∃ bp, bN bs p = bp := ⟨_, rfl⟩
                rw [hbp] at c1 c2
                clear hfu hy hbp
                cases hS : S p f
                · rw [hS] at c2
                  have c3 : wo.cell? ⟨bp, f, none⟩ = some (.int .i64 0) := c2
                  have HVv := hid (show true = fitV S xs p x (f + 1) by rw [HSU.out, hS]; rfl)
                  clear c2
                  go_wp2
                  go_roundw
                  case rel => exact ⟨f + 1, by omega, by go_num, by rw [← HVv.out], hBx⟩
                  case measure => simp [intOf]; omega
                · rw [hS] at c2
                  have c3 : wo.cell? ⟨bp, f, none⟩ = some (.int .i64 1) := c2
                  have HVv := hid (show (y != (x : Int)) = fitV S xs p x (f + 1) by rw [HSU.out, hS]; rfl)
                  clear c2
                  cases hyx : (y != (x : Int))
                  all_goals
                    go_wp2
                    go_roundw
                    case rel => exact ⟨f + 1, by omega, by go_num, by rw [← HVv.out, hyx], hBx⟩
                    case measure => simp [intOf]; omega
              · have HVv := hid (show fitV S xs p x f = fitB k 1 S xs p x by
                  rw [← fitV_fit (k := k) (by omega) (fun i hi => HSR.out i (by rw [HL.out]; exact hi))]
                  by_cases hfp : f < p
                  · have h1 : fitV S xs p x f = false := by
                      cases e : fitV S xs p x f
                      · rfl
                      · exact absurd ⟨hfp, e⟩ hcond
                    rw [h1]
                    exact (fitV_more (Nat.le_of_lt hfp) h1).symm
                  · have e : f = p := by omega
                    rw [e])
                rw [HVv.out]
                cases hfb : fitB k 1 S xs p x
                · by_cases hfp : (f : Int) < (p : Int)
                  all_goals
                    go_wp2
                    go_roundw
                    case rel =>
                      refine ⟨x + 1, by omega, by go_num, hid (fun y hy hf => ?_), hBx⟩
                      rcases Nat.lt_or_ge y x with h | h
                      · exact hnone.out y h hf
                      · obtain rfl : y = x := by omega
                        rw [hfb] at hf
                        cases hf
                    case measure => simp [intOf]; omega
                · have hfp : ¬ (f : Int) < (p : Int) := fun h => hcond ⟨by omega, HVv.out.trans hfb⟩
                  have HFB := hid hfb
                  have hglo : gl < wo.heap.size := by have := hBx.out.size; omega
                  have HOx := hid (HO.out.on hBx.out)
                  clear hfb hcond
                  go_wp2_with fail
                  refine (sOwnI_any gl 0 p cl xs _ HL.out (by omega) HOx.out.reads hglo).mono ?_
                  rintro e' w6 ⟨g6, cap6, rfl, hg6, ho6, hb6⟩
                  obtain ⟨g7, cap7, w7, hrun, ho7, hb7, hg7⟩ := push_run (B := wo.heap.size) (ho6.alloc (.cells #[.int .i64 x] 2)) HL.out hg6 (by have := hb6.size; simp; omega) (by omega) (show (w6.alloc (.cells #[.int .i64 x] 2)).cell? ⟨w6.heap.size, 0, none⟩ = some (.int .i64 x) from new_at w6 _ _)
                  have HO7 := hid ho7
                  have HB7 := hid (show Below wo.heap.size wo w7 from (hb6.trans ((on_alloc w6 _).mono hb6.size)).trans hb7)
                  clear ho6 hb6 ho7 hb7
                  go_wp2_with (at_builtin; go_must (refine wpList_append_guard (by rfl) (.tmp 71) (.tmp 73) (by rfl) (by rfl) _ _ (by rfl) (by rfl) _ _ hrun ?_))
                  refine (IH.out (xs ++ [(x : Int)]) (p + 1) g7 cap7 w7 (by rw [List.length_append, HL.out]; rfl) (by omega) (suit_app HS.out hxN (by rw [HL.out]; exact HFB.out)) (HB.out.trans ((bfrom hBx.out HB7.out).mono HB.out.size)) HO7.out).mono ?_
                  cases hsr : srch k 1 S r (xs ++ [(x : Int)]) with
                  | none =>
                    rintro e' w8 ⟨rfl, hb8⟩
                    have HB8 := hid (bfrom (bfrom hBx.out HB7.out) hb8)
                    clear hb8 hrun
                    go_wp2
                    go_roundw
                    case rel =>
                      refine ⟨x + 1, by omega, by go_num, hid (fun y hy hf => ?_), HB8⟩
                      rcases Nat.lt_or_ge y x with h | h
                      · exact hnone.out y h hf
                      · have e : y = x := by omega
                        rw [e]; exact hsr
                    case measure => simp [intOf]; omega
                  | some zs =>
                    have HT := hid (show V = true by
                      rw [← HV.out]
                      show (firstS _ k).isSome = true
                      rw [firstS_some (x := x) (a := zs) (fun y hy => by
                        by_cases hf : fitB k 1 S xs xs.length y = true
                        · rw [if_pos hf]; exact hnone.out y hy (by rw [← HL.out]; exact hf)
                        · rw [if_neg hf]) (by rw [if_pos (by rw [HL.out]; exact HFB.out)]; exact hsr) hxN]
                      rfl)
                    rintro e' w8 ⟨rfl, hb8⟩
                    have HB8 := hid (bfrom (bfrom hBx.out HB7.out) hb8)
                    clear hb8 hrun
                    go_wp2
                    go_ret
                    rw [HT.out]
                    exact ⟨rfl, HB8.out⟩
          · have hxt := hid (show x = t by omega)
            have HT := hid (show V = false by
              rw [← HV.out, srch_tried (t := t) (n := N) HS.out HTP.out (by rw [HL.out]; omega) (fun y hy hf => hnone.out y (by rw [hxt.out]; exact hy) (by rw [← HL.out]; exact hf))]
              rfl)
            have hout : ¬ ((x : Int) < (k : Int) ∧ (x : Int) ≤ m) := by have := hxt.out; omega
            by_cases hxk : (x : Int) < (k : Int)
            · have hxm : ¬ (x : Int) ≤ m := fun h => hout ⟨hxk, h⟩
              go_wp2
              go_ret
              rw [HT.out]
              exact ⟨rfl, hBr.out⟩
            · go_wp2
              go_ret
              rw [HT.out]
              exact ⟨rfl, hBr.out⟩

end Go.Proofs.Ytonlpihbpbnnmaa
