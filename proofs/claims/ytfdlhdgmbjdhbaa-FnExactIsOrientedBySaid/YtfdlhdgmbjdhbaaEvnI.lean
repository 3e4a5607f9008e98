/- Even sets of edges in the program: isEvenSet. -/
import Derived.Test.YtfdlhdgmbjdhbaaImplB
import Derived.Test.YtfdlhdgmbjdhbaaSumA
import Derived.Deep.RegionHeld3
import Derived.Deep.RegionWith
import Derived.Deep.AppendLies
import Derived.Deep.DeepMust
import Derived.BigQuiet
import Derived.Outline
import Derived.Test.YtfdlhdgmbjdhbaaFar
import Derived.Test.YtfdlhdgmbjdhbaaLawsD

/- Sums of ascending lists in the program: sumOf. -/
namespace Go.Proofs.Ytfdlhdgmbjdhbaa
open Go.RowKit

/-- The number of elements of a slice value. -/
def lenV : Value → Nat | .slice _ n _ => n | _ => 0

theorem row_drewS {w : World} {n B m : Nat} {t : TypeId} {sz : Nat} {v : Value} {xs : List Value} (h : w.ownsRow B t sz v m xs) : (w.drewN n).ownsRow B t sz v m xs := h
/-- A list that is left of a slice behind its first element. -/
theorem sees_tail {w : World} {b off : Nat} {x : Int} {xs : List Int} (h : ReadsI w b off (x :: xs)) : ReadsI w b (off + 1) xs := fun i hi => by
  have h1 := h (i + 1) (by simpa using hi)
  rw [show off + 1 + i = off + (i + 1) by omega, h1]
  simp [eI]
theorem sees_head {w : World} {b off : Nat} {x : Int} {xs : List Int} (h : ReadsI w b off (x :: xs)) : w.cell? ⟨b, off, none⟩ = some (.int .i64 x) := by
  have h1 := h 0 (by simp)
  simpa [eI] using h1
theorem sees_cons {w : World} {q : Option Addr} {x : Int} {xs : List Int} (h : SeesI w q (x :: xs)) : ∃ b off, q = some ⟨b, off, none⟩ ∧ ReadsI w b off (x :: xs) := by
  rcases h with h | h
  · cases h
  · exact h

/-- What is left of a list, and where it lies. -/
def RestI (w : World) (q : Option Addr) (n c : Nat) (xs : List Int) : Prop := SeesI w q xs ∧ xs.length = n ∧ n ≤ c ∧ (q = none → c = 0)
theorem RestI.tail {w : World} {b off n c : Nat} {x : Int} {xs : List Int} (h : RestI w (some ⟨b, off, none⟩) n c (x :: xs)) : RestI w (if c = 1 then some ⟨b, off, none⟩ else some ⟨b, off + 1, none⟩) (n - 1) (c - 1) xs := by
  obtain ⟨h1, h2, h3, _⟩ := h
  simp only [List.length_cons] at h2
  refine ⟨?_, by omega, by omega, fun e => by split at e <;> cases e⟩
  rcases h1 with h1 | ⟨b', off', e, h1⟩
  · cases h1
  · simp only [Option.some.injEq, Addr.mk.injEq, and_true] at e
    obtain ⟨rfl, rfl⟩ := e
    split
    · left; exact List.eq_nil_of_length_eq_zero (by omega)
    · right; exact ⟨b, off + 1, rfl, sees_tail h1⟩
theorem RestI.on {w w' : World} {q : Option Addr} {n c : Nat} {xs : List Int} (h : RestI w q n c xs) (hb : Below w.heap.size w w') : RestI w' q n c xs := ⟨h.1.on hb, h.2⟩
theorem RestI.cons {w : World} {q : Option Addr} {n c : Nat} {xs : List Int} (h : RestI w q n c xs) (hn : 0 < n) : ∃ b off x zs, q = some ⟨b, off, none⟩ ∧ xs = x :: zs ∧ b < w.heap.size ∧ w.cell? ⟨b, off, none⟩ = some (.int .i64 x) := by
  obtain ⟨h1, h2, _⟩ := h
  cases xs with
  | nil => simp at h2; omega
  | cons x zs =>
    obtain ⟨b, off, rfl, h3⟩ := sees_cons h1
    exact ⟨b, off, x, zs, rfl, rfl, h3.lt (by simp), sees_head h3⟩
theorem RestI.news {w : World} {q : Option Addr} {n c : Nat} {xs : List Int} (h : RestI w q n c xs) : ∀ ad, q = some ad → ∀ j u, (intVals xs)[j]? = some u → w.cell? (ad.add j) = some u := by
  intro ad hq j u hu
  have hj : j < xs.length := by
    have := (List.getElem?_eq_some_iff.1 hu).1
    rwa [intVals_length] at this
  rcases h.1 with h1 | ⟨b, off, e, h1⟩
  · rw [h1] at hj; simp at hj
  · rw [hq] at e
    injection e with e
    subst e
    rw [intVals_at hj] at hu
    rw [Addr.add_lit, h1 j hj, ← hu]
theorem symmL_end {us vs : List Int} {na nb : Nat} (ha : us.length = na) (hb : vs.length = nb) (h : ¬ (0 < na ∧ 0 < nb)) : symmL us vs = us ++ vs := by
  rcases Nat.eq_zero_or_pos na with h0 | h0
  · rw [List.eq_nil_of_length_eq_zero (ha.trans h0), symmL_nil_left]; rfl
  · rw [List.eq_nil_of_length_eq_zero (hb.trans (by omega)), symmL_nil_right, List.append_nil]

theorem step_append_in {P : Program} {ops : Array Oper} {o : Oper} {a : Act} {w : World} {K : Act → World → Prop} {Q : Exit → Act → World → Prop} {E : Prop}
    (hg : o.guard = none) (s x : Operand) (t : TypeId) (hop : o.op = Op.call { callee := Callee.builtin Builtin.append, args := #[s, x], argTypes := #[t, t] })
    (base : Nat) (e : TypeId) (i : TypeInfo) (size : Nat) (h1 : P.underlying t = some (.slice e)) (h2 : P.info? e = some i) (h4 : i.size = size)
    (g k cap : Nat) (xs : List Value) (hs : a.eval s = .slice (some ⟨g, 0, none⟩) k cap) (hown : w.ownsRow base e size (.slice (some ⟨g, 0, none⟩) k cap) k xs) (ad : Addr) (m c : Nat) (news : List Value) (hx : a.eval x = .slice (some ad) m c) (hn : news.length = m * size)
    (hc : ∀ j u, news[j]? = some u → w.cell? (ad.add j) = some u) (h1c : ∀ u ∈ news, u.oneCell' = true) (b1 : k + m ≤ cap)
    (hK : ∀ w', w'.ownsRow base e size (.slice (some ⟨g, 0, none⟩) (k + m) cap) (k + m) (xs ++ news) → w.grownBy w' (some g) → K (a.put o.dst (.slice (some ⟨g, 0, none⟩) (k + m) cap)) w') :
    if Region.wanted o (yielded ops a.tmps) = true then Oper.wp P o a w K Q else E := by
  have hw : Region.wanted o (yielded ops a.tmps) = true := by simp [Region.wanted, hg]
  rw [if_pos hw]
  obtain ⟨w', hrun, r1, r2⟩ := run_append_fits (P := P) w base t o.type e i size h1 h2 h4 g k cap xs hown ad m c news hn hc h1c b1
  unfold Oper.wp
  simp [execOp, hop, resolve, invoke, builtin, hs, hx, hrun, Result.andThen]
  exact hK _ r1 r2

theorem run_tail1 (b off n c : Nat) (hn : 0 < n) (w : World) :
    (Instr.slice 41 (.slice (some ⟨b, off, none⟩) n c) (some (.int .i64 1)) none none).run Try.prog w = .ok (.slice (if c = 1 then some ⟨b, off, none⟩ else some ⟨b, off + 1, none⟩) (n - 1) (c - 1)) w := by
  have hu : Try.prog.underlying 41 = some (.slice (Try.prog.elem 41)) := by kernel_rfl
  have hs : (sizeOf (Try.prog.elem 41)).run Try.prog w = .ok 1 w := by kernel_rfl
  have h := run_slice_l (P := Try.prog) (w := w) 41 (some ⟨b, off, none⟩) n c hu .i64 1 (by omega) (by omega)
  rw [h, hs]
  unfold sliced
  show Result.ok (Value.slice (if c = 1 then _ else _) (n - 1) (c - 1)) w = _
  by_cases hc : c = 1
  · rw [if_pos hc, if_pos hc]
  · rw [if_neg hc, if_neg hc]
    rfl

set_option maxRecDepth 100000 in
set_option maxHeartbeats 8000000 in
theorem iSumOf_any (q1 : Option Addr) (n1 c1 : Nat) (xs : List Int) (q2 : Option Addr) (n2 c2 : Nat) (ys : List Int) (w : World) (hm1 : n1 ≤ 1048576) (hm2 : n2 ≤ 1048576) (h1 : RestI w q1 n1 c1 xs) (h2 : RestI w q2 n2 c2 ys) :
    Calls Try.prog 144 #[.slice q1 n1 c1, .slice q2 n2 c2] w fun e w' => ∃ q cap, e = .returned (.slice q (symmL xs ys).length cap) ∧ FreshI w.heap.size w' q (symmL xs ys).length cap (symmL xs ys) ∧ Below w.heap.size w w' := by
  have HR1 := hid h1
  have HR2 := hid h2
  obtain ⟨i0, hi, hz0, hz1, hz2⟩ := info_parts infoInt
  have Hi := hid hi
  have e1 : IntKind.i64.wrap ((n1 : Int) + (n2 : Int)) = (n1 : Int) + (n2 : Int) := IntWalk.i64_in _ (by omega)
  clear h1 h2 hi
  go_enter Try.func144, Try.ntmps144
  go_wp2_with (at_make; refine wpList_make_own _ rfl _ _ 41 rfl w.heap.size 2 i0 (.int .i64 0) 1 Try.underlying41 Hi.out hz0 hz1 _ _ _ (n1 + n2) rfl rfl (by simp) (by rw [hz2]; omega) (by unfold maxLen; omega) (Nat.le_refl _) ?_; intro w3 hown hgrow)
  have Ho := hid hown
  have HB3 := hid ((Below.refl w.heap.size w).grown hgrow (Nat.le_refl _) (fun k e => by cases e))
  clear hown hgrow
  go_loopw [0, 1, 5] (fun u v s wr => ∃ (qa qb : Option Addr) (na ca nb cb l : Nat) (us vs S : List Int), u = .slice qa na ca ∧ v = .slice qb nb cb ∧ s = .slice (some ⟨w.heap.size, 0, none⟩) l (n1 + n2) ∧ l + na + nb ≤ n1 + n2 ∧ Hid (S.length = l ∧ S ++ symmL us vs = symmL xs ys) ∧ Hid (RestI w qa na ca us ∧ RestI w qb nb cb vs) ∧ Hid (wr.ownsRow w.heap.size 2 1 (.slice (some ⟨w.heap.size, 0, none⟩) l (n1 + n2)) l (intVals S)) ∧ Hid (Below w.heap.size w wr)) (fun u v _ _ => lenV u + lenV v)
  case atStart => exact ⟨q1, q2, n1, c1, n2, c2, 0, xs, ys, [], rfl, rfl, rfl, by omega, hid ⟨rfl, rfl⟩, hid ⟨HR1.out, HR2.out⟩, Ho, HB3⟩
  case round =>
    obtain ⟨qa, qb, na, ca, nb, cb, l, us, vs, S, rfl, rfl, rfl, hle, hS, hR, hO, hB⟩ := hrel
    clear HR1 HR2 Ho HB3
    have hszr := hB.out.size
    have hlt := hO.out.lt w.heap.size rfl
    by_cases hab : 0 < na ∧ 0 < nb
    · obtain ⟨ha, hb⟩ := hab
      obtain ⟨ba, oa, x, us', rfl, rfl, hba, hxa⟩ := hR.out.1.cons ha
      obtain ⟨bb, ob, y, vs', rfl, rfl, hbb, hyb⟩ := hR.out.2.cons hb
      have hxr := (hB.out.cell (p := ⟨ba, oa, none⟩) hba).trans hxa
      have hyr := (hB.out.cell (p := ⟨bb, ob, none⟩) hbb).trans hyb
      have hba' : ba < wr.heap.size := by omega
      have hbb' : bb < wr.heap.size := by omega
      have hneA : ba ≠ w.heap.size := by omega
      have hneB : bb ≠ w.heap.size := by omega
      clear hxa hyb
      have HA := hid hR.out.1.tail
      have HB := hid hR.out.2.tail
      have hsa := fun w' => run_tail1 ba oa na ca ha w'
      have hsb := fun w' => run_tail1 bb ob nb cb hb w'
      have hnca : na ≤ ca := hR.out.1.2.2.1
      have hncb : nb ≤ cb := hR.out.2.2.2.1
      obtain ⟨qA, hqA⟩ : ∃ q, (if ca = 1 then some (⟨ba, oa, none⟩ : Addr) else some ⟨ba, oa + 1, none⟩) = q := ⟨_, rfl⟩
      obtain ⟨qB, hqB⟩ : ∃ q, (if cb = 1 then some (⟨bb, ob, none⟩ : Addr) else some ⟨bb, ob + 1, none⟩) = q := ⟨_, rfl⟩
      rw [hqA] at hsa HA
      rw [hqB] at hsb HB
      clear hqA hqB
      obtain ⟨wo, rfl⟩ : ∃ wo : World, wo = wr := ⟨_, rfl⟩
      rcases Int.lt_trichotomy x y with hxy | hxy | hxy
      · have t1 : decide (x < y) = true := by simpa using hxy
        have HXY := hid hxy
        clear hxy
        go_wp2
        go_quiet (fail)
        go_wp2
        go_region_held3 (fun w' => w'.cell? ⟨ba, oa, none⟩ = some (.int .i64 x)) (first | go_keep | (rw [hgrow8.cell_far _ (by simp; omega) (by simp; omega)]; assumption))
          ((refine step_append_in (by rfl) _ _ 41 (by rfl) w.heap.size 2 i0 1 Try.underlying41 Hi.out hz1 w.heap.size l (n1 + n2) (intVals S) (by rfl) ((row_drewS hO.out).alloc _) ⟨wo.heap.size, 0, none⟩ 1 1 [.int .i64 x] (by rfl) (by rfl) (World.news_of_block (cs := #[.int .i64 x]) (t := 2) (fr := (0, 0)) (heap_alloc_new _ _)) (by simp [Value.oneCell']) (by omega) ?_; intro w8 hown8 hgrow8))
        all_goals
          have Hown8 := hid hown8
          have HB8 := hid (((bdn.mpr hB.out).alloc (by show w.heap.size ≤ wo.heap.size; omega) _).grown hgrow8 (by simp; omega) (fun k e => by have := Option.some.inj e; omega))
          clear hown8 hgrow8
          go_wp2
          go_roundw
          case rel => exact ⟨qA, some ⟨bb, ob, none⟩, na - 1, ca - 1, nb, cb, l + 1, us', y :: vs', S ++ [x], rfl, rfl, rfl, by omega, hid ⟨by rw [List.length_append, hS.out.1]; rfl, by rw [List.append_assoc, ← hS.out.2, symmL_lt HXY.out]; rfl⟩, hid ⟨HA.out, hR.out.2⟩, hid (by rw [intVals_append]; exact Hown8.out), HB8⟩
          case measure => simp [lenV]; omega
      · have t1 : decide (x < y) = false := by simp; omega
        have t2 : decide (y < x) = false := by simp; omega
        obtain rfl : x = y := hxy
        go_wp2
        go_quiet (fail)
        go_wp2
        go_quiet (fail)
        go_wp2
        go_quiet (fail)
        go_wp2
        go_roundw
        case rel => exact ⟨qA, qB, na - 1, ca - 1, nb - 1, cb - 1, l, us', vs', S, rfl, rfl, rfl, by omega, hid ⟨hS.out.1, by rw [← hS.out.2, symmL_eq]⟩, hid ⟨HA.out, HB.out⟩, hid (row_drewS hO.out), hid (by first | exact bdn.mpr (bdn.mpr hB.out) | exact bdn.mpr (bdn.mpr (bdn.mpr hB.out)) | exact bdn.mpr hB.out)⟩
        case measure => simp [lenV]; omega
      · have t1 : decide (x < y) = false := by simp; omega
        have t2 : decide (y < x) = true := by simpa using hxy
        have HXY := hid hxy
        clear hxy
        go_wp2
        go_quiet (fail)
        go_wp2
        go_quiet (fail)
        go_wp2
        go_region_held3 (fun w' => w'.cell? ⟨bb, ob, none⟩ = some (.int .i64 y)) (first | go_keep | (rw [hgrow8.cell_far _ (by simp; omega) (by simp; omega)]; assumption))
          ((refine step_append_in (by rfl) _ _ 41 (by rfl) w.heap.size 2 i0 1 Try.underlying41 Hi.out hz1 w.heap.size l (n1 + n2) (intVals S) (by rfl) ((row_drewS hO.out).alloc _) ⟨wo.heap.size, 0, none⟩ 1 1 [.int .i64 y] (by rfl) (by rfl) (World.news_of_block (cs := #[.int .i64 y]) (t := 2) (fr := (0, 0)) (heap_alloc_new _ _)) (by simp [Value.oneCell']) (by omega) ?_; intro w8 hown8 hgrow8))
        all_goals
          have Hown8 := hid hown8
          have HB8 := hid (((bdn.mpr hB.out).alloc (by show w.heap.size ≤ wo.heap.size; omega) _).grown hgrow8 (by simp; omega) (fun k e => by have := Option.some.inj e; omega))
          clear hown8 hgrow8
          go_wp2
          go_roundw
          case rel => exact ⟨some ⟨ba, oa, none⟩, qB, na, ca, nb - 1, cb - 1, l + 1, x :: us', vs', S ++ [y], rfl, rfl, rfl, by omega, hid ⟨by rw [List.length_append, hS.out.1]; rfl, by rw [List.append_assoc, ← hS.out.2, symmL_gt HXY.out]; rfl⟩, hid ⟨hR.out.1, HB.out⟩, hid (by rw [intVals_append]; exact Hown8.out), HB8⟩
          case measure => simp [lenV]; omega
    · have HE := hid (symmL_end hR.out.1.2.1 hR.out.2.2.1 hab)
      obtain ⟨wo, rfl⟩ : ∃ wo : World, wo = wr := ⟨_, rfl⟩
      have HNA := hid (hR.out.1.on hB.out)
      have HNB := hid (hR.out.2.on hB.out)
      by_cases ha : 0 < na
      · have hb : ¬ 0 < nb := fun h => hab ⟨ha, h⟩
        have d1 : decide ((0 : Int) < (na : Int)) = true := by simpa using ha
        have d2 : decide ((0 : Int) < (nb : Int)) = false := by simp; omega
        clear hab
        go_wp2_with (first
          | (at_builtin; refine wpList_append_fits_any _ rfl (.tmp 56) (.tmp 57) 41 rfl w.heap.size 2 i0 1 Try.underlying41 Hi.out hz1 w.heap.size l (n1 + n2) (intVals S) rfl hO.out qa na ca (intVals us) rfl (by rw [intVals_length, HNA.out.2.1, Nat.mul_one]) (fun e => ⟨by have h1 := HNA.out.2.2.1; have h2 := HNA.out.2.2.2 e; omega, HNA.out.2.2.2 e⟩) HNA.out.news (intVals_one us) (by omega) ?_; intro w8 hown8 hgrow8; have Hown8 := hid hown8; have HB8 := hid (hB.out.grown hgrow8 (by omega) (fun k e => by have := Option.some.inj e; omega)); have HNB8 := hid (hR.out.2.on HB8.out); clear hown8 hgrow8)
          | (at_builtin; go_must (refine wpList_append_fits_any _ rfl (.tmp 59) (.tmp 60) 41 rfl w.heap.size 2 i0 1 Try.underlying41 Hi.out hz1 w.heap.size (l + na) (n1 + n2) (intVals S ++ intVals us) rfl Hown8.out qb nb cb (intVals vs) rfl (by rw [intVals_length, HNB8.out.2.1, Nat.mul_one]) (fun e => ⟨by have h1 := HNB8.out.2.2.1; have h2 := HNB8.out.2.2.2 e; omega, HNB8.out.2.2.2 e⟩) HNB8.out.news (intVals_one vs) (by omega) ?_); intro w9 hown9 hgrow9; have Hown9 := hid hown9; have HB9 := hid (HB8.out.grown hgrow9 HB8.out.size (fun k e => by have := Option.some.inj e; omega)); clear hown9 hgrow9))
        go_ret
        have hL : symmL xs ys = S ++ (us ++ vs) := by rw [← hS.out.2, HE.out]
        have hl : (symmL xs ys).length = l + na + nb := by rw [hL, List.length_append, List.length_append, hS.out.1, hR.out.1.2.1, hR.out.2.2.1]; omega
        refine ⟨some ⟨w.heap.size, 0, none⟩, n1 + n2, by rw [hl]; rfl, ⟨?_, rfl⟩, HB9.out⟩
        rw [hl, hL, intVals_append, intVals_append, ← List.append_assoc]
        exact Hown9.out
      · have d1 : decide ((0 : Int) < (na : Int)) = false := by simp; omega
        clear hab
        go_wp2_with (first
          | (at_builtin; refine wpList_append_fits_any _ rfl (.tmp 56) (.tmp 57) 41 rfl w.heap.size 2 i0 1 Try.underlying41 Hi.out hz1 w.heap.size l (n1 + n2) (intVals S) rfl hO.out qa na ca (intVals us) rfl (by rw [intVals_length, HNA.out.2.1, Nat.mul_one]) (fun e => ⟨by have h1 := HNA.out.2.2.1; have h2 := HNA.out.2.2.2 e; omega, HNA.out.2.2.2 e⟩) HNA.out.news (intVals_one us) (by omega) ?_; intro w8 hown8 hgrow8; have Hown8 := hid hown8; have HB8 := hid (hB.out.grown hgrow8 (by omega) (fun k e => by have := Option.some.inj e; omega)); have HNB8 := hid (hR.out.2.on HB8.out); clear hown8 hgrow8)
          | (at_builtin; go_must (refine wpList_append_fits_any _ rfl (.tmp 59) (.tmp 60) 41 rfl w.heap.size 2 i0 1 Try.underlying41 Hi.out hz1 w.heap.size (l + na) (n1 + n2) (intVals S ++ intVals us) rfl Hown8.out qb nb cb (intVals vs) rfl (by rw [intVals_length, HNB8.out.2.1, Nat.mul_one]) (fun e => ⟨by have h1 := HNB8.out.2.2.1; have h2 := HNB8.out.2.2.2 e; omega, HNB8.out.2.2.2 e⟩) HNB8.out.news (intVals_one vs) (by omega) ?_); intro w9 hown9 hgrow9; have Hown9 := hid hown9; have HB9 := hid (HB8.out.grown hgrow9 HB8.out.size (fun k e => by have := Option.some.inj e; omega)); clear hown9 hgrow9))
        go_ret
        have hL : symmL xs ys = S ++ (us ++ vs) := by rw [← hS.out.2, HE.out]
        have hl : (symmL xs ys).length = l + na + nb := by rw [hL, List.length_append, List.length_append, hS.out.1, hR.out.1.2.1, hR.out.2.2.1]; omega
        refine ⟨some ⟨w.heap.size, 0, none⟩, n1 + n2, by rw [hl]; rfl, ⟨?_, rfl⟩, HB9.out⟩
        rw [hl, hL, intVals_append, intVals_append, ← List.append_assoc]
        exact Hown9.out

end Go.Proofs.Ytfdlhdgmbjdhbaa

namespace Go.Proofs.Ytfdlhdgmbjdhbaa
open Go.RowKit

theorem FreshI.rest {B : Nat} {w : World} {q : Option Addr} {n cap : Nat} {xs : List Int} (h : FreshI B w q n cap xs) : RestI w q n cap xs := by
  refine ⟨h.sees, h.2, ?_, fun e => ?_⟩
  · rcases h.form with ⟨_, h1, h2, _⟩ | ⟨g, _, _, ho⟩
    · omega
    · rw [← h.2]; exact ho.le
  · rcases h.form with ⟨_, _, h2, _⟩ | ⟨g, h1, _, _⟩
    · exact h2
    · rw [h1] at e; cases e
theorem ends_rest {w : World} {b off E X Y : Nat} {es : List (Int × Int)} (hr : ReadsE w b off es) (hE : E < es.length) (hX : eA es E = X) (hY : eB es E = Y) : RestI w (some ⟨b, off + E * 2, none⟩) 2 2 [(X : Int), (Y : Int)] := by
  obtain ⟨h1, h2⟩ := hr E hE
  rw [hX] at h1
  rw [hY] at h2
  refine ⟨.inr ⟨b, off + E * 2, rfl, fun i hi => ?_⟩, rfl, Nat.le_refl _, fun e => by cases e⟩
  match i, hi with
  | 0, _ => exact h1
  | 1, _ => exact h2

theorem isG_asc {s : Int} {es : List (Int × Int)} (h : IsG s es) {i : Nat} (hi : i < es.length) : eA es i < eB es i := by
  have h1 := (h.2.2 i hi).1
  have h2 := isG_ne h hi
  omega

set_option maxRecDepth 100000 in
set_option maxHeartbeats 8000000 in
theorem iEven_any (N b off n c : Nat) (ps : Option Addr) (m f : Nat) (es : List (Int × Int)) (xs : List Int) (w : World) (hn : es.length = n) (hr : ReadsE w b off es) (g : IsG N es) (hx : xs.length = m) (hrx : SeesI w ps xs) (gs : isSetP n xs) :
    Calls Try.prog 121 #[.agg #[.int .i64 N, .slice (some ⟨b, off, none⟩) n c], .slice ps m f] w fun e' w' => e' = .returned (.bool (decide (evenP N es xs))) ∧ Below w.heap.size w w' := by
  have hn30 : n ≤ 30 := by have := isG_len g; omega
  have hN20 : N ≤ 20 := by have := g.1.1.2.1; omega
  have hm30 : m ≤ 30 := by have := set_len gs; omega
  have Hn := hid hn
  have Hr := hid hr
  have Hx := hid hx
  have Hrx := hid hrx
  have G := hid g
  have GS := hid gs
  have hbl : b < w.heap.size := reads_lt hr (by have := g.1.1.2.2.2; have := g.1.1.1; omega)
  obtain ⟨r, hR⟩ : ∃ r, decide (evenP N es xs) = r := ⟨_, rfl⟩
  rw [hR]
  have HR := hid hR
  clear hn hr hx hrx g gs hR
  go_enter Try.func121, Try.ntmps121
  have HX0 := hid (Box.new w N (some ⟨b, off, none⟩) n c 28)
  have HB0 := hid (on_alloc w (.cells #[.int .i64 N, .slice (some ⟨b, off, none⟩) n c] 28))
  go_wp2
  obtain ⟨w2, hw2⟩ : ∃ w2, w2 = w.alloc (.cells #[.int .i64 N, .slice (some ⟨b, off, none⟩) n c] 28) := ⟨_, rfl⟩
  rw [← hw2] at HX0 HB0 ⊢
  clear hw2
  have hs2' := HB0.out.size
  go_loopw [5, 10] (fun u i wr => ∃ (i' l cap : Nat) (q : Option Addr), i' ≤ m ∧ u = .slice q l cap ∧ i = .int .i64 i' ∧ Hid (RestI wr q l cap (oddU N es xs i')) ∧ Hid (Below w2.heap.size w2 wr)) (fun _ i _ => m - (intOf i).toNat)
  case atStart => exact ⟨0, 0, 0, none, Nat.zero_le _, rfl, rfl, hid (by rw [oddU_zero]; exact ⟨.inl rfl, rfl, Nat.le_refl _, fun _ => rfl⟩), hid (Below.refl _ _)⟩
  case round =>
    obtain ⟨i, l, cap, q, hi, rfl, rfl, hC, hB⟩ := hrel
    have HXr := hid (HX0.out.on hB.out)
    have hyr := HXr.out.2
    have hzr := HXr.out.lt
    have HBw := hid (bfrom HB0.out hB.out)
    have hszw := HBw.out.size
    by_cases hlt : i < m
    · obtain ⟨sb, so, rfl, hrd⟩ : ∃ sb so, ps = some ⟨sb, so, none⟩ ∧ ReadsI w sb so xs := by
        rcases Hrx.out with h | h
        · have := Hx.out; rw [h] at this; simp at this; omega
        · exact h
      have hix : i < xs.length := by have := Hx.out; omega
      have hc1 := (hrd.on HBw.out) i hix
      have hsb0 := hrd.lt (show 0 < xs.length by omega)
      have hsb : sb < wr.heap.size := by omega
      have hbr : b < wr.heap.size := by omega
      have hok := (GS.out i hix).1
      obtain ⟨E, hE⟩ : ∃ E : Nat, eI xs i = E := ⟨_, (Int.toNat_of_nonneg hok.1).symm⟩
      have hEn : E < n := by omega
      have hEn' : (E : Int) < (n : Int) := by omega
      rw [hE] at hc1
      have hEl : E < es.length := by have := Hn.out; omega
      have hend := endsIn_of G.out E hEl
      obtain ⟨X, hX⟩ : ∃ X : Nat, eA es E = X := ⟨_, (Int.toNat_of_nonneg hend.1.1).symm⟩
      obtain ⟨Y, hY⟩ : ∃ Y : Nat, eB es E = Y := ⟨_, (Int.toNat_of_nonneg hend.2.1).symm⟩
      have hYN : Y < N := by have := hend.2.2; omega
      have hXY : X < Y := by have h := isG_asc G.out hEl; omega
      have HEn := hid (ends_rest (Hr.out.on HBw.out) hEl hX hY)
      have HST := hid (oddU_step (N := N) (xs := xs) (k := i) hE hX hY hXY hYN)
      clear hrd hok hE hend hX hY
      obtain ⟨wo, rfl⟩ : ∃ wo : World, wo = wr := ⟨_, rfl⟩
      go_wp2_with fail
      refine (iSumOf_any q l cap (oddU N es xs i) (some ⟨b, off + E * 2, none⟩) 2 2 [(X : Int), (Y : Int)] _ (by have h1 := hC.out.2.1; have h2 := numsB_len (fun v => decide (cntP es xs i (v : Int) % 2 = 1)) N; rw [← h1]; unfold oddU; omega) (by omega) hC.out HEn.out).mono ?_
      rw [HST.out]
      rintro e w4 ⟨q4, cap4, rfl, hf4, hb4⟩
      have HF4 := hid hf4
      have HB4 := hid hb4
      clear hf4 hb4
      go_wp2
      go_roundw
      case rel => exact ⟨i + 1, _, cap4, q4, by omega, rfl, by go_num, hid HF4.out.rest, hid (bfrom hB.out HB4.out)⟩
      case measure => simp [intOf]; omega
    · obtain rfl : i = m := by omega
      have hl := hC.out.2.1
      rw [← Hx.out] at hl
      have hev := oddU_even N es xs
      rw [hl] at hev
      have HEv := hid hev
      clear hl hev
      by_cases h0 : l = 0
      · have t1 : ((l : Int) == 0) = true := by simpa using h0
        have H0 := hid h0
        clear h0
        go_wp2
        go_ret
        refine ⟨?_, HBw.out⟩
        rw [← HR.out, decide_eq_true (HEv.out.1 H0.out)]
        rfl
      · have t1 : ((l : Int) == 0) = false := by simpa using h0
        have H0 := hid h0
        clear h0
        go_wp2
        go_ret
        refine ⟨?_, HBw.out⟩
        rw [← HR.out, decide_eq_false (fun h => H0.out (HEv.out.2 h))]
        rfl

end Go.Proofs.Ytfdlhdgmbjdhbaa
