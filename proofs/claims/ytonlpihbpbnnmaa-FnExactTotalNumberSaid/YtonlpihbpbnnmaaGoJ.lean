/- The search for the least list that suits, in the program: goOn. -/
import Derived.Test.YtonlpihbpbnnmaaGoI
import Derived.Shelf.RegionOpen
import Derived.Deep.AppendLies
import Derived.Deep.DeepMust
import Derived.Deep.RegionLaw
import Derived.Maps.AppendAt
import Derived.StillTailTactics
import Derived.OwnWalk
namespace Go.Proofs.Ytonlpihbpbnnmaa
open Go.RowKit

/- The search. -/
/-- append where there is room in the search's row, as one step of a region that draws. -/
theorem step_append_go {ops : Array Oper} {o : Oper} {a : Act} {w : World} {K : Act → World → Prop} {Q : Exit → Act → World → Prop} {E : Prop}
    (hg : o.guard = none) (s x : Operand) (hop : o.op = Op.call { callee := Callee.builtin Builtin.append, args := #[s, x], argTypes := #[34, 34] })
    (i : TypeInfo) (h2 : Try.prog.info? 2 = some i) (h4 : i.size = 1) {w5 : World} {g n p : Nat} {xs : List Int} {k : Nat} (hB : Below w5.heap.size w5 w)
    (hs : a.eval s = .slice (some ⟨g, 0, none⟩) p n) (hO : OwnI w5 g n xs) (hl : xs.length = p) (hcn : p + 1 ≤ n) {ad : Addr} (hx : a.eval x = .slice (some ad) 1 1)
    (hc : ∀ j u, [Value.int .i64 (k : Int)][j]? = some u → w.cell? (ad.add j) = some u)
    (hK : ∀ w', OwnI w' g n (xs ++ [(k : Int)]) → w5.grownBy w' (some g) → K (a.put o.dst (.slice (some ⟨g, 0, none⟩) (p + 1) n)) w') :
    if Region.wanted o (yielded ops a.tmps) = true then Oper.wp Try.prog o a w K Q else E := by
  have hw : Region.wanted o (yielded ops a.tmps) = true := by simp [Region.wanted, hg]
  rw [if_pos hw]
  obtain ⟨w', hrun, r1, r2⟩ := run_append_fits (P := Try.prog) w 0 34 o.type 2 i 1 Try.underlying34 h2 h4 g p n (intVals xs) ((hO.on hB).row hl (Nat.zero_le _)) ad 1 1 [.int .i64 k] rfl hc (by simp [Value.oneCell']) hcn
  unfold Oper.wp
  simp [execOp, hop, resolve, invoke, builtin, hs, hx, hrun, Result.andThen]
  refine hK _ (OwnI.of_row (base := 0) (n := p + 1) (by rw [intVals_append]; exact r1) (by rw [List.length_append, hl]; rfl)).1 ?_
  exact ⟨r2.os.trans hB.os, r2.tape.trans hB.tape, r2.output.trans hB.output, Nat.le_trans hB.size r2.size, fun j hj hne => (r2.block j (Nat.lt_of_lt_of_le hj hB.size) hne).trans (hB.block j hj)⟩

theorem Circ.grown {w w' : World} {B : Nat} {k d : Int} {g : Nat} (h : Circ w B k d) (hg : w.grownBy w' (some g)) (hB : B < w.heap.size) (hne : B ≠ g) : Circ w' B k d := (hg.block B hB (fun e => hne (Option.some.inj e))).trans h
theorem OwnI.first {w : World} {g cap : Nat} {xs ys : List Int} (h : OwnI w g cap (xs ++ ys)) : OwnI w g cap xs := by
  obtain ⟨cur, hc, hs, hl, hm, r⟩ := h
  rw [List.length_append] at hl
  refine ⟨cur, hc, hs, by omega, hm, fun i hi => ?_⟩
  rw [r i (by rw [List.length_append]; omega)]
  unfold eI
  rw [List.getD_eq_getElem?_getD, List.getD_eq_getElem?_getD, List.getElem?_append_left hi]
theorem grown_trans {a b c : World} {row : Option Nat} (h : a.grownBy b row) (k : b.grownBy c row) : a.grownBy c row :=
  ⟨k.os.trans h.os, k.tape.trans h.tape, k.output.trans h.output, Nat.le_trans h.size k.size, fun j hj hne => (k.block j (Nat.lt_of_lt_of_le hj h.size) hne).trans (h.block j hj hne)⟩
theorem grown_of {a b : World} (h : Below a.heap.size a b) (row : Option Nat) : a.grownBy b row := ⟨h.os, h.tape, h.output, h.size, fun j hj _ => h.block j hj⟩
theorem below_of {w0 a b : World} {g : Nat} (h0 : Below w0.heap.size w0 a) (h : a.grownBy b (some g)) (hg : w0.heap.size ≤ g) : Below w0.heap.size w0 b :=
  ⟨h.os.trans h0.os, h.tape.trans h0.tape, h.output.trans h0.output, Nat.le_trans h0.size h.size, fun j hj => (h.block j (Nat.lt_of_lt_of_le hj h0.size) (fun e => by have := Option.some.inj e; omega)).trans (h0.block j hj)⟩

/-- What the search hands back. -/
def GoP (k : Nat) (d : Int) (M : Nat → Nat → Bool) (n g r : Nat) (xs : List Int) (q : Option Addr) (l c R : Nat) (fnd : Bool) (w w' : World) : Prop :=
  w.grownBy w' (some g) ∧
    ((fnd = true ∧ (q = some ⟨g, 0, none⟩ ∧ l = n ∧ c = n ∧ R = 0) ∧ ∃ zs, srch k d M r xs = some zs ∧ OwnI w' g n zs ∧ zs.length = n) ∨
     (fnd = false ∧ (q = none ∧ l = 0 ∧ c = 0) ∧ (∀ i, R.testBit i = true → i < xs.length) ∧ badR k d M n R xs ∧ OwnI w' g n xs))
theorem GoP.drew {k : Nat} {d : Int} {M : Nat → Nat → Bool} {n g r : Nat} {xs : List Int} {q : Option Addr} {l c R : Nat} {fnd : Bool} {w w' : World} (h : GoP k d M n g r xs q l c R fnd w w') : GoP k d M n g r xs q l c R fnd w w'.drew := by
  obtain ⟨h1, h2⟩ := h
  refine ⟨⟨h1.os, h1.tape, h1.output, h1.size, h1.block⟩, ?_⟩
  rcases h2 with ⟨a, b, zs, c, d, e⟩ | ⟨a, b, c, d, e⟩
  · exact .inl ⟨a, b, zs, c, d.keep rfl, e⟩
  · exact .inr ⟨a, b, c, d, e.keep rfl⟩
def GoPost (k : Nat) (d : Int) (M : Nat → Nat → Bool) (n g r : Nat) (xs : List Int) (w : World) (e : Ending) (w' : World) : Prop :=
  ∃ q l c R fnd, e = .returned (.tuple #[.slice q l c, .int .u64 ((R : Nat) : Int), .bool fnd]) ∧ GoP k d M n g r xs q l c R fnd w w'

theorem bits_lt {A p : Nat} (h : ∀ i, A.testBit i = true → i ≤ p) : A < 2 ^ (p + 1) := by
  refine Nat.lt_pow_two_of_testBit _ fun i hi => ?_
  cases e : A.testBit i
  · rfl
  · exact absurd (h i e) (by omega)
theorem pow_64 {A p : Nat} (h : A < 2 ^ (p + 1)) (hp : p < 60) : A < 18446744073709551616 := Nat.lt_of_lt_of_le h (Nat.le_trans (Nat.pow_le_pow_right (by omega) (show p + 1 ≤ 60 by omega)) (by decide))
theorem andNot_bit {A p i : Nat} (hp : p < 60) : (A &&& (18446744073709551615 - 2 ^ p)).testBit i = (A.testBit i && (decide (i < 64) && !(decide (p = i)))) := by
  have h : 18446744073709551615 - 2 ^ p = 2 ^ 64 - (2 ^ p + 1) := by omega
  have h2 : (2 : Nat) ^ p < 2 ^ 64 := Nat.pow_lt_pow_right (by omega) (by omega)
  rw [Nat.testBit_and, h, Nat.testBit_two_pow_sub_succ h2, Nat.testBit_two_pow]

theorem go_bit {R p : Nat} (hR : R < 18446744073709551616) : (bits BinOp.and IntKind.u64 ((R : Int) / 2 ^ p) 1 == 0) = !(R.testBit p) := by
  have h1 : (R : Int) / 2 ^ p = ((R / 2 ^ p : Nat) : Int) := by simp
  have h2 : R / 2 ^ p < 18446744073709551616 := Nat.lt_of_le_of_lt (Nat.div_le_self _ _) hR
  rw [h1, show (1 : Int) = ((1 : Nat) : Int) from rfl, u64_and_nat _ _ h2 (by omega)]
  unfold Nat.testBit
  rw [Nat.shiftRight_eq_div_pow, Nat.and_comm 1]
  generalize R / 2 ^ p &&& 1 = z
  by_cases hz : z = 0
  · subst hz; rfl
  · have e1 : (((z : Nat) : Int) == 0) = false := by simp; omega
    have e2 : (z != 0) = true := by simpa using hz
    rw [e1, e2]
    rfl

set_option maxRecDepth 100000 in
set_option maxHeartbeats 8000000 in
theorem iGoOn_any (k : Nat) (d : Int) (M : Nat → Nat → Bool) (n g : Nat) (br orr mc : Nat) (w0 : World) (hk : 1 ≤ k ∧ k ≤ 60) (hd : 0 ≤ d ∧ d ≤ 1000) (hn2 : n ≤ 50) (hrl : ReadsL w0 br orr (rowsM M n)) (hg : w0.heap.size ≤ g) :
    ∀ (r : Nat) (xs : List Int) (p : Nat) (w : World), xs.length = p → p + r = n → suitP k d M xs → Below w0.heap.size w0 w → OwnI w g n xs →
    Calls Try.prog 128 #[.agg #[.int .i64 k, .int .i64 d], .slice (some ⟨br, orr, none⟩) n mc, .slice (some ⟨g, 0, none⟩) p n] w (GoPost k d M n g r xs w) := by
  obtain ⟨j0, hj, hj0, hj1, hj2⟩ := info_parts infoInt
  have Hj := hid hj
  clear hj
  intro r
  induction r with
  | zero =>
    intro xs p w hl hp hs hB hO
    obtain rfl : p = n := by omega
    have HP := hid (show GoP k d M p g 0 xs (some ⟨g, 0, none⟩) p p 0 true w (w.alloc (.cells #[.int .i64 k, .int .i64 d] 74)) from ⟨grown_of (on_alloc _ _) _, .inl ⟨rfl, ⟨rfl, rfl, rfl, rfl⟩, xs, rfl, hO.alloc _, hl⟩⟩)
    clear hl hp hs hB hO
    go_enter Try.func128, Try.ntmps128
    go_wp2
    go_ret3
    exact ⟨_, _, _, 0, _, rfl, HP.out⟩
  | succ r ih =>
    intro xs p w hl hp hs hB hO
    have hpn : ((p : Int) == (n : Int)) = false := by simp; omega
    have hpn2 : (p : Int) < (n : Int) := by omega
    have IH := hid ih
    have HL := hid hl
    have HS := hid hs
    have HB := hid hB
    have HO := hid hO
    have Hrl := hid hrl
    have HX := hid (Circ.new w k d)
    have HB1 := hid (on_alloc w (.cells #[.int .i64 k, .int .i64 d] 74))
    have hsr := (suit_fit.1 hs).1
    obtain ⟨t, ht, htk, htp⟩ := triedN_ok (d := d) hk.1 hsr
    have HT := hid ht
    have HTP := hid htp
    have HSR := hid hsr
    have hgl : g < w.heap.size := hO.lt
    clear ih hl hs hB hO hrl ht htp hsr
    go_enter Try.func128, Try.ntmps128
    go_wp2_with fail
    obtain ⟨w1, hw1⟩ : ∃ w1, w1 = w.alloc (.cells #[.int .i64 k, .int .i64 d] 74) := ⟨_, rfl⟩
    rw [← hw1] at HX HB1 ⊢
    clear hw1
    refine (iTried_any k d _ p n xs w1 HL.out (by omega) (HO.out.on HB1.out).sees (by omega) HSR.out).mono ?_
    rw [HT.out]
    rintro e' w2 ⟨rfl, hb2⟩
    have HB2 := hid (bfrom HB1.out hb2)
    have HX2 := hid (HX.out.on hb2)
    have hBc : w.heap.size < w2.heap.size := HX2.out.lt
    clear hb2 HX HB1
    go_wp2
    go_loopw [10, 26] (fun a i wr => ∃ x A : Nat, x ≤ t ∧ a = .int .u64 A ∧ i = .int .i64 x ∧ Hid (∀ i, A.testBit i = true → i ≤ p) ∧ Hid (∀ y : Nat, y < x → badX k d M n A xs y) ∧ Hid (∀ y : Nat, y < x → fitB k d M xs xs.length y = true → srch k d M r (xs ++ [(y : Int)]) = none) ∧ Hid (OwnI wr g n xs) ∧ Hid (w2.grownBy wr (some g))) (fun _ i _ => t - (intOf i).toNat)
    case atStart => exact ⟨0, 0, Nat.zero_le _, rfl, rfl, hid (fun i h => by simp at h), hid (fun y hy => absurd hy (by omega)), hid (fun y hy => absurd hy (by omega)), hid (HO.out.on HB2.out), hid (grown_of (Below.refl _ _) _)⟩
    case round =>
      obtain ⟨x, A, hx, rfl, rfl, hA, hbad, hnone, hOr, hGr⟩ := hrel
      obtain ⟨wi, rfl⟩ : ∃ wi : World, wi = wr := ⟨_, rfl⟩
      have HBw := hid (below_of (HB.out.trans (HB2.out.mono HB.out.size)) hGr.out hg)
      have HXi := hid (HX2.out.grown hGr.out hBc (by omega))
      have hc0 := HXi.out.c0
      have hc1 := HXi.out.c1
      have hcl := HXi.out.lt
      by_cases hlt : x < t
      · have hlt' : (x : Int) < (t : Int) := by omega
        obtain ⟨qj, cj, k2, hsj⟩ := Hrl.out.on HBw.out p (by rw [rowsM_len]; omega)
        obtain ⟨l, hl⟩ : ∃ l, (lI (rowsM M n) p).length = l := ⟨_, rfl⟩
        rw [hl] at k2
        have hl60 : l ≤ 60 := by have := row_len (M := M) (show p < n by omega); omega
        have HSJ := hid hsj
        have HLl := hid hl
        have HEn := hid (fun t (ht : t < l) => show 0 ≤ eI (lI (rowsM M n) p) t ∧ eI (lI (rowsM M n) p) t < p by
          obtain ⟨y, h1, h2, _⟩ := row_entry (M := M) (show p < n by omega) t (by rw [hl]; exact ht)
          rw [h1]; omega)
        clear hsj hl
        go_wp2
        go_still_tail 7, (by kernel_rfl)
        go_wp2_with fail
        refine (iClash_any k d x _ qj p n l cj xs (lI (rowsM M n) p) _ (by omega) hd (by omega) HL.out (by omega) (hOr.out.sees.on (Below.refl _ _).drew) (fun i hi => HSR.out i (by rw [HL.out]; exact hi)) HLl.out hl60 (HSJ.out.on (Below.refl _ _).drew) HEn.out).mono ?_
        rintro e' w5 ⟨⟨y, rfl, hcl5⟩, hb5⟩
        have HB5 := hid (show Below wi.heap.size wi w5 from ⟨hb5.os, hb5.tape, hb5.output, hb5.size, hb5.block⟩)
        have HCl := hid (clash_fit (show p < n by omega) hcl5)
        have HO5 := hid (hOr.out.on HB5.out)
        have HX5 := hid (HXi.out.on HB5.out)
        have HG5 := hid (grown_trans hGr.out (grown_of HB5.out _))
        have hd0 := HX5.out.c0
        have hd1 := HX5.out.c1
        have hdl := HX5.out.lt
        clear hb5 hcl5 hc0 hc1 k2
        by_cases hy : y = 0
        · subst hy
          have HF := hid (show fitB k d M xs p x = true by
            rcases HCl.out with h | ⟨s, _, _, h, _⟩
            · exact h.2
            · exact absurd h (Nat.ne_of_lt (Nat.two_pow_pos s)))
          have hpn1 : p + 1 ≤ n := by omega
          have HA5 : Hid (∀ w6, OwnI w6 g n (xs ++ [(x : Int)]) → w5.grownBy w6 (some g) → w6.cell? ⟨w.heap.size, 0, none⟩ = some (.int .i64 k) ∧ w6.cell? ⟨w.heap.size, 1, none⟩ = some (.int .i64 d) ∧ w.heap.size < w6.heap.size ∧ ∀ Z, Below w6.heap.size w6 Z →
              Calls Try.prog 128 #[.agg #[.int .i64 k, .int .i64 d], .slice (some ⟨br, orr, none⟩) n mc, .slice (some ⟨g, 0, none⟩) (p + 1) n] Z (GoPost k d M n g r (xs ++ [(x : Int)]) w5)) := hid fun w6 h6 hg6 => by
            have hX6 := HX5.out.grown hg6 hdl (by omega)
            refine ⟨hX6.c0, hX6.c1, hX6.lt, fun Z hZ => ?_⟩
            have hgz := grown_trans hg6 (grown_of hZ _)
            refine (IH.out (xs ++ [(x : Int)]) (p + 1) Z (by rw [List.length_append, HL.out]; rfl) (by omega) (suit_app HS.out (by omega) (by rw [HL.out]; exact HF.out)) (below_of (HBw.out.trans (HB5.out.mono HBw.out.size)) hgz hg) (h6.on hZ)).mono ?_
            rintro e w' ⟨q, l, c, R, fnd, he, h1, h2⟩
            exact ⟨q, l, c, R, fnd, he, grown_trans hgz h1, h2⟩
          clear HXi HSJ HLl HEn
          go_wp2
          go_region_law (first
            | (refine step_append_go rfl (.tmp 42) (.tmp 44) rfl j0 Hj.out hj1 (w5 := w5) (g := g) (n := n) (p := p) (xs := xs) (k := x) (by first | exact on_alloc _ _ | exact (on_alloc _ _).drew | exact bfrom (Below.refl _ _).drew (on_alloc _ _)) (by rfl) HO5.out HL.out hpn1 (by rfl) (cell_one_new w5 _ _) ?_; intro w6 hg6 hk6; obtain ⟨hx1, hx2, hz6, hih6⟩ := HA5.out w6 hg6 hk6; have HI6 := hid hih6)
            | (go_simp; go_at_call 128; refine (HI6.out _ (by first | exact Below.refl _ _ | exact (Below.refl _ _).drew | (simp only [bdn]; exact Below.refl _ _))).mono ?_; rintro e' w7 ⟨q, l, c, R, fnd, rfl, h7⟩; have H7 := hid h7; clear h7; dsimp only))
          all_goals
            have hG7 := H7.out.1
            cases fnd
            · rcases H7.out.2 with ⟨h, _⟩ | ⟨_, ⟨rfl, rfl, rfl⟩, hb, hbd, hO7⟩
              · cases h
              have hlx : (xs ++ [(x : Int)]).length = p + 1 := by rw [List.length_append, HL.out]; rfl
              have hR64 : R < 18446744073709551616 := pow_64 (bits_lt (fun i hi => by have := hb i hi; omega)) (show p < 60 by omega)
              have HBd := hid hbd
              have HBb := hid (fun i (hi : R.testBit i = true) => show i ≤ p by have := hb i hi; omega)
              have HO7 := hid hO7.first
              have HG7 := hid (grown_trans HG5.out hG7)
              have HNo := hid (hbd.none (r := r) (suit_app HS.out (by omega) (by rw [HL.out]; exact HF.out)) (by omega))
              have hX7 := HX5.out.grown hG7 hdl (by omega)
              clear hb hbd hO7 hlx
              cases hbit : R.testBit p
              · have hq : (bits BinOp.and IntKind.u64 ((R : Int) / 2 ^ p) 1 == 0) = true := by rw [go_bit hR64, hbit]; rfl
                have hbits : ∀ i, R.testBit i = true → i < xs.length := fun i hi => by
                  have h1 := HBb.out i hi
                  rw [HL.out]
                  rcases Nat.lt_or_ge i p with h2 | h2
                  · exact h2
                  · have : i = p := by omega
                    rw [this, hbit] at hi
                    cases hi
                have HFin := hid (show GoP k d M n g (r + 1) xs none 0 0 R false w w7 from ⟨grown_trans (grown_of HB2.out _) HG7.out, .inr ⟨rfl, ⟨rfl, rfl, rfl⟩, hbits, badR_behind HBd.out (by rw [HL.out]; exact hbit), HO7.out⟩⟩)
                clear hG7 hX7 hbits
                go_wp2
                go_ret3
                exact ⟨_, _, _, R, _, rfl, HFin.out⟩
              · have hq : (bits BinOp.and IntKind.u64 ((R : Int) / 2 ^ p) 1 == 0) = false := by rw [go_bit hR64, hbit]; rfl
                have HAR := hid (u64_or_nat A R (pow_64 (bits_lt hA.out) (show p < 60 by omega)) hR64)
                clear hG7 hX7
                go_wp2
                go_roundw
                case rel =>
                  refine ⟨x + 1, A ||| R, by omega, by rw [HAR.out], by go_num, hid (fun i hi => ?_), hid (fun y hy => ?_), hid (fun y hy hf => ?_), HO7, HG7⟩
                  · rw [Nat.testBit_or, Bool.or_eq_true] at hi
                    rcases hi with h | h
                    · exact hA.out i h
                    · exact HBb.out i h
                  · rcases Nat.lt_or_ge y x with h | h
                    · exact (hbad.out y h).more fun i _ hi => by rw [Nat.testBit_or, hi]; rfl
                    · obtain rfl : y = x := by omega
                      exact (badX_behind HBd.out).more fun i _ hi => by rw [Nat.testBit_or, hi, Bool.or_true]
                  · rcases Nat.lt_or_ge y x with h | h
                    · exact hnone.out y h hf
                    · obtain rfl : y = x := by omega
                      exact HNo.out
                case measure => simp [intOf]; omega
            · rcases H7.out.2 with ⟨_, ⟨rfl, e1, e2, rfl⟩, zs, hz, hO7, hzl⟩ | ⟨h, _⟩
              rotate_left
              · cases h
              obtain rfl := e1.symm
              obtain rfl := e2.symm
              have HFin := hid (show GoP k d M n g (r + 1) xs (some ⟨g, 0, none⟩) n n 0 true w w7 from ⟨grown_trans (grown_of HB2.out _) (grown_trans HG5.out hG7), .inl ⟨rfl, ⟨rfl, rfl, rfl, rfl⟩, zs, firstS_some (x := x) (fun y hy => by
                by_cases hf : fitB k d M xs xs.length y = true
                · rw [if_pos hf]; exact hnone.out y hy hf
                · rw [if_neg hf]) (by rw [if_pos (by rw [HL.out]; exact HF.out)]; exact hz) (by omega), hO7, hzl⟩⟩)
              clear hz hO7 hzl hG7
              go_wp2
              go_ret3
              exact ⟨_, _, _, 0, _, rfl, HFin.out⟩
        · have hy' : ((y : Int) == 0) = false := by simpa using hy
          obtain ⟨T, hT1, hT2, rfl, hT4, hT5⟩ : ∃ t, t < p ∧ M p t = true ∧ y = 2 ^ t ∧ apartB k d x (eI xs t) = false ∧ fitB k d M xs p x = false := by
            rcases HCl.out with h | h
            · exact absurd h.1 hy
            · exact h
          have HT4 := hid (And.intro hT2 (And.intro hT4 hT5))
          have h2T : (2 : Nat) ^ T < 18446744073709551616 := Nat.lt_of_lt_of_le (Nat.pow_lt_pow_right (by omega) (show T < 60 by omega)) (by decide)
          have HAR := hid (u64_or_nat A (2 ^ T) (pow_64 (bits_lt hA.out) (show p < 60 by omega)) h2T)
          obtain ⟨Y, hY⟩ : ∃ Y : Nat, 2 ^ T = Y := ⟨_, rfl⟩
          have HY := hid hY
          rw [hY] at hy' HAR ⊢
          clear hy hT2 hT4 hT5 h2T hY HCl
          go_wp2
          go_roundw
          case rel =>
            refine ⟨x + 1, A ||| Y, by omega, by rw [HAR.out], by go_num, hid (fun i hi => ?_), hid (fun y hy => ?_), hid (fun y hy hf => ?_), HO5, HG5⟩
            · rw [Nat.testBit_or, Bool.or_eq_true] at hi
              rcases hi with h | h
              · exact hA.out i h
              · rw [← HY.out, Nat.testBit_two_pow] at h
                have := of_decide_eq_true h
                omega
            · rcases Nat.lt_or_ge y x with h | h
              · exact (hbad.out y h).more fun i _ hi => by rw [Nat.testBit_or, hi]; rfl
              · obtain rfl : y = x := by omega
                refine (badX_clash (i := T) (by rw [HL.out]; exact hT1) (by rw [HL.out]; omega) (by rw [HL.out]; exact HT4.out.1) HT4.out.2.1).more fun i _ hi => ?_
                rw [HY.out] at hi
                rw [Nat.testBit_or, hi, Bool.or_true]
            · rcases Nat.lt_or_ge y x with h | h
              · exact hnone.out y h hf
              · obtain rfl : y = x := by omega
                rw [HL.out, HT4.out.2.2] at hf
                cases hf
          case measure => simp [intOf]; omega
      · obtain rfl : x = t := by omega
        have hA64 := pow_64 (bits_lt hA.out) (show p < 60 by omega)
        have h2p : (2 : Nat) ^ p < 18446744073709551616 := Nat.lt_of_lt_of_le (Nat.pow_lt_pow_right (by omega) (show p < 60 by omega)) (by decide)
        have hwp := wrap_pow (show p < 64 by omega)
        have HAN := hid (u64_andNot_nat A (2 ^ p) hA64 h2p)
        have HFin := hid (show GoP k d M n g (r + 1) xs none 0 0 (A &&& (18446744073709551615 - 2 ^ p)) false w wi from ⟨grown_trans (grown_of HB2.out _) hGr.out, .inr ⟨rfl, ⟨rfl, rfl, rfl⟩, fun i hi => by
          rw [andNot_bit (show p < 60 by omega), Bool.and_eq_true, Bool.and_eq_true] at hi
          have h1 := hA.out i hi.1
          have h2 : p ≠ i := by simpa using hi.2.2
          rw [HL.out]
          omega, (badR_all HTP.out (by rw [HL.out]; omega) hbad.out).more fun i hi h => by
          rw [HL.out] at hi
          rw [andNot_bit (show p < 60 by omega), h, decide_eq_true (show i < 64 by omega), decide_eq_false (show ¬ p = i by omega)]
          rfl, hOr.out⟩⟩)
        clear h2p hA64
        go_wp2
        first | (go_region; done) | go_region
        all_goals
          go_wp2
          go_ret3
          refine ⟨_, _, _, A &&& (18446744073709551615 - 2 ^ p), _, ?_, by first | exact HFin.out | exact HFin.out.drew⟩
          first
            | (rw [← HAN.out]; rfl)
            | (rw [← HAN.out, ← hwp]; rfl)
            | (simp only [HAN.out]; rfl)

end Go.Proofs.Ytonlpihbpbnnmaa
