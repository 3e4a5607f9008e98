/- All matchings in the model: l04List, l04All. -/
import Derived.Test.YtaafbdpdpndplaaMtA
import Derived.Laws.BitsAllLaws
import Derived.Test.YtaafbdpdpndplaaListP
import Derived.Test.YtaafbdpdpndplaaSpecAt
import Derived.Test.YtaafbdpdpndplaaSpecD
import Derived.Test.YtaafbdpdpndplaaRowsM
import Derived.Test.YtaafbdpdpndplaaOwnS
import Derived.Deep.AppendLies
import Derived.Deep.DeepMust
import Derived.Deep.RegionHeld3
import Derived.Deep.RegionLaw
import Derived.Deep.DeepCutAuto
import Derived.BigRegion
import Derived.BigQuiet

/- Marks as the digits of a number. No program is named here. -/
namespace Go.Proofs.Ytaafbdpdpndplaa
open Go.RowKit

theorem i64_and_nat (a b : Nat) (ha : a < 9223372036854775808) (hb : b < 9223372036854775808) : bits .and .i64 (a : Int) (b : Int) = ((a &&& b : Nat) : Int) := by
  have hx : a &&& b < 2 ^ 63 := Nat.and_lt_two_pow _ (by omega)
  show IntKind.i64.wrap ((BitVec.ofInt 64 (a : Int) &&& BitVec.ofInt 64 (b : Int)).toNat : Int) = _
  rw [BitVec.toNat_and, ofInt_u64 a (by omega), ofInt_u64 b (by omega)]
  exact IntWalk.i64_in _ (by omega)
theorem i64_or_nat (a b : Nat) (ha : a < 9223372036854775808) (hb : b < 9223372036854775808) : bits .or .i64 (a : Int) (b : Int) = ((a ||| b : Nat) : Int) := by
  have hx : a ||| b < 2 ^ 63 := Nat.or_lt_two_pow (by omega) (by omega)
  show IntKind.i64.wrap ((BitVec.ofInt 64 (a : Int) ||| BitVec.ofInt 64 (b : Int)).toNat : Int) = _
  rw [BitVec.toNat_or, ofInt_u64 a (by omega), ofInt_u64 b (by omega)]
  exact IntWalk.i64_in _ (by omega)
theorem i64_bit (M k : Nat) (hM : M < 9223372036854775808) : bits .and .i64 ((M : Int) / 2 ^ k) 1 = ((M / 2 ^ k % 2 : Nat) : Int) := by
  have h1 : ((M : Int) / 2 ^ k) = ((M / 2 ^ k : Nat) : Int) := by
    rw [Int.natCast_ediv]
    congr 1
  have h2 : M / 2 ^ k ≤ M := Nat.div_le_self _ _
  rw [h1, show (1 : Int) = ((1 : Nat) : Int) from rfl, i64_and_nat _ _ (by omega) (by omega), nat_mask1]

/-- The digits of a number are the marks. -/
def BitM (M : Nat) (ms : List Bool) : Prop := M < 1048576 ∧ ∀ i, i < 20 → M.testBit i = eL ms i
theorem BitM.one {M k : Nat} {ms : List Bool} (h : BitM M ms) (hk : k < 20) : (bits .and .i64 ((M : Int) / 2 ^ k) 1 == 1) = eL ms k := by
  rw [i64_bit M k (by have := h.1; omega), ← h.2 k hk, Nat.testBit_eq_decide_div_mod_eq]
  rcases Nat.mod_two_eq_zero_or_one (M / 2 ^ k) with e | e <;> rw [e] <;> rfl
theorem BitM.zero {M k : Nat} {ms : List Bool} (h : BitM M ms) (hk : k < 20) : (bits .and .i64 ((M : Int) / 2 ^ k) 1 == 0) = !(eL ms k) := by
  rw [i64_bit M k (by have := h.1; omega), ← h.2 k hk, Nat.testBit_eq_decide_div_mod_eq]
  rcases Nat.mod_two_eq_zero_or_one (M / 2 ^ k) with e | e <;> rw [e] <;> rfl
theorem bitM_none : BitM 0 (List.replicate 20 false) := ⟨by omega, fun i hi => by
  rw [Nat.zero_testBit]
  unfold eL
  rw [List.getD_eq_getElem?_getD, List.getElem?_replicate, if_pos hi]
  rfl⟩
theorem pow_small {v : Nat} (hv : v < 20) : 2 ^ v < 1048576 := by
  have h := Nat.pow_lt_pow_right (a := 2) (by omega) hv
  simpa using h
theorem BitM.mark {M V U : Nat} {ms : List Bool} (h : BitM M ms) (hl : ms.length = 20) (hV : V < 20) (hU : U < 20) : BitM ((M ||| 2 ^ V) ||| 2 ^ U) (markV ms V U) := by
  have h1 := pow_small hV
  have h2 := pow_small hU
  refine ⟨Nat.or_lt_two_pow (n := 20) (Nat.or_lt_two_pow (n := 20) h.1 h1) h2, fun i hi => ?_⟩
  rw [Nat.testBit_or, Nat.testBit_or, h.2 i hi, Nat.testBit_two_pow, Nat.testBit_two_pow, markV_at (by omega) (by omega)]
  by_cases e1 : i = V
  · by_cases e2 : i = U
    · subst e1; simp
    · subst e1; simp
  · by_cases e2 : i = U
    · subst e2; simp
    · have e1' : ¬ V = i := fun e => e1 e.symm
      have e2' : ¬ U = i := fun e => e2 e.symm
      simp [e1, e2, e1', e2']
theorem mark_or {M V : Nat} (hM : M < 1048576) (hV : V < 20) : bits .or .i64 (M : Int) (2 ^ V) = ((M ||| 2 ^ V : Nat) : Int) := by
  have h1 := pow_small hV
  have h2 : ((2 : Int) ^ V) = ((2 ^ V : Nat) : Int) := by simp
  rw [h2, i64_or_nat _ _ (by omega) (by omega)]
theorem or_small {M V : Nat} (hM : M < 1048576) (hV : V < 20) : M ||| 2 ^ V < 1048576 := Nat.or_lt_two_pow (n := 20) hM (pow_small hV)
theorem wrap_pow {V : Nat} (hV : V < 20) : wrap64 (2 ^ V) = 2 ^ V := by
  have h1 := pow_small hV
  have h2 : ((2 : Int) ^ V) = ((2 ^ V : Nat) : Int) := by simp
  rw [h2]
  obtain ⟨p, hp⟩ : ∃ p, 2 ^ V = p := ⟨_, rfl⟩
  rw [hp] at h1 ⊢
  exact IntWalk.wrap64_in _ (by omega)

theorem shl_pow {V : Nat} (hV : V < 20) : IntKind.i64.wrap (2 ^ min (IntKind.u64.wrap (V : Int)).toNat 64) = 2 ^ V := by
  have h : IntKind.u64.wrap (V : Int) = (V : Int) := by rw [IntKind.wrap_u64]; omega
  rw [h, Int.toNat_natCast, Nat.min_eq_left (by omega), IntWalk.i64_left]
  exact wrap_pow hV

end Go.Proofs.Ytaafbdpdpndplaa

namespace Go.Proofs.Ytaafbdpdpndplaa
open Go.RowKit

set_option maxRecDepth 100000 in
set_option maxHeartbeats 16000000 in
theorem sMt_base (N : Nat) (b off n c0 B gc cd K L cap M : Nat) (c : List Int) (ms : List Bool) (Ls : List (List Int)) (q : Option Addr) (vals : List Value) (w : World) (hK : c.length = K) (hK10 : K ≤ 10) (hO : OwnI w gc cd c) (hR : RowsM w B Ls cap q vals) (hL : Ls.length = L) (hL9 : L ≤ 60000) (hN20 : N ≤ 20) (hM : BitM M ms) (hu : unmF ms N = 0) (hB : B ≤ w.heap.size) :
    Calls Try.prog 22 #[.agg #[.int .i64 N, .slice (some ⟨b, off, none⟩) n c0], .slice (some ⟨gc, 0, none⟩) K cd, .int .i64 M, .slice q L cap] w fun e' w' => ListPost B (Ls ++ [c]) q w e' w' := by
  have HK := hid hK
  have HO := hid hO
  have HR := hid hR
  have HL := hid hL
  have HM := hid hM
  have hgcw := hO.lt
  have HMet := hid (show ∀ j, j < N → eL ms j = true from fun j hj => lstF_met ms N j (by rw [unmF_zero hu]; exact hj))
  obtain ⟨s0, hs, hs0, hs1, hs2⟩ := info_parts infoSlR
  have Hs := hid hs
  clear hK hO hR hL hs hM hu
  go_enter Try.func22, Try.ntmps22
  obtain ⟨w1, hw1⟩ : ∃ w1, w1 = w.alloc (.cells #[.int .i64 N, .slice (some ⟨b, off, none⟩) n c0] 30) := ⟨_, rfl⟩
  have HB1 := hid (show Below w.heap.size w w1 by rw [hw1]; exact on_alloc _ _)
  have HX1 := hid (show Box w1 w.heap.size N (some ⟨b, off, none⟩) n c0 by rw [hw1]; exact Box.new _ _ _ _ _ _)
  have hx1 := HX1.out.1
  have hz1 := HX1.out.lt
  go_wp2_with fail
  rw [← hw1]
  clear hw1
  go_loop [9] (fun i => ∃ k : Nat, k ≤ N ∧ i = .int .i64 k) (fun i => N - (intOf i).toNat)
  case atStart => exact ⟨0, Nat.zero_le _, rfl⟩
  case round =>
    obtain ⟨k, hk, rfl⟩ := hrel
    by_cases hlt : k < N
    · have hlt' : (k : Int) < (N : Int) := by omega
      have hbit : (bits .and .i64 ((M : Int) / 2 ^ k) 1 == 1) = true := by rw [HM.out.one (by omega)]; exact HMet.out k hlt
      go_wp2_with fail
      go_round
      case rel => exact ⟨k + 1, by omega, by go_num⟩
      case measure => simp [intOf]; omega
    · obtain rfl : k = N := by omega
      go_wp2_with fail
      refine (sOwnI_any gc 0 K cd c w1 HK.out (by omega) (HO.out.on HB1.out).reads (by omega)).mono ?_
      rintro e' w2 ⟨g2, cap2, rfl, hg2, ho2, hb2⟩
      have HB2 := hid (bfrom HB1.out hb2)
      have HO2 := hid ho2
      have hz2 := HB2.out.size
      clear hb2 ho2 hx1
      have HPa := hid ((HR.out.kept (w' := w2) (fun i _ h => HB2.out.block i h)).kept (w' := w2.alloc (.cells #[.slice (some ⟨g2, 0, none⟩) K cap2] 46)) (fun i _ h => heap_alloc_old _ _ h))
      go_wp2_with (at_builtin; go_must (refine wpList_append_lies _ rfl (.tmp 31) (.tmp 34) 36 rfl B 46 s0 (.slice none 0 0) 1 24 Try.underlying36 Hs.out hs0 hs1 hs2 rfl (by decide) (.slice q L cap) L vals rfl (by have h := HPa.out.1; rw [HL.out] at h; exact h) ⟨w2.heap.size, 0, none⟩ 1 1 [.slice (some ⟨g2, 0, none⟩) K cap2] rfl rfl (World.news_of_block (cs := #[.slice (some ⟨g2, 0, none⟩) K cap2]) (t := 46) (fr := (0, 0)) (heap_alloc_new _ _)) (by simp [Value.oneCell']) (by decide) (by unfold maxLen; omega) (by omega) (by simp; omega) (w2.heap.size + 1) (by simp) ?_); intro g8 cap8 w8 hown8 hgrow8 hlie8 hg8; have Hown8 := hid hown8; have Hgrow8 := hid hgrow8; have Hlie8 := hid hlie8; clear hown8 hgrow8 hlie8)
      go_ret
      refine ⟨some ⟨g8, 0, none⟩, cap8, vals ++ [.slice (some ⟨g2, 0, none⟩) K cap2], by rw [List.length_append, HL.out]; rfl, ?_, ?_, ?_⟩
      · exact RowsM.push (m := K) HPa.out (HO2.out.alloc _) (by omega) HK.out (by rw [HL.out]; exact Hown8.out) (by rw [HL.out]; exact Hgrow8.out)
      · exact grown_row (bfrom HB2.out (on_alloc _ _)) (by rw [← rowOf_own q L cap]; exact Hgrow8.out)
      · rcases Hlie8.out with h | h
        · rw [rowOf_own] at h
          rcases hq : q with _ | a
          · rw [hq] at h; cases h
          · refine .inl ?_
            rcases HR.out.1.2 with ⟨h2, _⟩ | ⟨g', c', cur, h2, _⟩
            · rw [hq] at h2; cases h2
            · injection h2 with h3
              rw [hq] at h3 h
              have h4 := Option.some.inj h3
              subst h4
              have h5 : g' = g8 := Option.some.inj h
              subst h5
              rfl
        · exact .inr ⟨g8, rfl, by omega⟩

/-- The edges at a vertex as the model has them. -/
theorem onL_get {N V k : Nat} {es : List (Int × Int)} (g : IsG N es) (hV : V < N) (hk : k < 3) : ∃ f : Nat, (onL es (V : Int))[k]? = some f ∧ eI (atF es V) k = f ∧ f < es.length ∧ onE es V f = true ∧ (onL es (V : Int)).take (k + 1) = (onL es (V : Int)).take k ++ [f] := by
  have h3 := atF_three g (v := (V : Int)) (by omega) (by omega)
  have h4 := h3
  rw [onL_at, List.length_map] at h4
  have hkl : k < (onL es (V : Int)).length := by omega
  refine ⟨(onL es (V : Int))[k], List.getElem?_eq_getElem hkl, ?_, (onL_mem.1 (List.getElem_mem hkl)).1, (onL_mem.1 (List.getElem_mem hkl)).2, by rw [List.take_add_one, List.getElem?_eq_getElem hkl]; rfl⟩
  rw [eI_lt (by omega)]
  simp [onL_at]
theorem onL_all {N V : Nat} {es : List (Int × Int)} (g : IsG N es) (hV : V < N) : (onL es (V : Int)).take 3 = onL es V := by
  have h4 := atF_three g (v := (V : Int)) (by omega) (by omega)
  rw [onL_at, List.length_map] at h4
  exact List.take_of_length_le (by omega)

set_option maxRecDepth 100000 in
set_option maxHeartbeats 32000000 in
theorem sMt_step (N : Nat) (b off n c0 B H r : Nat) (es : List (Int × Int)) (g : IsG N es) (hn : es.length = n) (hb : b < B)
    (ih : ∀ (c : List Int) (K gc cd L cap M : Nat) (ms : List Bool) (Ls : List (List Int)) (q : Option Addr) (vals : List Value) (w : World), c.length = K → K + r = H → OwnI w gc cd c → ReadsE w b off es → RowsM w B Ls cap q vals → Ls.length = L → L + 3 ^ r ≤ 60000 → BitM M ms → ms.length = 20 → unmF ms N = 2 * r → B ≤ w.heap.size →
      Calls Try.prog 22 #[.agg #[.int .i64 N, .slice (some ⟨b, off, none⟩) n c0], .slice (some ⟨gc, 0, none⟩) K cd, .int .i64 M, .slice q L cap] w fun e' w' => ListPost B (Ls ++ mtF N es r c ms) q w e' w')
    (c : List Int) (K gc cd L cap M : Nat) (ms : List Bool) (Ls : List (List Int)) (q : Option Addr) (vals : List Value) (w : World) (hK : c.length = K) (hKr : K + (r + 1) = H) (hH : H ≤ 10) (hO : OwnI w gc cd c) (hr : ReadsE w b off es) (hR : RowsM w B Ls cap q vals) (hL : Ls.length = L) (hL9 : L + 3 ^ (r + 1) ≤ 60000) (hM : BitM M ms) (hl : ms.length = 20) (hu : unmF ms N = 2 * (r + 1)) (hB : B ≤ w.heap.size) :
    Calls Try.prog 22 #[.agg #[.int .i64 N, .slice (some ⟨b, off, none⟩) n c0], .slice (some ⟨gc, 0, none⟩) K cd, .int .i64 M, .slice q L cap] w fun e' w' => ListPost B (Ls ++ mtF N es (r + 1) c ms) q w e' w' := by
  have hN20 : N ≤ 20 := by have := g.1.1.2.1; omega
  have hn30 : n ≤ 30 := by have := isG_len g; omega
  obtain ⟨V, hV⟩ : ∃ V, lstF ms N = V := ⟨_, rfl⟩
  have hVN : V < N := by rw [← hV]; exact unmF_pos (by omega)
  have hVf : eL ms V = false := by rw [← hV]; exact lstF_free ms N (by rw [hV]; exact hVN)
  have HMet := hid (show ∀ j, j < V → eL ms j = true from fun j hj => lstF_met ms N j (by rw [hV]; exact hj))
  have hgcw := hO.lt
  have hbw : b < w.heap.size := by omega
  have HF := hid (show mtF N es (r + 1) c ms = mtQ es (mtF N es r) V c ms (onL es V) by rw [mtF_succ, hV]; rfl)
  have HK := hid hK
  have HKr := hid hKr
  have HO := hid hO
  have Hr := hid hr
  have HR := hid hR
  have HL := hid hL
  have HL9 := hid hL9
  have HM := hid hM
  have Hl := hid hl
  have Hu := hid hu
  have HIH := hid ih
  have G := hid g
  have Hn := hid hn
  have HVf := hid hVf
  obtain ⟨i0, hi, hy0, hy1', hy2'⟩ := info_parts infoInt
  have Hi := hid hi
  have HA3 := hid (atF_three g (v := (V : Int)) (by omega) (by omega))
  clear hK hKr hO hr hR hL hL9 hM hl hu ih hi g hn hV hVf
  go_enter Try.func22, Try.ntmps22
  obtain ⟨w1, hw1⟩ : ∃ w1, w1 = w.alloc (.cells #[.int .i64 N, .slice (some ⟨b, off, none⟩) n c0] 30) := ⟨_, rfl⟩
  have HB1 := hid (show Below w.heap.size w w1 by rw [hw1]; exact on_alloc _ _)
  have HX1 := hid (show Box w1 w.heap.size N (some ⟨b, off, none⟩) n c0 by rw [hw1]; exact Box.new _ _ _ _ _ _)
  have hx1 := HX1.out.1
  have hy1 := HX1.out.2
  have hz1 := HX1.out.lt
  have hV20 : V < 20 := by omega
  go_wp2_with fail
  rw [← hw1]
  clear hw1
  go_loop [9] (fun i => ∃ k : Nat, k ≤ V ∧ i = .int .i64 k) (fun i => V - (intOf i).toNat)
  case atStart => exact ⟨0, Nat.zero_le _, rfl⟩
  case round =>
    obtain ⟨k, hk, rfl⟩ := hrel
    by_cases hlt : k < V
    · have hlt' : (k : Int) < (N : Int) := by omega
      have hbit : (bits .and .i64 ((M : Int) / 2 ^ k) 1 == 1) = true := by rw [HM.out.one (by omega)]; exact HMet.out k hlt
      go_wp2_with fail
      go_round
      case rel => exact ⟨k + 1, by omega, by go_num⟩
      case measure => simp [intOf]; omega
    · have ekV : V = k := by omega
      subst ekV
      have hlt' : (V : Int) < (N : Int) := by omega
      have hbit : (bits .and .i64 ((M : Int) / 2 ^ V) 1 == 1) = false := by rw [HM.out.one (by omega)]; exact HVf.out
      have hne : ((V : Int) == (N : Int)) = false := by simp; omega
      go_wp2_with fail
      refine (sAt_any N V b off n c0 es _ Hn.out hn30 (Hr.out.on HB1.out)).mono ?_
      rw [HA3.out]
      rintro e w2 ⟨qa, ca, rfl, hf2, hb2⟩
      obtain ⟨ga, rfl, hga, hoa⟩ : ∃ g, qa = some ⟨g, 0, none⟩ ∧ w1.heap.size ≤ g ∧ OwnI w2 g ca (atF es V) := by
        rcases hf2.form with ⟨_, h, _⟩ | h
        · omega
        · exact h
      have HB2 := hid (bfrom HB1.out hb2)
      have HX2 := hid (HX1.out.on hb2)
      have HOa := hid hoa
      have hzw := HB1.out.size
      have hz2 := HB2.out.size
      clear hb2 hf2 hoa hx1 hy1
      have HR2 := hid (HR.out.kept (w' := w2) (fun i _ h => HB2.out.block i h))
      have HT0 := hid (show Ls ++ mtQ es (mtF N es r) V c ms ((onL es V).take 0) = Ls by simp [mtQ])
      have hrow2 : ∀ B', some B' = rowOf q → B ≤ B' ∧ B' < w2.heap.size ∧ ∃ cur fr, w2.heap[B']? = some (.cells cur 46 fr) := fun B' e => by
        rcases HR2.out.1.2 with ⟨h, _⟩ | ⟨g', c', cur, h, hb', hc', _⟩
        · injection h with h1
          rw [h1] at e
          cases e
        · injection h with h1
          rw [h1] at e
          obtain rfl : B' = g' := Option.some.inj e
          exact ⟨hb', (Array.getElem?_eq_some_iff.1 hc').1, cur, _, hc'⟩
      have HRow2 := hid hrow2
      clear hrow2
      go_wp2
      go_loopw [11, 3] (fun u v wr => ∃ (k T cap' : Nat) (q' : Option Addr) (vals' : List Value), k ≤ 3 ∧ u = .int .i64 k ∧ v = .slice q' T cap' ∧ Hid (T = (Ls ++ mtQ es (mtF N es r) V c ms ((onL es V).take k)).length) ∧ Hid (RowsM wr B (Ls ++ mtQ es (mtF N es r) V c ms ((onL es V).take k)) cap' q' vals') ∧ Hid (w2.grownBy wr (rowOf q) ∧ SameOr q q' w2.heap.size)) (fun u _ _ => 3 - (intOf u).toNat)
      case atStart => exact ⟨0, L, cap, q, vals, by omega, rfl, rfl, hid (by rw [HT0.out]; exact HL.out.symm), hid (by rw [HT0.out]; exact HR2.out), hid ⟨World.grownBy.refl _ _, .inl rfl⟩⟩
      case round =>
        obtain ⟨k, T, cap', q', vals', hk, rfl, rfl, hT, hRw, hGr⟩ := hrel
        clear hlt
        have hzr := hGr.out.1.size
        obtain ⟨wo, rfl⟩ : ∃ wo : World, wo = wr := ⟨_, rfl⟩
        have hbox : some w.heap.size ≠ rowOf q := fun e => by
          have := HR.out.1.lt w.heap.size (by rw [rowOf_own]; exact e.symm)
          omega
        have HXr := hid (HX2.out.kept hGr.out.1 hbox)
        have hxr := HXr.out.1
        have hyr := HXr.out.2
        have hzB := HXr.out.lt
        have HRr := hid (((Hr.out.on HB2.out)).grownR hb (by omega) HR2.out.1 hGr.out.1)
        have HCr := hid (OwnI.grownR (HO.out.on HB2.out) HR2.out.1 hGr.out.1)
        have HAr := hid (OwnI.grownR HOa.out HR2.out.1 hGr.out.1)
        by_cases hk3 : k < 3
        · have hk3' : (k : Int) < 3 := by omega
          obtain ⟨f, hfg, hfe, hfl, hfo, htk⟩ := onL_get G.out hVN hk3
          have hout := oth_in (endsIn_of G.out) hfl hfo
          obtain ⟨U, hU⟩ : ∃ U : Nat, othE es V f = U := ⟨_, (Int.toNat_of_nonneg hout.1).symm⟩
          have hUN : U < N := by rw [hU] at hout; omega
          have hUV : V ≠ U := fun e => by
            have h1 := G.out.1.2 f hfl
            unfold okEdge at h1
            unfold othE at hU
            unfold onE at hfo
            simp only [Bool.or_eq_true, beq_iff_eq] at hfo
            omega
          have hcf := HAr.out.reads k (by rw [HA3.out]; exact hk3)
          rw [Nat.zero_add, hfe] at hcf
          have hgal := HAr.out.lt
          have HFL := hid hfl
          have HUo := hid hU
          have HTk := hid (show mtQ es (mtF N es r) V c ms ((onL es V).take (k + 1)) = mtQ es (mtF N es r) V c ms ((onL es V).take k) ++ mtG es (mtF N es r) V c ms f by rw [htk, mtQ_snoc])
          have hok := G.out.1.2 f hfl
          have hs20 := G.out.1.1.2.1
          have HOk := hid hok
          clear hfg hfe hfl hfo htk hout hU hok
          go_wp2
          go_still_tail 6, (by kernel_rfl)
          go_wp2_with fail
          refine (sOther_any N f V b off n c0 f es _ (by omega) Hn.out (HRr.out.on (Below.refl _ _).drew) rfl (by have := Hn.out; have := HFL.out; omega) ⟨HOk.out.1, by have := HOk.out.2.1; omega⟩ ⟨HOk.out.2.2.1, by have := HOk.out.2.2.2.1; omega⟩ (by omega)).mono ?_
          rw [show eA es f + eB es f - (V : Int) = (U : Int) from HUo.out]
          rintro e w3 ⟨rfl, hb3⟩
          have HB3 := hid (show Below wo.heap.size wo w3 from ⟨hb3.os, hb3.tape, hb3.output, hb3.size, hb3.block⟩)
          have hz3 := HB3.out.size
          have hU20 : U < 20 := by omega
          cases hmet : eL ms U
          · have HMe := hid hmet
            have hbit : (bits .and .i64 ((M : Int) / 2 ^ U) 1 == 0) = true := by rw [HM.out.zero hU20, hmet]; rfl
            clear hb3 hmet
            have hx3 := ((bcells HB3.out).1 _ _ hzB).trans hxr
            have hy3 := ((bcells HB3.out).1 _ _ hzB).trans hyr
            have ha3 := ((bcells HB3.out).1 _ _ hgal).trans hcf
            have HR3 := hid (hRw.out.kept (w' := w3) (fun i _ h => HB3.out.block i h))
            have HC3 := hid (HCr.out.on HB3.out)
            clear hxr hyr hcf
            obtain ⟨M1, hM1⟩ : ∃ M1, M ||| 2 ^ V = M1 := ⟨_, rfl⟩
            obtain ⟨M2, hM2⟩ : ∃ M2, M1 ||| 2 ^ U = M2 := ⟨_, rfl⟩
            have hM1s : M1 < 1048576 := by rw [← hM1]; exact or_small HM.out.1 hV20
            have ho1 : bits .or .i64 (M : Int) (2 ^ V) = (M1 : Int) := by rw [← hM1]; exact mark_or HM.out.1 hV20
            have ho2 : bits .or .i64 (M1 : Int) (2 ^ U) = (M2 : Int) := by rw [← hM2]; exact mark_or hM1s hU20
            have hs1 : IntKind.i64.wrap (2 ^ min (IntKind.u64.wrap (V : Int)).toNat 64) = 2 ^ V := shl_pow hV20
            have hs2 : IntKind.i64.wrap (2 ^ min (IntKind.u64.wrap (U : Int)).toNat 64) = 2 ^ U := shl_pow hU20
            have HBit := hid (show BitM M2 (markV ms V U) by rw [← hM2, ← hM1]; exact HM.out.mark Hl.out hV20 hU20)
            have HUnm := hid (show unmF (markV ms V U) N = 2 * r by have h1 := markV_unm (N := N) (by have := Hl.out; omega) hVN hUN hUV HVf.out HMe.out; have := Hu.out; omega)
            have HTl := hid (show T + 3 ^ r ≤ 60000 by
              have h1 := mtQ_le (es := es) (v := V) (c := c) (ms := ms) (mtF_le G.out r) ((onL es V).take k)
              have h2 : ((onL es V).take k).length * 3 ^ r ≤ 2 * 3 ^ r := Nat.mul_le_mul_right _ (by rw [List.length_take]; omega)
              have h3 := HL9.out
              rw [Nat.pow_succ] at h3
              have h4 := hT.out
              rw [List.length_append, HL.out] at h4
              omega)
            have HEq := hid (show Ls ++ mtQ es (mtF N es r) V c ms ((onL es V).take k) ++ mtF N es r (c ++ [(f : Int)]) (markV ms V U) = Ls ++ mtQ es (mtF N es r) V c ms ((onL es V).take (k + 1)) by rw [HTk.out, mtG_yes HUo.out HMe.out, List.append_assoc])
            have hK10 : K ≤ 1000 := by have := HKr.out; omega
            have hK9 : K ≤ 1048576 := by omega
            have hbox' : some w.heap.size ≠ rowOf q' := fun e => by
              rcases hGr.out.2 with h | ⟨g9, h, hg9⟩
              · rw [h] at e
                exact hbox e
              · rw [h] at e
                have : w.heap.size = g9 := Option.some.inj e
                have := HX2.out.lt
                omega
            have hat' : some ga ≠ rowOf q' := own_other hRw.out.1 HAr.out
            have HRd3 := hid (HRr.out.on HB3.out)
            have hzB3 : w.heap.size < w3.heap.size := by omega
            have hga3 : ga < w3.heap.size := by omega
            have hBB3 : B ≤ w3.heap.size := by omega
            have HK1 := hid (show K + 1 + r = H by have := HKr.out; omega)
            clear hM1 hM2
            go_wp2
            go_region_held3 (fun w' => w'.cell? ⟨w.heap.size, 0, none⟩ = some (.int .i64 N) ∧ w'.cell? ⟨w.heap.size, 1, none⟩ = some (.slice (some ⟨b, off, none⟩) n c0) ∧ w'.cell? ⟨ga, k, none⟩ = some (.int .i64 f)) (first | go_keep | exact ⟨hx8, hy8, ha8⟩ | exact ⟨hx7, hy7, ha7⟩ | exact ⟨hx6, hy6, ha6⟩) (first
              | (go_at_call 31; refine (sOwnI_any gc 0 K cd c _ HK.out hK9 (HC3.out.on (by first | exact (Below.refl _ _).drew | exact bfrom (Below.refl _ _).drew (on_alloc _ _) | exact (on_alloc _ _).drew)).reads (HC3.out.on (by first | exact (Below.refl _ _).drew | exact bfrom (Below.refl _ _).drew (on_alloc _ _) | exact (on_alloc _ _).drew)).lt).mono ?_; rintro e' w6 ⟨g6, cap6, rfl, hg6, ho6, hb6⟩; have hB6 : Below w3.heap.size w3 w6 := bfrom (by first | exact (Below.refl _ _).drew | exact bfrom (Below.refl _ _).drew (on_alloc _ _) | exact (on_alloc _ _).drew) hb6; have hz6 := hB6.size; have hx6 := ((bcells hB6).1 _ _ hzB3).trans hx3; have hy6 := ((bcells hB6).1 _ _ hzB3).trans hy3; have ha6 := ((bcells hB6).1 _ _ hga3).trans ha3; have hg6' : w3.heap.size ≤ g6 := (by first | exact hg6 | exact Nat.le_trans (by simp) hg6); (first | (have hnews : w6.cell? ⟨w3.heap.size, 0, none⟩ = some (.int .i64 (f : Int)) := ((bcells hb6).1 w3.heap.size 0 (new_lt w3 _)).trans (new_at w3 _ 2)) | skip))
              | ((first | (refine step_copy_push (by rfl) (.tmp 58) (.tmp 63) (by rfl) g6 cap6 K w3.heap.size w3.heap.size f c (by rfl) (by rfl) ho6 HK.out hg6' hz6 hK10 hnews ?_) | (refine step_copy_push (by rfl) (.tmp 58) (.tmp 63) (by rfl) g6 cap6 K w6.heap.size w3.heap.size f c (by rfl) (by rfl) (ho6.alloc _) HK.out hg6' (Nat.le_trans hz6 (by simp)) hK10 (by simp) ?_)); intro g7 cap7 w7 ho7 hb7 hg7; have hB7 : Below w3.heap.size w3 w7 := (by first | exact hB6.trans hb7 | exact (hB6.alloc hz6 _).trans hb7); have hx7 := ((bcells hB7).1 _ _ hzB3).trans hx3; have hy7 := ((bcells hB7).1 _ _ hzB3).trans hy3; have ha7 := ((bcells hB7).1 _ _ hga3).trans ha3)
              | (go_at_call 22; refine (HIH.out (c ++ [(f : Int)]) (K + 1) g7 cap7 T cap' M2 (markV ms V U) (Ls ++ mtQ es (mtF N es r) V c ms ((onL es V).take k)) q' vals' _ (by rw [List.length_append, HK.out]; rfl) HK1.out ho7 (HRd3.out.on hB7) (HR3.out.kept (fun i _ h => hB7.block i h)) hT.out.symm HTl.out HBit.out (by rw [markV_len]; exact Hl.out) HUnm.out (Nat.le_trans hBB3 hB7.size)).mono ?_; rintro e' w8 ⟨q8, cap8, vals8, he8, hr8, hg8, hs8⟩; obtain ⟨T8, hT8⟩ : ∃ T8, (Ls ++ mtQ es (mtF N es r) V c ms ((onL es V).take k) ++ mtF N es r (c ++ [(f : Int)]) (markV ms V U)).length = T8 := ⟨_, rfl⟩; rw [hT8] at he8; subst he8; have HT8 := hid hT8; clear hT8; have hx8 := (hg8.cell_far (a := ⟨w.heap.size, 0, none⟩) (Nat.lt_of_lt_of_le hzB3 hB7.size) hbox').trans hx7; have hy8 := (hg8.cell_far (a := ⟨w.heap.size, 1, none⟩) (Nat.lt_of_lt_of_le hzB3 hB7.size) hbox').trans hy7; have ha8 := (hg8.cell_far (a := ⟨ga, k, none⟩) (Nat.lt_of_lt_of_le hga3 hB7.size) hat').trans ha7))
            all_goals
              have HR8 := hid hr8
              have HG8 := hid (And.intro (grown_next hGr.out.1 hGr.out.2 (grown_row (HB3.out.trans (hB7.mono hz3)) hg8)) (hGr.out.2.next hs8 (by have := hB7.size; omega)))
              clear hr8 hg8 hs8 ho1 ho2 hs1 hs2
              go_wp2
              go_roundw
              case rel => exact ⟨k + 1, T8, cap8, q8, vals8, by omega, by go_num, rfl, hid (by rw [← HEq.out]; exact HT8.out.symm), hid (by rw [← HEq.out]; exact HR8.out), HG8⟩
              case measure => simp [intOf]; omega
          · have hbit : (bits .and .i64 ((M : Int) / 2 ^ U) 1 == 0) = false := by rw [HM.out.zero hU20, hmet]; rfl
            have HMe := hid hmet
            clear hb3 hmet
            go_wp2
            go_roundw
            case rel => exact ⟨k + 1, T, cap', q', vals', by omega, by go_num, rfl, hid (by rw [HTk.out, mtG_no HUo.out HMe.out, List.append_nil]; exact hT.out), hid (by rw [HTk.out, mtG_no HUo.out HMe.out, List.append_nil]; exact hRw.out.kept (fun i _ h => HB3.out.block i h)), hid ⟨hGr.out.1.trans (grown_of (w := wo) HB3.out _), hGr.out.2⟩⟩
            case measure => simp [intOf]; omega
        · have hk3' : ¬ ((k : Int) < 3) := by omega
          have HE := hid (show mtQ es (mtF N es r) V c ms ((onL es V).take k) = mtF N es (r + 1) c ms by rw [show k = 3 by omega, onL_all G.out hVN]; exact HF.out.symm)
          go_wp2
          go_ret
          rw [HE.out] at hRw hT
          exact ⟨q', cap', vals', by rw [← hT.out]; rfl, hRw.out, grown_row HB2.out hGr.out.1, (by rcases hGr.out.2 with h | ⟨g, e, h⟩; exact .inl h; exact .inr ⟨g, e, by omega⟩)⟩

theorem sMt_any (N : Nat) (b off n c0 B H : Nat) (es : List (Int × Int)) (g : IsG N es) (hn : es.length = n) (hb : b < B) (hH : H ≤ 10) : ∀ (r : Nat) (c : List Int) (K gc cd L cap M : Nat) (ms : List Bool) (Ls : List (List Int)) (q : Option Addr) (vals : List Value) (w : World), c.length = K → K + r = H → OwnI w gc cd c → ReadsE w b off es → RowsM w B Ls cap q vals → Ls.length = L → L + 3 ^ r ≤ 60000 → BitM M ms → ms.length = 20 → unmF ms N = 2 * r → B ≤ w.heap.size →
      Calls Try.prog 22 #[.agg #[.int .i64 N, .slice (some ⟨b, off, none⟩) n c0], .slice (some ⟨gc, 0, none⟩) K cd, .int .i64 M, .slice q L cap] w fun e' w' => ListPost B (Ls ++ mtF N es r c ms) q w e' w'
  | 0, c, K, gc, cd, L, cap, M, ms, Ls, q, vals, w, hK, hKr, hO, hr, hR, hL, hL9, hM, hl, hu, hB =>
    sMt_base N b off n c0 B gc cd K L cap M c ms Ls q vals w hK (by omega) hO hR hL (by rw [Nat.pow_zero] at hL9; omega) (by have := g.1.1.2.1; omega) hM hu hB
  | r + 1, c, K, gc, cd, L, cap, M, ms, Ls, q, vals, w, hK, hKr, hO, hr, hR, hL, hL9, hM, hl, hu, hB =>
    sMt_step N b off n c0 B H r es g hn hb (fun c K gc cd L cap M ms Ls q vals w h1 h2 h3 h4 h5 h6 h7 h8 h9 h10 h11 => sMt_any N b off n c0 B H es g hn hb hH r c K gc cd L cap M ms Ls q vals w h1 h2 h3 h4 h5 h6 h7 h8 h9 h10 h11) c K gc cd L cap M ms Ls q vals w hK hKr hH hO hr hR hL hL9 hM hl hu hB

theorem pow3_le {H : Nat} (hH : H ≤ 10) : 3 ^ H ≤ 59049 := by
  have h := Nat.pow_le_pow_right (n := 3) (by omega) hH
  simpa using h

set_option maxRecDepth 100000 in
set_option maxHeartbeats 4000000 in
theorem sAll_any (N : Nat) (b off n c0 H : Nat) (es : List (Int × Int)) (w : World) (g : IsG N es) (hn : es.length = n) (hr : ReadsE w b off es) (hH : N = 2 * H) :
    Calls Try.prog 11 #[.agg #[.int .i64 N, .slice (some ⟨b, off, none⟩) n c0]] w fun e' w' => ∃ q cap vals, e' = .returned (.slice q (mtL N es).length cap) ∧ RowsM w' w.heap.size (mtL N es) cap q vals ∧ Below w.heap.size w w' := by
  have hN20 : N ≤ 20 := by have := g.1.1.2.1; omega
  have hH10 : H ≤ 10 := by omega
  have hbl : b < w.heap.size := reads_lt hr (by have := g.1.1.2.2.2; have := g.1.1.1; omega)
  have HLL := hid (show mtF N es H [] (List.replicate 20 false) = mtL N es by unfold mtL; rw [show N / 2 = H by omega])
  have HP := hid (pow3_le hH10)
  obtain ⟨w3, hw3⟩ : ∃ w3, w3 = ((w.alloc (.cells #[.int .i64 N, .slice (some ⟨b, off, none⟩) n c0] 30)).alloc (.cells #[] 2)).alloc (.cells #[] 46) := ⟨_, rfl⟩
  have HB3 := hid (show Below w.heap.size w w3 by rw [hw3]; exact bfrom (bfrom (on_alloc _ _) (on_alloc _ _)) (on_alloc _ _))
  have HO3 := hid (show OwnI w3 (w.heap.size + 1) 0 [] by
    rw [hw3]
    have h := heap_alloc_new (w.alloc (.cells #[.int .i64 N, .slice (some ⟨b, off, none⟩) n c0] 30)) (.cells #[] 2)
    rw [World.size_alloc] at h
    exact OwnI.alloc ⟨#[], h, rfl, by simp, Nat.zero_le _, fun i hi => by simp at hi⟩ _)
  have HR3 := hid (show RowsM w3 w.heap.size [] 0 (some ⟨w.heap.size + 2, 0, none⟩) [] by
    rw [hw3]
    refine RowsM.nil ⟨rfl, .inr ⟨w.heap.size + 2, 0, #[], rfl, by omega, ?_, by omega, by unfold maxLen; omega, rfl, rfl⟩⟩
    have h := heap_alloc_new ((w.alloc (.cells #[.int .i64 N, .slice (some ⟨b, off, none⟩) n c0] 30)).alloc (.cells #[] 2)) (.cells #[] 46)
    simpa using h)
  have Hz3 := hid (show w3.heap.size = w.heap.size + 3 by rw [hw3]; simp)
  have Hr := hid hr
  have G := hid g
  have Hn := hid hn
  have HH := hid hH
  clear hr g hn hH
  go_enter Try.func11, Try.ntmps11
  go_wp2_with fail
  rw [← hw3]
  refine (sMt_any N b off n c0 w.heap.size H es G.out Hn.out hbl hH10 H [] 0 (w.heap.size + 1) 0 0 0 0 (List.replicate 20 false) [] (some ⟨w.heap.size + 1 + 1, 0, none⟩) [] w3 rfl (by omega) HO3.out (Hr.out.on HB3.out) HR3.out rfl (by have := HP.out; omega) bitM_none (by simp) (by rw [unmF_none N hN20]; exact HH.out) HB3.out.size).mono ?_
  rintro e' w4 ⟨q4, cap4, vals4, rfl, hr4, hg4, hs4⟩
  rw [List.nil_append, HLL.out] at hr4 ⊢
  have HR4 := hid hr4
  have HB4 := hid (show Below w.heap.size w w4 from ⟨hg4.os.trans HB3.out.os, hg4.tape.trans HB3.out.tape, hg4.output.trans HB3.out.output, Nat.le_trans HB3.out.size hg4.size, fun i hi => (hg4.block i (by have := HB3.out.size; omega) (fun e => by have : i = w.heap.size + 1 + 1 := Option.some.inj e; omega)).trans (HB3.out.block i hi)⟩)
  clear hr4 hg4 hs4 hw3
  go_wp2
  go_ret
  exact ⟨q4, cap4, vals4, rfl, HR4.out, HB4.out⟩

end Go.Proofs.Ytaafbdpdpndplaa
