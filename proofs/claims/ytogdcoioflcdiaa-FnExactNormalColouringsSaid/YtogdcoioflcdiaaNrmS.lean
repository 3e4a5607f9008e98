/- The normal colourings in the model: l02List, l02Normal. -/
import Derived.Test.YtogdcoioflcdiaaNrmB
import Derived.Test.YtogdcoioflcdiaaColS
import Derived.Test.YtogdcoioflcdiaaRowsM
import Derived.Deep.AppendLies
import Derived.Deep.DeepMust
import Derived.Deep.RegionHeld3
import Derived.Deep.RegionLaw
import Derived.Deep.DeepCutAuto
import Derived.BigRegion
namespace Go.Proofs.Ytogdcoioflcdiaa
open Go.RowKit

theorem news_ofI {w w' : World} {b off n : Nat} {xs : List Int} (hn : xs.length = n) (hr : ReadsI w b off xs) (hc : ∀ i, i < n → w'.cell? ⟨b, off + i, none⟩ = w.cell? ⟨b, off + i, none⟩) : ∀ j u, (intVals xs)[j]? = some u → w'.cell? ((⟨b, off, none⟩ : Addr).add j) = some u := by
  intro j u hj
  rw [Addr.add_lit]
  have hjl : j < xs.length := by
    have := (List.getElem?_eq_some_iff.1 hj).1
    simpa [intVals] using this
  rw [intVals_at hjl] at hj
  rw [hc j (by omega), ← hj]
  exact hr j hjl

set_option maxRecDepth 100000 in
set_option maxHeartbeats 2000000 in
theorem sOwnI_any (b off n c : Nat) (xs : List Int) (w : World) (hn : xs.length = n) (hm : n ≤ 1048576) (hr : ReadsI w b off xs) (hb : b < w.heap.size) :
    Calls Try.prog 157 #[.slice (some ⟨b, off, none⟩) n c] w fun e w' => ∃ g cap, e = .returned (.slice (some ⟨g, 0, none⟩) n cap) ∧ w.heap.size ≤ g ∧ OwnI w' g cap xs ∧ Below w.heap.size w w' := by
  obtain ⟨i0, hi, hz0, hz1, hz2⟩ := info_parts infoInt
  have Hr := hid hr
  have Hn := hid hn
  clear hr hn
  go_enter Try.func157, Try.ntmps157
  go_wp2_with (at_builtin; refine wpList_append_own _ rfl _ _ 25 rfl w.heap.size 2 i0 (.int .i64 0) 1 8 Try.underlying25 hi hz0 hz1 hz2 rfl (by decide) _ _ _ rfl (World.ownsRow_made w #[] 0 (Nat.le_refl _) (Nat.zero_le _) rfl) ⟨b, off, none⟩ n c (intVals xs) rfl ?qc1 ?qc2 ?qc3 ?qc4 ?qc5 ?qc6 ?_)
  case qc1 => rw [show (intVals xs).length = xs.length by simp [intVals], Hn.out, Nat.mul_one]
  case qc2 => exact news_ofI Hn.out Hr.out (fun i hi => (bcells (on_alloc _ _)).1 _ _ hb)
  case qc3 => exact intVals_one xs
  case qc4 => unfold maxLen; omega
  case qc5 => omega
  case qc6 => simp
  intro v' w1 hown hgrow hnil
  have hB : Below w.heap.size w w1 := ((Below.refl _ w).alloc (Nat.le_refl _) _).grown hgrow (by simp) (by intro k hk; simp [Value.ownBlock] at hk; omega)
  have ho : w1.ownsRow w.heap.size 2 1 v' n (intVals xs) := by simpa using hown
  go_wp2
  go_ret
  rcases ho.2 with ⟨rfl, h0⟩ | ⟨g, cap, cur, rfl, hg, _⟩
  · exact (hnil rfl).elim
  · exact ⟨g, cap, rfl, hg, (OwnI.of_row ho Hn.out).1, hB⟩

/-- A slice's row, or new memory. -/
def SameOr (q q' : Option Addr) (H : Nat) : Prop := q' = q ∨ ∃ g, q' = some ⟨g, 0, none⟩ ∧ H ≤ g
def rowOf (q : Option Addr) : Option Nat := q.map (·.block)
theorem rowOf_own (q : Option Addr) (n c : Nat) : (Value.slice q n c).ownBlock = rowOf q := by cases q <;> rfl
theorem grown_next {w w1 w2 : World} {q q1 : Option Addr} (h : w.grownBy w1 (rowOf q)) (hs : SameOr q q1 w.heap.size) (h2 : w1.grownBy w2 (rowOf q1)) : w.grownBy w2 (rowOf q) :=
  ⟨h2.os.trans h.os, h2.tape.trans h.tape, h2.output.trans h.output, Nat.le_trans h.size h2.size, fun i hi hne => (h2.block i (Nat.lt_of_lt_of_le hi h.size) (by
    rcases hs with rfl | ⟨g, rfl, hg⟩
    · exact hne
    · intro e
      have : i = g := Option.some.inj e
      omega)).trans (h.block i hi hne)⟩
theorem SameOr.next {q q1 q2 : Option Addr} {H H2 : Nat} (h : SameOr q q1 H) (h2 : SameOr q1 q2 H2) (hh : H ≤ H2) : SameOr q q2 H := by
  rcases h2 with rfl | ⟨g, e, hg⟩
  · exact h
  · exact .inr ⟨g, e, by omega⟩
theorem grown_of {w w1 : World} (h : Below w.heap.size w w1) (row : Option Nat) : w.grownBy w1 row := ⟨h.os, h.tape, h.output, h.size, fun i hi _ => h.block i hi⟩
theorem grown_row {w w1 w2 : World} {row : Option Nat} (h : Below w.heap.size w w1) (h2 : w1.grownBy w2 row) : w.grownBy w2 row := (grown_of h row).trans h2
/-- A row of numbers is none of the rows of slices. -/
theorem own_other {w : World} {B n g cap c : Nat} {q : Option Addr} {xs : List Value} {ys : List Int} (h : w.ownsRow B 25 1 (.slice q n c) n xs) (ho : OwnI w g cap ys) : some g ≠ rowOf q := by
  rw [← rowOf_own q n c]
  exact row_nei h ho
theorem OwnI.grownR {w w' : World} {B n g cap c : Nat} {q : Option Addr} {xs : List Value} {ys : List Int} (ho : OwnI w g cap ys) (h : w.ownsRow B 25 1 (.slice q n c) n xs) (hg : w.grownBy w' (rowOf q)) : OwnI w' g cap ys := ho.keep (hg.block g ho.lt (own_other h ho))
theorem ReadsE.grownR {w w' : World} {B n c b off : Nat} {q : Option Addr} {xs : List Value} {es : List (Int × Int)} (hr : ReadsE w b off es) (hb : b < B) (hl : b < w.heap.size) (h : w.ownsRow B 25 1 (.slice q n c) n xs) (hg : w.grownBy w' (rowOf q)) : ReadsE w' b off es :=
  hr.keep (hg.block b hl (fun e => by
    have := h.lt b (by rw [rowOf_own]; exact e.symm)
    omega))
theorem nm_tail {es : List (Int × Int)} {r : Nat} {c : List Int} {k M : Nat} {Ls : List (List Int)} (hk : k ≤ 3) (h : ¬ (tkL Ls M (nmU es r c k)).length < M ∨ k = 3) : tkL Ls M (nmU es r c k) = tkL Ls M (nmF es (r + 1) c) := by
  rw [nmF_succ]
  rcases h with h | rfl
  · obtain ⟨q, hq⟩ := nmU_le (es := es) (r := r) (c := c) hk
    rw [hq, tkL_full h]
  · rfl

/-- An append at a step that is wanted, whatever its guard. -/
theorem step_append_wanted {P : Program} {w : World} {ops : Array Oper} {o : Oper} {a : Act} {K : Act → World → Prop} {Q : Exit → Act → World → Prop} {E : Prop} (hw : Region.wanted o (yielded ops a.tmps) = true) (s x : Operand) (t : TypeId)
    (ho : o.op = .call { callee := .builtin .append, args := #[s, x], argTypes := #[t, t] })
    (base : Nat) (e : TypeId) (i : TypeInfo) (z : Value) (size bytes : Nat) (ht : P.underlying t = some (.slice e)) (hi : P.info? e = some i) (hz : i.zero = some z)
    (hsize : i.size = size) (hby : i.bytes = bytes) (hzs : z.cells.size = size) (hsz : 0 < size)
    (v : Value) (n : Nat) (xs : List Value) (hs : a.eval s = v) (hown : w.ownsRow base e size v n xs)
    (ad : Addr) (m c : Nat) (news : List Value) (hx : a.eval x = .slice (some ad) m c) (hl : news.length = m * size) (hnews : ∀ j u, news[j]? = some u → w.cell? (ad.add j) = some u) (h1 : ∀ u ∈ news, u.oneCell' = true)
    (hm : 0 < m) (h63 : n + m ≤ maxLen) (hbytes : (n + m) * bytes ≤ 140737488355328) (hbase : base ≤ w.heap.size)
    (h : ∀ g cap w', w'.ownsRow base e size (.slice (some ⟨g, 0, none⟩) (n + m) cap) (n + m) (xs ++ news) → w.grownBy w' v.ownBlock → (v.ownBlock = some g ∨ g = w.heap.size) → g < w'.heap.size → K (a.put o.dst (.slice (some ⟨g, 0, none⟩) (n + m) cap)) w') :
    if Region.wanted o (yielded ops a.tmps) = true then Oper.wp P o a w K Q else E := by
  rw [if_pos hw]
  exact wp_append_lies w s x t ho base e i z size bytes ht hi hz hsize hby hzs hsz v n xs hs hown ad m c news hx hl hnews h1 hm h63 hbytes hbase w.heap.size rfl h

theorem new_lt (w : World) (o : Obj) : w.heap.size < (w.alloc o).heap.size := by simp
theorem new_at (w : World) (x : Value) (t : TypeId) : (w.alloc (.cells #[x] t)).cell? ⟨w.heap.size, 0, none⟩ = some x := by simp
/-- What l02List leaves. -/
def ListPost (B : Nat) (Ls : List (List Int)) (q : Option Addr) (w : World) (e' : Ending) (w' : World) : Prop := ∃ q' cap' vals', e' = .returned (.slice q' Ls.length cap') ∧ RowsM w' B Ls cap' q' vals' ∧ w.grownBy w' (rowOf q) ∧ SameOr q q' w.heap.size
/-- A copied row with one number more, at a step that is wanted. -/
theorem step_copy_push {w : World} {ops : Array Oper} {o : Oper} {a : Act} {C : Act → World → Prop} {Q : Exit → Act → World → Prop} {E : Prop} (hw : Region.wanted o (yielded ops a.tmps) = true) (s x : Operand)
    (ho : o.op = .call { callee := .builtin .append, args := #[s, x], argTypes := #[25, 25] }) (g cap K gx base k : Nat) (c : List Int)
    (hs : a.eval s = .slice (some ⟨g, 0, none⟩) K cap) (hx : a.eval x = .slice (some ⟨gx, 0, none⟩) 1 1) (hO : OwnI w g cap c) (hK : c.length = K) (hg : base ≤ g) (hb : base ≤ w.heap.size) (hK9 : K ≤ 1000) (hnew : w.cell? ⟨gx, 0, none⟩ = some (.int .i64 (k : Int)))
    (h : ∀ g' cap' w', OwnI w' g' cap' (c ++ [(k : Int)]) → Below base w w' → base ≤ g' → C (a.put o.dst (.slice (some ⟨g', 0, none⟩) (K + 1) cap')) w') :
    if Region.wanted o (yielded ops a.tmps) = true then Oper.wp Try.prog o a w C Q else E := by
  obtain ⟨i0, hi, hy0, hy1, hy2⟩ := info_parts infoInt
  refine step_append_wanted hw s x 25 ho base 2 i0 (.int .i64 0) 1 8 Try.underlying25 hi hy0 hy1 hy2 rfl (by decide) _ K (intVals c) hs (OwnI.row hO hK hg) ⟨gx, 0, none⟩ 1 1 [.int .i64 (k : Int)] hx rfl (fun j u hj => ?_) (by simp [Value.oneCell']) (by decide) (by unfold maxLen; omega) (by omega) hb ?_
  · match j, hj with
    | 0, hj =>
      simp at hj
      subst hj
      simpa [Addr.add] using hnew
  · intro g' cap' w' hown hgrow hlie hg'
    have h2 := OwnI.of_row (xs := c ++ [(k : Int)]) (by rw [intVals_append]; exact hown) (by rw [List.length_append, hK]; rfl)
    exact h g' cap' w' h2.1 ((Below.refl base w).grown hgrow hb (fun j hj => by have e : g = j := Option.some.inj hj; omega)) h2.2

def onlyV (K i : Nat) : Int := if K < i then K else -1
theorem onlyV_zero (K : Nat) : onlyV K 0 = -1 := by unfold onlyV; rw [if_neg (by omega)]
theorem onlyV_hit (K : Nat) : onlyV K (K + 1) = K := by unfold onlyV; rw [if_pos (by omega)]
theorem onlyV_not {K i : Nat} (h : ¬ i = K) : onlyV K (i + 1) = onlyV K i := by
  unfold onlyV
  by_cases h1 : K < i
  · rw [if_pos h1, if_pos (by omega)]
  · rw [if_neg h1, if_neg (by omega)]
set_option maxRecDepth 100000 in
set_option maxHeartbeats 16000000 in
theorem sList_base (s : Int) (b off n c0 B most K gc cd L cap : Nat) (c : List Int) (Ls : List (List Int)) (q : Option Addr) (vals : List Value) (w : World) (hK : c.length = K) (hKn : K = n) (hn30 : n ≤ 30) (hO : OwnI w gc cd c) (hR : RowsM w B Ls cap q vals) (hL : Ls.length = L) (hLm : L ≤ most) (hm : most ≤ 1000) (hB : B ≤ w.heap.size) :
    Calls Try.prog 135 #[.agg #[.int .i64 s, .slice (some ⟨b, off, none⟩) n c0], .slice (some ⟨gc, 0, none⟩) K cd, .slice q L cap, .int .i64 most] w fun e' w' => ListPost B (Ls ++ [c]) q w e' w' := by
  have HK := hid hK
  have HO := hid hO
  have HR := hid hR
  have HL := hid hL
  have hgcw := hO.lt
  obtain ⟨s0, hs, hs0, hs1, hs2⟩ := info_parts infoSlR
  have Hs := hid hs
  have t1 : ((K : Int) == (n : Int)) = true := by simp; omega
  have HKn := hid hKn
  have hKl : K ≤ 30 := by omega
  clear hK hO hR hL hs hKn
  go_enter Try.func135, Try.ntmps135
  obtain ⟨w1, hw1⟩ : ∃ w1, w1 = w.alloc (.cells #[.int .i64 s, .slice (some ⟨b, off, none⟩) n c0] 31) := ⟨_, rfl⟩
  have HB1 := hid (show Below w.heap.size w w1 by rw [hw1]; exact on_alloc _ _)
  have HX1 := hid (show Box w1 w.heap.size s (some ⟨b, off, none⟩) n c0 by rw [hw1]; exact Box.new _ _ _ _ _ _)
  have hx1 := HX1.out.1
  have hy1 := HX1.out.2
  have hz1 := HX1.out.lt
  go_wp2_with fail
  rw [← hw1]
  clear hw1
  refine (sOwnI_any gc 0 K cd c w1 HK.out (by omega) (HO.out.on HB1.out).reads (by omega)).mono ?_
  rintro e' w2 ⟨g2, cap2, rfl, hg2, ho2, hb2⟩
  have HB2 := hid (bfrom HB1.out hb2)
  have HO2 := hid ho2
  have hz2 := HB2.out.size
  clear hb2 ho2 hx1 hy1
  have HPa := hid ((HR.out.kept (w' := w2) (fun i _ h => HB2.out.block i h)).kept (w' := w2.alloc (.cells #[.slice (some ⟨g2, 0, none⟩) K cap2] 25)) (fun i _ h => heap_alloc_old _ _ h))
  go_wp2_with (at_builtin; go_must (refine wpList_append_lies _ rfl (.tmp 22) (.tmp 25) 42 rfl B 25 s0 (.slice none 0 0) 1 24 Try.underlying42 Hs.out hs0 hs1 hs2 rfl (by decide) (.slice q L cap) L vals rfl (by have h := HPa.out.1; rw [HL.out] at h; exact h) ⟨w2.heap.size, 0, none⟩ 1 1 [.slice (some ⟨g2, 0, none⟩) K cap2] rfl rfl (World.news_of_block (cs := #[.slice (some ⟨g2, 0, none⟩) K cap2]) (t := 25) (fr := (0, 0)) (heap_alloc_new _ _)) (by simp [Value.oneCell']) (by decide) (by unfold maxLen; omega) (by omega) (by simp; omega) (w2.heap.size + 1) (by simp) ?_); intro g8 cap8 w8 hown8 hgrow8 hlie8 hg8; have Hown8 := hid hown8; have Hgrow8 := hid hgrow8; have Hlie8 := hid hlie8; clear hown8 hgrow8 hlie8)
  go_ret
  refine ⟨some ⟨g8, 0, none⟩, cap8, vals ++ [.slice (some ⟨g2, 0, none⟩) K cap2], by rw [List.length_append, HL.out]; rfl, ?_, ?_, ?_⟩
  · exact RowsM.push (m := K) HPa.out (HO2.out.alloc _) (by omega) HK.out (by rw [HL.out]; exact Hown8.out) (by rw [HL.out]; exact Hgrow8.out)
  · exact grown_row (bfrom HB2.out (on_alloc _ _)) (by rw [← rowOf_own q L cap]; exact Hgrow8.out)
  · rcases Hlie8.out with h | h
    · rw [rowOf_own] at h
      rcases hq : q with _ | a
      · rw [hq] at h; cases h
      · refine .inl ?_
        rcases HR.out.1.2 with ⟨h2, _⟩ | ⟨g', c', cur, h2, _⟩
        · rw [hq] at h2; cases h2
        · injection h2 with h3
          rw [hq] at h3 h
          have h4 := Option.some.inj h3
          subst h4
          have h5 : g' = g8 := Option.some.inj h
          subst h5
          rfl
    · exact .inr ⟨g8, rfl, by omega⟩

set_option maxRecDepth 100000 in
set_option maxHeartbeats 32000000 in
theorem sList_any (s : Int) (b off n c0 B most : Nat) (es : List (Int × Int)) (g : IsG s es) (hn : es.length = n) (hb : b < B) (hm : most ≤ 1000) : ∀ (r : Nat) (c : List Int) (K gc cd L : Nat) (Ls : List (List Int)) (cap : Nat) (q : Option Addr) (vals : List Value) (w : World), c.length = K → K + r = n → OwnI w gc cd c → ReadsE w b off es → RowsM w B Ls cap q vals → Ls.length = L → L ≤ most → B ≤ w.heap.size →
    Calls Try.prog 135 #[.agg #[.int .i64 s, .slice (some ⟨b, off, none⟩) n c0], .slice (some ⟨gc, 0, none⟩) K cd, .slice q L cap, .int .i64 most] w fun e' w' => ListPost B (tkL Ls (most + 1) (nmF es r c)) q w e' w' := by
  have hn30 : n ≤ 30 := by have := isG_len g; omega
  intro r
  induction r with
  | zero =>
    intro c K gc cd L Ls cap q vals w hK hKr hO hr hR hL hLm hB
    rw [nmF_zero, tkL_one (by omega)]
    exact sList_base s b off n c0 B most K gc cd L cap c Ls q vals w hK (by omega) hn30 hO hR hL hLm hm hB
  | succ r ih =>
    intro c K gc cd L Ls cap q vals w hK hKr hO hr hR hL hLm hB
    have hKn : K < n := by omega
    have t1 : ((K : Int) == (n : Int)) = false := by simp; omega
    have hgcw := hO.lt
    have hbw : b < w.heap.size := by omega
    have HK := hid hK
    have HKr := hid hKr
    have HO := hid hO
    have Hr := hid hr
    have HR := hid hR
    have HL := hid hL
    have HIH := hid ih
    have G := hid g
    have Hn := hid hn
    obtain ⟨i0, hi, hy0, hy1', hy2'⟩ := info_parts infoInt
    have Hi := hid hi
    clear hK hKr hO hr hR hL ih hi
    go_enter Try.func135, Try.ntmps135
    obtain ⟨w1, hw1⟩ : ∃ w1, w1 = w.alloc (.cells #[.int .i64 s, .slice (some ⟨b, off, none⟩) n c0] 31) := ⟨_, rfl⟩
    have HB1 := hid (show Below w.heap.size w w1 by rw [hw1]; exact on_alloc _ _)
    have HX1 := hid (show Box w1 w.heap.size s (some ⟨b, off, none⟩) n c0 by rw [hw1]; exact Box.new _ _ _ _ _ _)
    have hx1 := HX1.out.1
    have hy1 := HX1.out.2
    have hz1 := HX1.out.lt
    go_wp2_with fail
    rw [← hw1]
    clear hw1
    refine (sAt_any s 0 b off n c0 es w1 Hn.out hn30 (Hr.out.on HB1.out)).mono ?_
    rw [atF_first G.out]
    rintro e' w4 ⟨q4, cap4, rfl, hf4, hb4⟩
    obtain ⟨g4, rfl, _, ho4⟩ : ∃ g, q4 = some ⟨g, 0, none⟩ ∧ w1.heap.size ≤ g ∧ OwnI w4 g cap4 [0, 1, 2] := by
      rcases hf4.form with ⟨_, h, _⟩ | h
      · cases h
      · exact h
    have HB4 := hid (bfrom HB1.out hb4)
    have HX4 := hid (HX1.out.on hb4)
    have HQ4 := hid ho4.reads
    have hz4 := HB4.out.size
    have hz41 := hb4.size
    clear hb4 hf4 ho4 hx1 hy1
    go_wp2
    go_loopw [11, 12] (fun u v wr => ∃ i : Nat, i ≤ 3 ∧ u = .int .i64 (onlyV K i) ∧ v = .int .i64 i ∧ wr = w4) (fun _ v _ => 3 - (intOf v).toNat)
    case atStart => exact ⟨0, by omega, by rw [onlyV_zero], rfl, rfl⟩
    case round =>
      obtain ⟨i, hi3, rfl, rfl, rfl⟩ := hrel
      by_cases hlt : i < 3
      · have hlt' : (i : Int) < 3 := by omega
        have hc4 := HQ4.out i (by simpa using hlt)
        have e4 : eI [0, 1, 2] i = (i : Int) := by
          rcases (by omega : i = 0 ∨ i = 1 ∨ i = 2) with rfl | rfl | rfl <;> rfl
        rw [Nat.zero_add, e4] at hc4
        clear e4
        by_cases hik : i = K
        · have t2 : ((i : Int) == (K : Int)) = true := by simp; omega
          have HIK := hid hik
          clear hik
          go_wp2
          go_roundw
          case rel => exact ⟨i + 1, by omega, by rw [HIK.out, onlyV_hit], by go_num, by first | rfl | trivial⟩
          case measure => simp [intOf]; omega
        · have t2 : ((i : Int) == (K : Int)) = false := by simp; omega
          have HIK := hid hik
          clear hik
          go_wp2
          go_roundw
          case rel => exact ⟨i + 1, by omega, by rw [onlyV_not HIK.out], by go_num, by first | rfl | trivial⟩
          case measure => simp [intOf]; omega
      · have HI3 := hid (show i = 3 by omega)
        obtain ⟨w5, rfl⟩ : ∃ w5 : World, w5 = wr := ⟨_, rfl⟩
        obtain ⟨O, hO⟩ : ∃ O, onlyV K i = O := ⟨_, rfl⟩
        rw [hO]
        have HOV := hid (show onlyV K 3 = O by rw [← HI3.out]; exact hO)
        clear hO
        have HRw5 := hid (HR.out.kept (w' := w5) (fun i _ h => HB4.out.block i h))
        have HO5 := hid (HO.out.on HB4.out)
        have Hr5 := hid (Hr.out.on HB4.out)
        go_wp2
        go_loopw [2, 13] (fun u v wr => ∃ (k T cap' : Nat) (q' : Option Addr) (vals' : List Value), k ≤ 3 ∧ u = .slice q' T cap' ∧ v = .int .i64 k ∧ Hid ((tkL Ls (most + 1) (nmU es r c k)).length = T) ∧ Hid (RowsM wr B (tkL Ls (most + 1) (nmU es r c k)) cap' q' vals') ∧ Hid (w5.grownBy wr (rowOf q) ∧ SameOr q q' w5.heap.size)) (fun _ v _ => 3 - (intOf v).toNat)
        case atStart => exact ⟨0, L, cap, q, vals, by omega, rfl, rfl, hid (by rw [nmU_zero, tkL_nil]; exact HL.out), hid (by rw [nmU_zero, tkL_nil]; exact HRw5.out), hid ⟨(grown_of (Below.refl _ _) _), .inl rfl⟩⟩
        case round =>
          obtain ⟨k, T, cap', q', vals', hk, rfl, rfl, HT, HRw, HGr⟩ := hrel
          have hTm : T ≤ most + 1 := by rw [← HT.out]; exact tkL_len _ _ _ (by have := HL.out; omega)
          have hwsz := HGr.out.1.size
          by_cases hgo : k < 3 ∧ T ≤ most
          · obtain ⟨hlt3, hTl⟩ := hgo
            have hlt3' : (k : Int) < 3 := by omega
            have hTl' : (T : Int) ≤ (most : Int) := by omega
            have hrow5 : ∀ j, some j = rowOf q → B ≤ j ∧ j < w.heap.size := fun j hj => HR.out.1.lt j (by rw [rowOf_own]; exact hj.symm)
            have HXr := hid (HX4.out.kept HGr.out.1 (fun e => by have := (hrow5 _ e).2; omega))
            have hxr := HXr.out.1
            have hyr := HXr.out.2
            have hzr := HXr.out.lt
            have HRr := hid (Hr5.out.grownR (B := B) hb (by omega) HRw5.out.1 HGr.out.1)
            have HCr := hid (HO5.out.grownR HRw5.out.1 HGr.out.1)
            have hgcr := HCr.out.lt
            clear hrow5
            obtain ⟨wo, rfl⟩ : ∃ wo : World, wo = wr := ⟨_, rfl⟩
            have next : ∀ (wx : World), Below wo.heap.size wo wx → ¬ okM es c k → ∃ (k' T' cap'' : Nat) (q'' : Option Addr) (vals'' : List Value), k' ≤ 3 ∧ (Value.slice q' T cap') = .slice q'' T' cap'' ∧ (Value.int .i64 ((k : Int) + 1)) = .int .i64 k' ∧ Hid ((tkL Ls (most + 1) (nmU es r c k')).length = T') ∧ Hid (RowsM wx B (tkL Ls (most + 1) (nmU es r c k')) cap'' q'' vals'') ∧ Hid (w5.grownBy wx (rowOf q) ∧ SameOr q q'' w5.heap.size) := fun wx hbx hno =>
              ⟨k + 1, T, cap', q', vals', by omega, rfl, by go_num, hid (by rw [nmU_no hno]; exact HT.out), hid (by rw [nmU_no hno]; exact HRw.out.kept (fun i _ h => hbx.block i h)), hid ⟨HGr.out.1.trans (grown_of hbx _), HGr.out.2⟩⟩
            have HNext := hid next
            clear next
            by_cases hskip : 0 ≤ O ∧ (k : Int) ≠ O
            · obtain ⟨ho0, hok⟩ := hskip
              have t3 : ((k : Int) != O) = true := by simpa using hok
              have HNo := hid (show ¬ okM es c k from fun h => hok (by
                have h2 := HOV.out
                unfold onlyV at h2
                by_cases h3 : K < 3
                · rw [if_pos h3] at h2
                  have h4 := h.1 (by rw [HK.out]; exact h3)
                  rw [HK.out] at h4
                  omega
                · rw [if_neg h3] at h2; omega))
              clear hok
              go_wp2
              go_region
              go_wp2
              go_roundw
              case rel => exact HNext.out _ (by first | exact (Below.refl _ _).drew | exact Below.refl _ _) HNo.out
              case measure => simp [intOf]; omega
            · have hOK : okM es c k ↔ fitsP es c K k := by
                unfold okM
                rw [HK.out]
                refine ⟨fun h => h.2, fun h => ⟨fun h3 => ?_, h⟩⟩
                have h2 := HOV.out
                unfold onlyV at h2
                rw [if_pos h3] at h2
                have h4 : ¬ (k : Int) ≠ O := fun h5 => hskip ⟨by omega, h5⟩
                omega
              obtain ⟨f, hf⟩ : ∃ f, decide (fitsP es c K k) = f := ⟨_, rfl⟩
              have HFit := hid (show decide (fitsP es (c ++ [(k : Int)]) K k) = f by rw [← hf, decide_eq_decide]; exact fits_app (by rw [HK.out]; exact Nat.le_refl _))
              have HOk := hid hOK
              have HF := hid hf
              clear hOK hf
              by_cases ho0 : 0 ≤ O
              · have t3 : ((k : Int) != O) = false := by
                  have : ¬ (k : Int) ≠ O := fun h5 => hskip ⟨ho0, h5⟩
                  simpa using this
                clear hskip
                go_upto_region 13 with fail
                go_cut [68] (fun u wx => u = .bool (!f) ∧ Hid (Below wo.heap.size wo wx))
                case first =>
                  go_region_held3 (fun w' => w'.cell? ⟨w.heap.size, 0, none⟩ = some (.int .i64 s) ∧ w'.cell? ⟨w.heap.size, 1, none⟩ = some (.slice (some ⟨b, off, none⟩) n c0)) (first | go_keep | exact ⟨hx7, hy7⟩ | exact ⟨hx6, hy6⟩) (first
                    | (go_at_call 157; refine (sOwnI_any gc 0 K cd c _ HK.out (by omega) (HCr.out.on (by first | exact (Below.refl _ _).drew | exact bfrom (Below.refl _ _).drew (on_alloc _ _) | exact (on_alloc _ _).drew)).reads (by simp; omega)).mono ?_; rintro e' w6 ⟨g6, cap6, rfl, hg6, ho6, hb6⟩; have hB6 : Below wo.heap.size wo w6 := bfrom (by first | exact (Below.refl _ _).drew | exact bfrom (Below.refl _ _).drew (on_alloc _ _) | exact (on_alloc _ _).drew) hb6; have hz6 := hB6.size; have hx6 := ((bcells hB6).1 _ _ hzr).trans hxr; have hy6 := ((bcells hB6).1 _ _ hzr).trans hyr; have hg6' : wo.heap.size ≤ g6 := (by simp at hg6; omega); have hzr6 : w.heap.size < w6.heap.size := (by omega); (first | (have hnews : w6.cell? ⟨wo.heap.size, 0, none⟩ = some (.int .i64 (k : Int)) := ((bcells hb6).1 wo.heap.size 0 (new_lt wo _)).trans (new_at wo _ 2)) | skip))
                    | ((first | (refine step_copy_push (by rfl) (.tmp 60) (.tmp 62) (by rfl) g6 cap6 K wo.heap.size wo.heap.size k c (by rfl) (by rfl) ho6 HK.out hg6' hz6 (by omega) hnews ?_) | (refine step_copy_push (by rfl) (.tmp 60) (.tmp 62) (by rfl) g6 cap6 K w6.heap.size wo.heap.size k c (by rfl) (by rfl) (ho6.alloc _) HK.out hg6' (by simp; omega) (by omega) (by simp) ?_)); intro g7 cap7 w7 ho7 hb7 hg7; have hB7 : Below wo.heap.size wo w7 := (by first | exact hB6.trans hb7 | exact (hB6.alloc hz6 _).trans hb7); have hx7 := ((bcells hB7).1 _ _ hzr).trans hxr; have hy7 := ((bcells hB7).1 _ _ hzr).trans hyr; have hzr7 : w.heap.size < w7.heap.size := (by have := hB7.size; omega))
                    | (go_at_call 158; refine (sFits_any s b off n c0 g7 0 (K + 1) cap7 K k es (c ++ [(k : Int)]) _ G.out Hn.out (HRr.out.on hB7) (by rw [List.length_append, HK.out]; rfl) (by omega) ho7.reads (by omega) (by omega)).mono ?_; rw [HFit.out]; rintro e' w8 ⟨rfl, hb8⟩; have hB8 : Below wo.heap.size wo w8 := bfrom hB7 hb8; have hx8 := ((bcells hB8).1 _ _ hzr).trans hxr; have hy8 := ((bcells hB8).1 _ _ hzr).trans hyr))
                  all_goals
                    go_wp2_with fail
                    go_meet
                    exact ⟨by first | rfl | simp, hid (by first | exact hB8 | exact bdn.mpr hB8)⟩
                case rest =>
                obtain ⟨rfl, hcb⟩ := hcut
                obtain ⟨wy, rfl⟩ : ∃ wy : World, wy = wc := ⟨_, rfl⟩
                have hby := hcb.out
                have hwy := hby.size
                have hzy : w.heap.size < wy.heap.size := by omega
                have hxy := ((bcells hby).1 _ _ hzr).trans hxr
                have hyy := ((bcells hby).1 _ _ hzr).trans hyr
                have HCy := hid (HCr.out.on hby)
                clear hcb hxr hyr
                cases f
                · have HNo := hid (show ¬ okM es c k from fun h => of_decide_eq_false HF.out (HOk.out.1 h))
                  go_wp2
                  go_roundw
                  case rel => exact HNext.out _ hby HNo.out
                  case measure => simp [intOf]; omega
                · have HYes := hid (HOk.out.2 (of_decide_eq_true HF.out))
                  have HEq := hid (show tkL (tkL Ls (most + 1) (nmU es r c k)) (most + 1) (nmF es r (c ++ [(k : Int)])) = tkL Ls (most + 1) (nmU es r c (k + 1)) by rw [nmU_yes HYes.out]; exact tkL_more (by rw [HT.out]; omega))
                  go_upto_region 14 with fail
                  have hfar : some w.heap.size ≠ rowOf q' := fun e => by
                    rcases HGr.out.2 with h | ⟨g9, h, hg9⟩
                    · rw [h] at e
                      have := HR.out.1.lt w.heap.size (by rw [rowOf_own]; exact e.symm)
                      omega
                    · rw [h] at e
                      have : w.heap.size = g9 := Option.some.inj e
                      omega
                  go_region_held3 (fun w' => w'.cell? ⟨w.heap.size, 0, none⟩ = some (.int .i64 s) ∧ w'.cell? ⟨w.heap.size, 1, none⟩ = some (.slice (some ⟨b, off, none⟩) n c0)) (first | go_keep | exact ⟨hx8, hy8⟩ | exact ⟨hx7, hy7⟩ | exact ⟨hx6, hy6⟩) (first
                    | (go_at_call 157; refine (sOwnI_any gc 0 K cd c _ HK.out (by omega) (HCy.out.on (by first | exact (Below.refl _ _).drew | exact bfrom (Below.refl _ _).drew (on_alloc _ _) | exact (on_alloc _ _).drew)).reads (by simp; omega)).mono ?_; rintro e' w6 ⟨g6, cap6, rfl, hg6, ho6, hb6⟩; have hB6 : Below wy.heap.size wy w6 := bfrom (by first | exact (Below.refl _ _).drew | exact bfrom (Below.refl _ _).drew (on_alloc _ _) | exact (on_alloc _ _).drew) hb6; have hz6 := hB6.size; have hx6 := ((bcells hB6).1 _ _ hzy).trans hxy; have hy6 := ((bcells hB6).1 _ _ hzy).trans hyy; have hg6' : wy.heap.size ≤ g6 := (by simp at hg6; omega); have hzr6 : w.heap.size < w6.heap.size := (by omega); (first | (have hnews : w6.cell? ⟨wy.heap.size, 0, none⟩ = some (.int .i64 (k : Int)) := ((bcells hb6).1 wy.heap.size 0 (new_lt wy _)).trans (new_at wy _ 2)) | skip))
                    | ((first | (refine step_copy_push (by rfl) (.tmp 71) (.tmp 73) (by rfl) g6 cap6 K wy.heap.size wy.heap.size k c (by rfl) (by rfl) ho6 HK.out hg6' hz6 (by omega) hnews ?_) | (refine step_copy_push (by rfl) (.tmp 71) (.tmp 73) (by rfl) g6 cap6 K w6.heap.size wy.heap.size k c (by rfl) (by rfl) (ho6.alloc _) HK.out hg6' (by simp; omega) (by omega) (by simp) ?_)); intro g7 cap7 w7 ho7 hb7 hg7; have hB7 : Below wy.heap.size wy w7 := (by first | exact hB6.trans hb7 | exact (hB6.alloc hz6 _).trans hb7); have hx7 := ((bcells hB7).1 _ _ hzy).trans hxy; have hy7 := ((bcells hB7).1 _ _ hzy).trans hyy; have hzr7 : w.heap.size < w7.heap.size := (by have := hB7.size; omega))
                    | (go_at_call 135; refine (HIH.out (c ++ [(k : Int)]) (K + 1) g7 cap7 T (tkL Ls (most + 1) (nmU es r c k)) cap' q' vals' _ (by rw [List.length_append, HK.out]; rfl) (by have := HKr.out; omega) ho7 (HRr.out.on (hby.trans (hB7.mono hwy))) (HRw.out.kept (fun i _ h => (hby.trans (hB7.mono hwy)).block i h)) HT.out hTl (by omega)).mono ?_; rintro e' w8 ⟨q8, cap8, vals8, rfl, hr8, hg8, hs8⟩; have hx8 := (hg8.cell_far (a := ⟨w.heap.size, 0, none⟩) hzr7 hfar).trans hx7; have hy8 := (hg8.cell_far (a := ⟨w.heap.size, 1, none⟩) hzr7 hfar).trans hy7))
                  all_goals
                    have HR8 := hid hr8
                    have HG8 := hid (And.intro (grown_next HGr.out.1 HGr.out.2 (grown_row (hby.trans (hB7.mono hwy)) hg8)) (HGr.out.2.next hs8 (by have := hB7.size; omega)))
                    clear hr8 hg8 hs8
                    go_wp2
                    go_roundw
                    case rel => exact ⟨k + 1, _, cap8, q8, vals8, by omega, rfl, by go_num, hid (by rw [HEq.out]), hid (by rw [← HEq.out]; exact HR8.out), hid HG8.out⟩
                    case measure => simp [intOf]; omega
              · clear hskip
                have t4 : decide (0 ≤ O) = false := decide_eq_false ho0
                go_upto_region 13 with fail
                go_cut [68] (fun u wx => u = .bool (!f) ∧ Hid (Below wo.heap.size wo wx))
                case first =>
                  first
                    | (go_region_law (first
                    | (go_simp; go_at_call 157; refine (sOwnI_any gc 0 K cd c _ HK.out (by omega) (HCr.out.on (by first | exact (Below.refl _ _).drew | exact bfrom (Below.refl _ _).drew (on_alloc _ _) | exact (on_alloc _ _).drew)).reads (by simp; omega)).mono ?_; rintro e' w6 ⟨g6, cap6, rfl, hg6, ho6, hb6⟩; have hB6 : Below wo.heap.size wo w6 := bfrom (by first | exact (Below.refl _ _).drew | exact bfrom (Below.refl _ _).drew (on_alloc _ _) | exact (on_alloc _ _).drew) hb6; have hz6 := hB6.size; have hx6 := ((bcells hB6).1 _ _ hzr).trans hxr; have hy6 := ((bcells hB6).1 _ _ hzr).trans hyr; have hg6' : wo.heap.size ≤ g6 := (by simp at hg6; omega); have hzr6 : w.heap.size < w6.heap.size := (by omega); (first | (have hnews : w6.cell? ⟨wo.heap.size, 0, none⟩ = some (.int .i64 (k : Int)) := ((bcells hb6).1 wo.heap.size 0 (new_lt wo _)).trans (new_at wo _ 2)) | skip))
                    | ((first | (refine step_copy_push (by rfl) (.tmp 60) (.tmp 62) (by rfl) g6 cap6 K wo.heap.size wo.heap.size k c (by rfl) (by rfl) ho6 HK.out hg6' hz6 (by omega) hnews ?_) | (refine step_copy_push (by rfl) (.tmp 60) (.tmp 62) (by rfl) g6 cap6 K w6.heap.size wo.heap.size k c (by rfl) (by rfl) (ho6.alloc _) HK.out hg6' (by simp; omega) (by omega) (by simp) ?_)); intro g7 cap7 w7 ho7 hb7 hg7; have hB7 : Below wo.heap.size wo w7 := (by first | exact hB6.trans hb7 | exact (hB6.alloc hz6 _).trans hb7); have hx7 := ((bcells hB7).1 _ _ hzr).trans hxr; have hy7 := ((bcells hB7).1 _ _ hzr).trans hyr; have hzr7 : w.heap.size < w7.heap.size := (by have := hB7.size; omega))
                    | (go_simp; go_at_call 158; refine (sFits_any s b off n c0 g7 0 (K + 1) cap7 K k es (c ++ [(k : Int)]) _ G.out Hn.out (HRr.out.on hB7) (by rw [List.length_append, HK.out]; rfl) (by omega) ho7.reads (by omega) (by omega)).mono ?_; rw [HFit.out]; rintro e' w8 ⟨rfl, hb8⟩; have hB8 : Below wo.heap.size wo w8 := bfrom hB7 hb8; have hx8 := ((bcells hB8).1 _ _ hzr).trans hxr; have hy8 := ((bcells hB8).1 _ _ hzr).trans hyr)))
                    | fail
                  all_goals
                    go_wp2_with fail
                    go_meet
                    exact ⟨by first | rfl | simp, hid (by first | exact hB8 | exact bdn.mpr hB8)⟩
                case rest =>
                obtain ⟨rfl, hcb⟩ := hcut
                obtain ⟨wy, rfl⟩ : ∃ wy : World, wy = wc := ⟨_, rfl⟩
                have hby := hcb.out
                have hwy := hby.size
                have hzy : w.heap.size < wy.heap.size := by omega
                have hxy := ((bcells hby).1 _ _ hzr).trans hxr
                have hyy := ((bcells hby).1 _ _ hzr).trans hyr
                have HCy := hid (HCr.out.on hby)
                clear hcb hxr hyr
                cases f
                · have HNo := hid (show ¬ okM es c k from fun h => of_decide_eq_false HF.out (HOk.out.1 h))
                  go_wp2
                  go_roundw
                  case rel => exact HNext.out _ hby HNo.out
                  case measure => simp [intOf]; omega
                · have HYes := hid (HOk.out.2 (of_decide_eq_true HF.out))
                  have HEq := hid (show tkL (tkL Ls (most + 1) (nmU es r c k)) (most + 1) (nmF es r (c ++ [(k : Int)])) = tkL Ls (most + 1) (nmU es r c (k + 1)) by rw [nmU_yes HYes.out]; exact tkL_more (by rw [HT.out]; omega))
                  go_upto_region 14 with fail
                  have hfar : some w.heap.size ≠ rowOf q' := fun e => by
                    rcases HGr.out.2 with h | ⟨g9, h, hg9⟩
                    · rw [h] at e
                      have := HR.out.1.lt w.heap.size (by rw [rowOf_own]; exact e.symm)
                      omega
                    · rw [h] at e
                      have : w.heap.size = g9 := Option.some.inj e
                      omega
                  go_region_held3 (fun w' => w'.cell? ⟨w.heap.size, 0, none⟩ = some (.int .i64 s) ∧ w'.cell? ⟨w.heap.size, 1, none⟩ = some (.slice (some ⟨b, off, none⟩) n c0)) (first | go_keep | exact ⟨hx8, hy8⟩ | exact ⟨hx7, hy7⟩ | exact ⟨hx6, hy6⟩) (first
                    | (go_at_call 157; refine (sOwnI_any gc 0 K cd c _ HK.out (by omega) (HCy.out.on (by first | exact (Below.refl _ _).drew | exact bfrom (Below.refl _ _).drew (on_alloc _ _) | exact (on_alloc _ _).drew)).reads (by simp; omega)).mono ?_; rintro e' w6 ⟨g6, cap6, rfl, hg6, ho6, hb6⟩; have hB6 : Below wy.heap.size wy w6 := bfrom (by first | exact (Below.refl _ _).drew | exact bfrom (Below.refl _ _).drew (on_alloc _ _) | exact (on_alloc _ _).drew) hb6; have hz6 := hB6.size; have hx6 := ((bcells hB6).1 _ _ hzy).trans hxy; have hy6 := ((bcells hB6).1 _ _ hzy).trans hyy; have hg6' : wy.heap.size ≤ g6 := (by simp at hg6; omega); have hzr6 : w.heap.size < w6.heap.size := (by omega); (first | (have hnews : w6.cell? ⟨wy.heap.size, 0, none⟩ = some (.int .i64 (k : Int)) := ((bcells hb6).1 wy.heap.size 0 (new_lt wy _)).trans (new_at wy _ 2)) | skip))
                    | ((first | (refine step_copy_push (by rfl) (.tmp 71) (.tmp 73) (by rfl) g6 cap6 K wy.heap.size wy.heap.size k c (by rfl) (by rfl) ho6 HK.out hg6' hz6 (by omega) hnews ?_) | (refine step_copy_push (by rfl) (.tmp 71) (.tmp 73) (by rfl) g6 cap6 K w6.heap.size wy.heap.size k c (by rfl) (by rfl) (ho6.alloc _) HK.out hg6' (by simp; omega) (by omega) (by simp) ?_)); intro g7 cap7 w7 ho7 hb7 hg7; have hB7 : Below wy.heap.size wy w7 := (by first | exact hB6.trans hb7 | exact (hB6.alloc hz6 _).trans hb7); have hx7 := ((bcells hB7).1 _ _ hzy).trans hxy; have hy7 := ((bcells hB7).1 _ _ hzy).trans hyy; have hzr7 : w.heap.size < w7.heap.size := (by have := hB7.size; omega))
                    | (go_at_call 135; refine (HIH.out (c ++ [(k : Int)]) (K + 1) g7 cap7 T (tkL Ls (most + 1) (nmU es r c k)) cap' q' vals' _ (by rw [List.length_append, HK.out]; rfl) (by have := HKr.out; omega) ho7 (HRr.out.on (hby.trans (hB7.mono hwy))) (HRw.out.kept (fun i _ h => (hby.trans (hB7.mono hwy)).block i h)) HT.out hTl (by omega)).mono ?_; rintro e' w8 ⟨q8, cap8, vals8, rfl, hr8, hg8, hs8⟩; have hx8 := (hg8.cell_far (a := ⟨w.heap.size, 0, none⟩) hzr7 hfar).trans hx7; have hy8 := (hg8.cell_far (a := ⟨w.heap.size, 1, none⟩) hzr7 hfar).trans hy7))
                  all_goals
                    have HR8 := hid hr8
                    have HG8 := hid (And.intro (grown_next HGr.out.1 HGr.out.2 (grown_row (hby.trans (hB7.mono hwy)) hg8)) (HGr.out.2.next hs8 (by have := hB7.size; omega)))
                    clear hr8 hg8 hs8
                    go_wp2
                    go_roundw
                    case rel => exact ⟨k + 1, _, cap8, q8, vals8, by omega, rfl, by go_num, hid (by rw [HEq.out]), hid (by rw [← HEq.out]; exact HR8.out), hid HG8.out⟩
                    case measure => simp [intOf]; omega
          · have hend : ¬ (tkL Ls (most + 1) (nmU es r c k)).length < most + 1 ∨ k = 3 := by
              rw [HT.out]
              omega
            have HE := hid (nm_tail hk hend)
            have HEnd := hid (show RowsM wr B (tkL Ls (most + 1) (nmF es (r + 1) c)) cap' q' vals' by rw [← HE.out]; exact HRw.out)
            have HTn := hid (show T = (tkL Ls (most + 1) (nmF es (r + 1) c)).length by rw [← HE.out]; exact HT.out.symm)
            clear hend
            by_cases hk3 : k < 3
            · have hk3' : (k : Int) < 3 := by omega
              have hTn : ¬ ((T : Int) ≤ (most : Int)) := by omega
              go_wp2
              go_ret
              exact ⟨q', cap', vals', by rw [← HTn.out]; rfl, HEnd.out, grown_row HB4.out HGr.out.1, (by rcases HGr.out.2 with h | ⟨g, e, h⟩; exact .inl h; exact .inr ⟨g, e, by omega⟩)⟩
            · have hk3' : ¬ ((k : Int) < 3) := by omega
              go_wp2
              go_ret
              exact ⟨q', cap', vals', by rw [← HTn.out]; rfl, HEnd.out, grown_row HB4.out HGr.out.1, (by rcases HGr.out.2 with h | ⟨g, e, h⟩; exact .inl h; exact .inr ⟨g, e, by omega⟩)⟩

end Go.Proofs.Ytogdcoioflcdiaa
