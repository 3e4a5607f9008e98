/- A copy of a list in the model, and one number more behind it. Cut out of NrmS. -/
import Derived.Test.YtaafbdpdpndplaaLawsF
import Derived.Test.YtaafbdpdpndplaaOwnMore
import Derived.Deep.AppendLies
import Derived.Deep.DeepMust
import Derived.Deep.RegionHeld3
import Derived.Deep.RegionLaw
namespace Go.Proofs.Ytaafbdpdpndplaa
open Go.RowKit

theorem news_ofI {w w' : World} {b off n : Nat} {xs : List Int} (hn : xs.length = n) (hr : ReadsI w b off xs) (hc : ∀ i, i < n → w'.cell? ⟨b, off + i, none⟩ = w.cell? ⟨b, off + i, none⟩) : ∀ j u, (intVals xs)[j]? = some u → w'.cell? ((⟨b, off, none⟩ : Addr).add j) = some u := by
  intro j u hj
  rw [Addr.add_lit]
  have hjl : j < xs.length := by
    have := (List.getElem?_eq_some_iff.1 hj).1
    simpa [intVals] using this
  rw [intVals_at hjl] at hj
  rw [hc j (by omega), ← hj]
  exact hr j hjl

set_option maxRecDepth 100000 in
set_option maxHeartbeats 2000000 in
theorem sOwnI_any (b off n c : Nat) (xs : List Int) (w : World) (hn : xs.length = n) (hm : n ≤ 1048576) (hr : ReadsI w b off xs) (hb : b < w.heap.size) :
    Calls Try.prog 31 #[.slice (some ⟨b, off, none⟩) n c] w fun e w' => ∃ g cap, e = .returned (.slice (some ⟨g, 0, none⟩) n cap) ∧ w.heap.size ≤ g ∧ OwnI w' g cap xs ∧ Below w.heap.size w w' := by
  obtain ⟨i0, hi, hz0, hz1, hz2⟩ := info_parts infoInt
  have Hr := hid hr
  have Hn := hid hn
  clear hr hn
  go_enter Try.func31, Try.ntmps31
  go_wp2_with (at_builtin; refine wpList_append_own _ rfl _ _ 46 rfl w.heap.size 2 i0 (.int .i64 0) 1 8 Try.underlying46 hi hz0 hz1 hz2 rfl (by decide) _ _ _ rfl (World.ownsRow_made w #[] 0 (Nat.le_refl _) (Nat.zero_le _) rfl) ⟨b, off, none⟩ n c (intVals xs) rfl ?qc1 ?qc2 ?qc3 ?qc4 ?qc5 ?qc6 ?_)
  case qc1 => rw [show (intVals xs).length = xs.length by simp [intVals], Hn.out, Nat.mul_one]
  case qc2 => exact news_ofI Hn.out Hr.out (fun i hi => (bcells (on_alloc _ _)).1 _ _ hb)
  case qc3 => exact intVals_one xs
  case qc4 => unfold maxLen; omega
  case qc5 => omega
  case qc6 => simp
  intro v' w1 hown hgrow hnil
  have hB : Below w.heap.size w w1 := ((Below.refl _ w).alloc (Nat.le_refl _) _).grown hgrow (by simp) (by intro k hk; simp [Value.ownBlock] at hk; omega)
  have ho : w1.ownsRow w.heap.size 2 1 v' n (intVals xs) := by simpa using hown
  go_wp2
  go_ret
  rcases ho.2 with ⟨rfl, h0⟩ | ⟨g, cap, cur, rfl, hg, _⟩
  · exact (hnil rfl).elim
  · exact ⟨g, cap, rfl, hg, (OwnI.of_row ho Hn.out).1, hB⟩

/-- An append at a step that is wanted, whatever its guard. -/
theorem step_append_wanted {P : Program} {w : World} {ops : Array Oper} {o : Oper} {a : Act} {K : Act → World → Prop} {Q : Exit → Act → World → Prop} {E : Prop} (hw : Region.wanted o (yielded ops a.tmps) = true) (s x : Operand) (t : TypeId)
    (ho : o.op = .call { callee := .builtin .append, args := #[s, x], argTypes := #[t, t] })
    (base : Nat) (e : TypeId) (i : TypeInfo) (z : Value) (size bytes : Nat) (ht : P.underlying t = some (.slice e)) (hi : P.info? e = some i) (hz : i.zero = some z)
    (hsize : i.size = size) (hby : i.bytes = bytes) (hzs : z.cells.size = size) (hsz : 0 < size)
    (v : Value) (n : Nat) (xs : List Value) (hs : a.eval s = v) (hown : w.ownsRow base e size v n xs)
    (ad : Addr) (m c : Nat) (news : List Value) (hx : a.eval x = .slice (some ad) m c) (hl : news.length = m * size) (hnews : ∀ j u, news[j]? = some u → w.cell? (ad.add j) = some u) (h1 : ∀ u ∈ news, u.oneCell' = true)
    (hm : 0 < m) (h63 : n + m ≤ maxLen) (hbytes : (n + m) * bytes ≤ 140737488355328) (hbase : base ≤ w.heap.size)
    (h : ∀ g cap w', w'.ownsRow base e size (.slice (some ⟨g, 0, none⟩) (n + m) cap) (n + m) (xs ++ news) → w.grownBy w' v.ownBlock → (v.ownBlock = some g ∨ g = w.heap.size) → g < w'.heap.size → K (a.put o.dst (.slice (some ⟨g, 0, none⟩) (n + m) cap)) w') :
    if Region.wanted o (yielded ops a.tmps) = true then Oper.wp P o a w K Q else E := by
  rw [if_pos hw]
  exact wp_append_lies w s x t ho base e i z size bytes ht hi hz hsize hby hzs hsz v n xs hs hown ad m c news hx hl hnews h1 hm h63 hbytes hbase w.heap.size rfl h

theorem new_lt (w : World) (o : Obj) : w.heap.size < (w.alloc o).heap.size := by simp
theorem new_at (w : World) (x : Value) (t : TypeId) : (w.alloc (.cells #[x] t)).cell? ⟨w.heap.size, 0, none⟩ = some x := by simp
/-- A copied row with one number more, at a step that is wanted. -/
theorem step_copy_push {w : World} {ops : Array Oper} {o : Oper} {a : Act} {C : Act → World → Prop} {Q : Exit → Act → World → Prop} {E : Prop} (hw : Region.wanted o (yielded ops a.tmps) = true) (s x : Operand)
    (ho : o.op = .call { callee := .builtin .append, args := #[s, x], argTypes := #[46, 46] }) (g cap K gx base k : Nat) (c : List Int)
    (hs : a.eval s = .slice (some ⟨g, 0, none⟩) K cap) (hx : a.eval x = .slice (some ⟨gx, 0, none⟩) 1 1) (hO : OwnI w g cap c) (hK : c.length = K) (hg : base ≤ g) (hb : base ≤ w.heap.size) (hK9 : K ≤ 1000) (hnew : w.cell? ⟨gx, 0, none⟩ = some (.int .i64 (k : Int)))
    (h : ∀ g' cap' w', OwnI w' g' cap' (c ++ [(k : Int)]) → Below base w w' → base ≤ g' → C (a.put o.dst (.slice (some ⟨g', 0, none⟩) (K + 1) cap')) w') :
    if Region.wanted o (yielded ops a.tmps) = true then Oper.wp Try.prog o a w C Q else E := by
  obtain ⟨i0, hi, hy0, hy1, hy2⟩ := info_parts infoInt
  refine step_append_wanted hw s x 46 ho base 2 i0 (.int .i64 0) 1 8 Try.underlying46 hi hy0 hy1 hy2 rfl (by decide) _ K (intVals c) hs (OwnI.row hO hK hg) ⟨gx, 0, none⟩ 1 1 [.int .i64 (k : Int)] hx rfl (fun j u hj => ?_) (by simp [Value.oneCell']) (by decide) (by unfold maxLen; omega) (by omega) hb ?_
  · match j, hj with
    | 0, hj =>
      simp at hj
      subst hj
      simpa [Addr.add] using hnew
  · intro g' cap' w' hown hgrow hlie hg'
    have h2 := OwnI.of_row (xs := c ++ [(k : Int)]) (by rw [intVals_append]; exact hown) (by rw [List.length_append, hK]; rfl)
    exact h g' cap' w' h2.1 ((Below.refl base w).grown hgrow hb (fun j hj => by have e : g = j := Option.some.inj hj; omega)) h2.2

end Go.Proofs.Ytaafbdpdpndplaa
