/- AllCycles in the program. -/
import Derived.Test.YtfdlhdgmbjdhbaaAcC
import Derived.Test.YtfdlhdgmbjdhbaaAcX
import Derived.Test.YtfdlhdgmbjdhbaaImplG
import Derived.Test.YtfdlhdgmbjdhbaaPlc
namespace Go.Proofs.Ytfdlhdgmbjdhbaa
open Go.RowKit Go.Lib Go.Sort Go.Shelf

theorem heap_sortJ {α : Type} [Inhabited α] (enc : α → Value) {w : World} {g n : Nat} {os : Array Obj} {cur : Array Value} {e : TypeId} {fr : Nat × Nat} (d : Array α) (hb : w.heap[g]? = some (.cells cur e fr)) :
    (sortWorld enc w g 0 n d os).heap[g]? = some (.cells (putCells enc 0 d cur) e fr) := by
  have hg : g < w.heap.size := (Array.getElem?_eq_some_iff.1 hb).1
  unfold sortWorld
  rw [heap_grow_old _ _ (by simpa using hg)]
  simp [putRow, mapBlock, Sort.ahead, Array.getElem?_modify, hb, onCells]
theorem take_putJ {α : Type} [Inhabited α] (enc : α → Value) (cur : Array Value) (ts : List α) (h : ts.length ≤ cur.size) : (putCells enc 0 ts.toArray cur).toList.take ts.length = ts.map enc := by
  apply List.ext_getElem?
  intro j
  by_cases hj : j < ts.length
  · rw [List.getElem?_take_of_lt hj, Array.getElem?_toList]
    simp [putCells, hj, show j < cur.size by omega]
  · rw [List.getElem?_take_eq_none (by omega), List.getElem?_eq_none (by simp; omega)]
theorem finJ (ps : List AcP) : (List.finRange ps.length).map (fun i => ps[i]) = ps := by
  refine List.ext_getElem (by simp) fun i h1 h2 => ?_
  simp

theorem iSortJ_any (D B g cap n : Nat) (ps : List AcP) (w : World) (hn : ps.length = n) (h0 : 0 < n) (hm : n ≤ 1048576) (hd : (ps.map fun p => p.2.2).Nodup) (hrow : w.ownsRow D 41 1 (.slice (some ⟨g, 0, none⟩) n cap) n (ps.map acV)) (hat : AcAt w B ps) (hlen : ∀ p, p ∈ ps → p.2.2.length ≤ 1048576) :
    Calls Try.prog 46 #[.slice (some ⟨g, 0, none⟩) n cap, .func (.func 47) #[] #[]] w fun e w' => e = .returned (.tuple #[]) ∧ ∃ qs : List AcP, qs.length = n ∧ (qs.map fun p => p.2.2) = srtR (ps.map fun p => p.2.2) ∧ w'.ownsRow D 41 1 (.slice (some ⟨g, 0, none⟩) n cap) n (qs.map acV) ∧ AcAt w' B qs ∧ w.grownBy w' (some g) := by
  subst hn
  haveI : Inhabited (Fin ps.length) := ⟨⟨0, h0⟩⟩
  rcases hrow.2 with ⟨_, h⟩ | ⟨g', c', cur, hv, hb, hg, hc1, hc2, hc3, hc4⟩
  · omega
  obtain ⟨rfl, rfl⟩ : g = g' ∧ cap = c' := by cases hv; exact ⟨rfl, rfl⟩
  rw [Nat.mul_one] at hc3 hc4
  have hgl : g < w.heap.size := (Array.getElem?_eq_some_iff.1 hg).1
  have hpne : ∀ p, p ∈ ps → p.1 ≠ g ∧ p.1 < w.heap.size := fun p hp => by
    obtain ⟨cu, hcu, _⟩ := (hat.own p hp).2
    refine ⟨fun e => ?_, (hat.own p hp).2.lt⟩
    rw [e, hg] at hcu
    simp only [Option.some.injEq, Obj.cells.injEq] at hcu
    exact absurd hcu.2.1 (by decide)
  have eg : ∀ args w, (callFunc 47 args).run Try.prog w = .ok (.enter 47 args) w := enters_of Try.func47 (by kernel_rfl) rfl
  have hsize : (List.finRange ps.length).toArray.size = ps.length := by simp
  have hH : Holds (encJ ps) w g 0 (List.finRange ps.length).toArray := by
    intro j hj
    rw [hsize] at hj
    have hcj : cur[j]? = some (acV ps[j]) := by
      have h1 : (cur.toList.take ps.length)[j]? = (ps.map acV)[j]? := by rw [hc4]
      rw [List.getElem?_take_of_lt hj, Array.getElem?_toList, List.getElem?_map, List.getElem?_eq_getElem hj] at h1
      exact h1
    refine ⟨?_, by simp [World.frozen?, hg]⟩
    rw [Nat.zero_add]
    refine (cell_of_row w g j cur _ _ hg).trans (hcj.trans ?_)
    simp [encJ, hj]
  have hcmp : CmpLays1 Try.prog 47 #[] (encJ ps) (cmpP ps) g 0 (List.finRange ps.length).toArray.size w := fun m os dk _ x y => by
    have k : ∀ z : Fin ps.length, ReadsI (sortWorld (encJ ps) w g 0 m dk os) ps[z].1 0 ps[z].2.2 := fun z => by
      have hz : ps[z] ∈ ps := List.getElem_mem z.isLt
      exact ((hat.own _ hz).2.keep (sortWorld_other _ _ _ _ _ _ (hpne _ hz).2 (hpne _ hz).1)).reads
    exact cmpAc_any ps[x].1 0 ps[x].2.1 ps[y].1 0 ps[y].2.1 _ _ ps[x].2.2 ps[y].2.2 _ rfl rfl (hlen _ (List.getElem_mem x.isLt)) (hlen _ (List.getElem_mem y.isLt)) (k x) (k y)
  have hcon := Any.slices_SortFunc_total Try.sortL (encJ ps) (encJ_one ps) (cmpP ps) (cmpP_swo ps) 47 #[] g 0 cap (List.finRange ps.length).toArray w eg hcmp hH hgl (by rw [hsize]; omega) (cmpP_total hd)
  change Calls Try.prog 46 _ _ _ at hcon
  rw [hsize] at hcon
  refine hcon.mono ?_
  rintro e w' ⟨he, n, os, rfl⟩
  refine ⟨he, ((List.finRange ps.length).mergeSort fun x y => !(ltOf (cmpP ps)) y x).map (fun i => ps[i]), by simp, ?_, ?_, ?_, grownBy_sortJ _ _⟩
  · rw [List.map_map, ← sortJ_map]
    rfl
  · obtain ⟨S, hS⟩ : ∃ S, ((List.finRange ps.length).mergeSort fun x y => !(ltOf (cmpP ps)) y x) = S := ⟨_, rfl⟩
    have hl : S.length = ps.length := by rw [← hS]; simp
    show (sortWorld (encJ ps) w g 0 n ((List.finRange ps.length).mergeSort fun x y => !(ltOf (cmpP ps)) y x).toArray os).ownsRow _ _ _ _ _ _
    rw [hS]
    refine ⟨by simp [hl], .inr ⟨g, cap, _, rfl, hb, heap_sortJ _ _ hg, hc1, hc2, by simp [putCells, hc3], ?_⟩⟩
    have hT := take_putJ (encJ ps) cur S (by omega)
    rw [hl] at hT
    rw [Nat.mul_one, hT, List.map_map]
    rfl
  · have hp : (((List.finRange ps.length).mergeSort fun x y => !(ltOf (cmpP ps)) y x).map (fun i => ps[i])).Perm ps := by
      have h := (List.mergeSort_perm (List.finRange ps.length) fun x y => !(ltOf (cmpP ps)) y x).map (fun i => ps[i])
      rwa [finJ] at h
    refine ⟨fun p hpq => ?_, (hp.map Prod.fst).nodup_iff.2 hat.apart⟩
    have hp' := hp.mem_iff.1 hpq
    exact ⟨(hat.own p hp').1, (hat.own p hp').2.keep (sortWorld_other _ _ _ _ _ _ (hpne _ hp').2 (hpne _ hp').1)⟩

theorem freshP_ac {w : World} {B n cap : Nat} {q : Option Addr} {qs : List AcP} (hl : qs.length = n) (hrow : w.ownsRow B 41 1 (.slice q n cap) n (qs.map acV)) (hat : AcAt w B qs) : FreshP B w q n (qs.map fun p => p.2.2) := by
  refine ⟨by rw [List.length_map, hl], ?_⟩
  by_cases h0 : n = 0
  · exact .inl h0
  rcases hrow.2 with ⟨_, h⟩ | ⟨g, c', cur, hv, hb, hg, hc1, hc2, hc3, hc4⟩
  · exact absurd h h0
  obtain ⟨rfl, rfl⟩ : q = some ⟨g, 0, none⟩ ∧ cap = c' := by cases hv; exact ⟨rfl, rfl⟩
  have hli : ∀ i (hi : i < qs.length), lI (qs.map fun p => p.2.2) i = qs[i].2.2 := fun i hi => by
    unfold lI
    rw [List.getD_eq_getElem?_getD, List.getElem?_map, List.getElem?_eq_getElem hi]
    rfl
  obtain ⟨g2, hq2, _, _, hcl⟩ := row_cellA hrow (by omega)
  obtain rfl : g = g2 := by cases hq2; rfl
  have hpl : ∀ i (hi : i < qs.length), (qs.map Prod.fst).getD i 0 = qs[i].1 := fun i hi => by
    rw [List.getD_eq_getElem?_getD, List.getElem?_map, List.getElem?_eq_getElem hi]
    rfl
  refine .inr ⟨g, fun i => ((qs.map Prod.fst).getD i 0, 0), rfl, (Array.getElem?_eq_some_iff.1 hg).1, hb, fun i hi => ?_, fun i hi => ?_, fun i k hi hk hik => ?_⟩
  · rw [List.length_map] at hi
    dsimp only
    rw [hli i hi, hpl i hi]
    have h := hcl i (acV qs[i]) (by rw [List.getElem?_map, List.getElem?_eq_getElem hi]; rfl)
    rw [Addr.add_lit, Nat.zero_add] at h
    exact ⟨_, h⟩
  · rw [List.length_map] at hi
    dsimp only
    rw [hli i hi, hpl i hi]
    have ho := hat.own _ (List.getElem_mem hi)
    refine ⟨ho.1, fun e => ?_, ho.2.lt, ho.2.reads, fun j _ => ho.2.free _⟩
    obtain ⟨cu, hcu, _⟩ := ho.2
    rw [e, hg] at hcu
    simp only [Option.some.injEq, Obj.cells.injEq] at hcu
    exact absurd hcu.2.1 (by decide)
  · rw [List.length_map] at hi hk
    left
    dsimp only
    rw [hpl i hi, hpl k hk]
    intro e
    refine hik (nodup_inj hat.apart (i := i) (j := k) (by rw [List.length_map]; exact hi) (by rw [List.length_map]; exact hk) ?_)
    rw [List.getElem_map, List.getElem_map]
    exact e

theorem wpList_append_many {ops : Array Oper} {rest : List Oper} {o : Oper} {a : Act} {w : World} {Q : Exit → Act → World → Prop}
    (hg : o.guard = none) (s x : Operand) (hop : o.op = Op.call { callee := Callee.builtin Builtin.append, args := #[s, x], argTypes := #[35, 35] })
    {B B2 k1 c1 k2 c2 : Nat} {q1 q2 : Option Addr} {ps qs : List AcP} (hs : a.eval s = .slice q1 k1 c1) (hO : w.ownsRow B 41 1 (.slice q1 k1 c1) k1 (ps.map acV)) (hx : a.eval x = .slice q2 k2 c2) (hX : w.ownsRow B2 41 1 (.slice q2 k2 c2) k2 (qs.map acV))
    (hb : B ≤ w.heap.size) (h1 : k1 ≤ 200000000000) (h2 : k2 ≤ 200000000000)
    (hK : ∀ q3 c3 w', w'.ownsRow B 41 1 (.slice q3 (k1 + k2) c3) (k1 + k2) ((ps ++ qs).map acV) → w.grownBy w' (Value.slice q1 k1 c1).ownBlock → wpList Try.prog ops Q rest (a.put o.dst (.slice q3 (k1 + k2) c3)) w') :
    wpList Try.prog ops Q (o :: rest) a w := by
  refine wpList_plain hg fun K hK2 => ?_
  have h := step_append_many (ops := ops) (o := o) (a := a) (w := w) (K := K) (Q := Q) (E := False) hg s x hop hs hO hx hX hb h1 h2 (fun q3 c3 w' r1 r2 => hK2 _ _ (hK q3 c3 w' r1 r2))
  rwa [if_pos (by simp [Region.wanted, hg])] at h

end Go.Proofs.Ytfdlhdgmbjdhbaa
