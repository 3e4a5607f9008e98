/- MatchingsOf in the program: the walk. -/
import Derived.Test.YtaafbdpdpndplaaMtJ
import Derived.Test.YtaafbdpdpndplaaNcR
import Derived.Test.YtaafbdpdpndplaaImplG
namespace Go.Proofs.Ytaafbdpdpndplaa
open Go.RowKit Go.Shelf

attribute [local go_sem] Oper.semAt_some

def mcF (Us : List (List Int)) : List (List Int) × Int := if Us.length ≤ 60 then (Us, 0) else ([], 3)

/-- The rows that are kept so far; a block for them is there only once there is one. -/
def McAt (n B A : Nat) (pre : List (List Int)) (W : World) : Prop := ∃ u gf cf, (Boxed W B 36 u ∧ W.ownsRow A 46 1 u pre.length (rowsN n gf cf pre.length) ∧ NcRows n A gf cf pre W) ∧ (u.ownBlock ≠ none → 0 < pre.length)
theorem NcAt.mc {n B A : Nat} {pre : List (List Int)} {W : World} (h : NcAt n B A pre W) (hp : 0 < pre.length) : McAt n B A pre W := by
  obtain ⟨u, gf, cf, h⟩ := h
  exact ⟨u, gf, cf, h, fun _ => hp⟩
theorem mcAt_own (n B A : Nat) : Own (McAt n B A) := fun s W W' row h hg hr => by
  obtain ⟨u, gf, cf, ⟨h1, h2, h3⟩, h4⟩ := h
  have hk : ∀ k cur t fr, (k = B ∨ A ≤ k) → W.heap[k]? = some (Obj.cells cur t fr) → W'.heap[k]? = W.heap[k]? := fun k cur t fr _ hc => hg.block k (Array.getElem?_eq_some_iff.1 hc).1 (fun e => by
    obtain ⟨o, ho, hcl⟩ := hr k e.symm
    rw [hc] at ho
    cases ho
    cases hcl)
  exact ⟨u, gf, cf, ⟨(hk B _ _ _ (.inl rfl) h1).trans h1, rowN_same h2 (fun k c t f h1 h2 => hk k c t f (.inr h1) h2), h3.same (fun k c t f h1 h2 => hk k c t f (.inr h1) h2)⟩, h4⟩

/-- The rows that are kept so far are left alone by the search's own moves. -/
theorem mcAt_moved {n B A gc ga : Nat} {pre : List (List Int)} {X Y : World} (h : McAt n B (A + 2) pre X) (hm : MvS A gc ga X Y) (hB : B < A := by omega) (hgc : gc < A + 2 := by omega) (hga : ga < A + 2 := by omega) : McAt n B (A + 2) pre Y := by
  obtain ⟨u, gf, cf, ⟨hu, hrow, hR⟩, h0⟩ := h
  have hkr : ∀ k cur t fr, A + 2 ≤ k → t ≠ 4 → X.heap[k]? = some (Obj.cells cur t fr) → Y.heap[k]? = X.heap[k]? := fun k cur t fr h1 ht h2 => hm.2 k cur t fr (by omega) (by omega) (by omega) h2 ht
  refine ⟨u, gf, cf, ⟨(hm.1.same B hB hu.lt).trans hu, ?_, ⟨fun i hi => ?_, hR.apart⟩⟩, h0⟩
  · refine ⟨hrow.1, ?_⟩
    rcases hrow.2 with hn | ⟨g, c, cur, hv, hb, hg, r⟩
    · exact .inl hn
    · exact .inr ⟨g, c, cur, hv, hb, (hkr g _ _ _ hb (by decide) hg).trans hg, r⟩
  · obtain ⟨h1, h2, h3⟩ := hR.row i hi
    obtain ⟨cur, hc, _⟩ := h3
    exact ⟨h1, h2, (hR.row i hi).2.2.keep (hkr _ _ _ _ h1 (by decide) hc)⟩

/-- An append to a row of one's own; a row of one cell is not written into. -/
theorem run_append_one {P : Program} (w : World) (base : Nat) (t ty e : TypeId) (i : TypeInfo) (z : Value) (bytes : Nat) (ht : P.underlying t = some (.slice e)) (hi : P.info? e = some i) (hz : i.zero = some z)
    (hsize : i.size = 1) (hby : i.bytes = bytes) (hzs : z.cells.size = 1) (v : Value) (n : Nat) (xs : List Value) (hown : w.ownsRow base e 1 v n xs) (hn0 : v.ownBlock ≠ none → 0 < n)
    (a : Addr) (c : Nat) (u : Value) (hnews : w.cell? (a.add 0) = some u) (h1 : u.oneCell' = true)
    (h63 : n + 1 ≤ maxLen) (hbytes : (n + 1) * bytes ≤ 140737488355328) (hbase : base ≤ w.heap.size) :
    ∃ v' w', (Builtin.append_ #[t, t] ty #[v, .slice (some a) 1 c]).run P w = .ok v' w' ∧ w'.ownsRow base e 1 v' (n + 1) (xs ++ [u]) ∧ w.grownBy w' v.ownBlock ∧
      ∀ g cur fr, v.ownBlock = some g → w.heap[g]? = some (.cells cur e fr) → cur.size = 1 → w'.heap[g]? = w.heap[g]? := by
  have hnw : ∀ j x, [u][j]? = some x → w.cell? (a.add j) = some x := fun j x hj => by
    have hj0 : j = 0 := by
      have := (List.getElem?_eq_some_iff.1 hj).1
      simpa using this
    subst hj0
    cases hj
    exact hnews
  obtain ⟨v', w', hrun, r1, r2, r3⟩ := run_append_own (P := P) w base t ty e i z 1 bytes ht hi hz hsize hby hzs (by omega) v n xs hown a 1 c [u] rfl hnw (fun x hx => by rw [List.mem_singleton] at hx; rw [hx]; exact h1) h63 hbytes hbase
  refine ⟨v', w', hrun, r1, r2, fun g cur fr hg hc hs => ?_⟩
  have hn := hn0 (by rw [hg]; simp)
  rcases hown.2 with ⟨rfl, _⟩ | ⟨g', cap, cur', rfl, _, hg', hnc, _, hcs, _⟩
  · cases hg
  · obtain rfl : g' = g := Option.some.inj hg
    have hcc := Option.some.inj (hg'.symm.trans hc)
    injection hcc with hcc
    subst hcc
    have holds : ∀ j x, xs[j]? = some x → w.cell? ((⟨g', 0, none⟩ : Addr).add j) = some x := hown.cells (g := g') rfl
    have hr := run_append_grow (P := P) w t ty e i z ht hi hz ⟨g', 0, none⟩ n cap xs (by rw [hsize]; exact hown.1) holds a 1 c [u] (by rw [hsize]; rfl) hnw (by omega) (by unfold maxLen at h63; omega) (by
      have := growslice_fits (need := n + 1) (old := cap) (bytes := i.bytes) (by omega) (by rw [hby]; exact hbytes)
      exact this)
    rw [hr] at hrun
    cases hrun
    exact heap_alloc_old w.drew _ (Array.getElem?_eq_some_iff.1 hc).1

/-- The append at a step of a region that draws its order, in a round. -/
theorem stepIn_append_one {F : Fence} {nF : Nat} {P : Program} {w : World} {ops : Array Oper} {o : Oper} {a : Act} {K : Act → World → Prop} {Q : Exit → Act → World → Prop} {E : Prop} (hgd : o.guard = none) (s x : Operand) (t : TypeId)
    (hop : o.op = Op.call { callee := Callee.builtin Builtin.append, args := #[s, x], argTypes := #[t, t] })
    (base : Nat) (e : TypeId) (i : TypeInfo) (z : Value) (bytes : Nat) (h1 : P.underlying t = some (.slice e)) (h2 : P.info? e = some i) (h3 : i.zero = some z) (h4 : i.size = 1) (h5 : i.bytes = bytes) (h6 : z.cells.size = 1)
    (v : Value) (k : Nat) (xs : List Value) (hs : a.eval s = v) (hown : w.ownsRow base e 1 v k xs) (hk0 : v.ownBlock ≠ none → 0 < k) (ad : Addr) (c : Nat) (u : Value) (hx : a.eval x = .slice (some ad) 1 c)
    (hc : w.cell? (ad.add 0) = some u) (h1c : u.oneCell' = true) (b1 : k + 1 ≤ maxLen) (b2 : (k + 1) * bytes ≤ 140737488355328) (b3 : base ≤ w.heap.size)
    (hK : ∀ v' w', w'.ownsRow base e 1 v' (k + 1) (xs ++ [u]) → w.grownBy w' v.ownBlock → (∀ g cur fr, v.ownBlock = some g → w.heap[g]? = some (.cells cur e fr) → cur.size = 1 → w'.heap[g]? = w.heap[g]?) → K (a.put o.dst v') w') :
    if Region.wanted o (yielded ops a.tmps) = true then Oper.wpIn F nF P o a w K Q else E := by
  have hw : Region.wanted o (yielded ops a.tmps) = true := by simp [Region.wanted, hgd]
  rw [if_pos hw]
  obtain ⟨v', w', hrun, r1, r2, r3⟩ := run_append_one (P := P) w base t o.type e i z bytes h1 h2 h3 h4 h5 h6 v k xs hown hk0 ad c u hc h1c b1 b2 b3
  unfold Oper.wpIn
  refine ⟨?_, ?_⟩
  · simp [Oper.about, hop, resolve, Target.leads, Sem.run_pure]
  · rw [Oper.semAt_plain F _ _ (by rw [hop]; intro c hc'; cases hc')]
    simp [execOp, hop, resolve, invoke, builtin, hs, hx, hrun, Result.andThen]
    exact hK v' w' r1 r2 r3

/-- One row more. -/
theorem mc_push {n n0 B Ab k : Nat} {pre : List (List Int)} {x : List Int} {W W5 Z w1 : World} {u v' : Value} {gf cf : Nat → Nat} {g5 cap5 : Nat}
    (hu : Boxed W B 36 u) (hrow : W.ownsRow (Ab + 2) 46 1 u k (rowsN n gf cf k)) (hk : pre.length = k) (hR : NcRows n (Ab + 2) gf cf pre W)
    (hx : x.length = n) (hb5 : Below W.heap.size W W5) (hO5 : OwnI W5 g5 cap5 x) (hg5 : W.heap.size ≤ g5) (hA : Ab + 2 ≤ W.heap.size) (hB : B < Ab) (hn0 : n0 ≤ B)
    (hZ : Below W5.heap.size W5 Z) (hown : w1.ownsRow (Ab + 2) 46 1 v' (k + 1) (rowsN n gf cf k ++ [.slice (some ⟨g5, 0, none⟩) n cap5])) (hgrow : Z.grownBy w1 u.ownBlock)
    (hone : ∀ g cur fr, u.ownBlock = some g → Z.heap[g]? = some (.cells cur 46 fr) → cur.size = 1 → w1.heap[g]? = Z.heap[g]?) :
    (∀ Bk, KeepsFrom Bk W (w1.setCell ⟨B, 0, none⟩ v')) ∧ KeptF n0 Ab W (w1.setCell ⟨B, 0, none⟩ v') ∧ NcAt n B (Ab + 2) (pre ++ [x]) (w1.setCell ⟨B, 0, none⟩ v') ∧ Below B W (w1.setCell ⟨B, 0, none⟩ v') := by
  have hz5 := hb5.size
  have hzZ := hZ.size
  have hz1 := hgrow.size
  have hob : ∀ i, some i = u.ownBlock → Ab + 2 ≤ i ∧ i < W.heap.size ∧ ∃ cur fr, W.heap[i]? = some (.cells cur 46 fr) := fun i e => by
    rcases hrow.2 with ⟨rfl, _⟩ | ⟨g, cap, cur, rfl, hb, hg, _⟩
    · cases e
    · obtain rfl : i = g := Option.some.inj e
      exact ⟨hb, (Array.getElem?_eq_some_iff.1 hg).1, cur, _, hg⟩
  have h1k : ∀ i, i < W5.heap.size → some i ≠ u.ownBlock → w1.heap[i]? = W5.heap[i]? := fun i hi hne => (hgrow.block i (by omega) hne).trans (hZ.block i hi)
  have hk5 : ∀ i, i < W5.heap.size → i ≠ B → some i ≠ u.ownBlock → (w1.setCell ⟨B, 0, none⟩ v').heap[i]? = W5.heap[i]? := fun i hi hiB hne => (heap_setCell_other w1 ⟨B, 0, none⟩ i _ (by show i ≠ B; exact hiB)).trans (h1k i hi hne)
  have hkW : ∀ i, i < W.heap.size → i ≠ B → some i ≠ u.ownBlock → (w1.setCell ⟨B, 0, none⟩ v').heap[i]? = W.heap[i]? := fun i hi hiB hne => (hk5 i (by omega) hiB hne).trans (hb5.block i hi)
  have huz := hu.lt
  have hu1 : Boxed w1 B 36 u := ((h1k B (by omega) (fun e => by have := (hob B e).1; omega)).trans (hb5.block B huz)).trans hu
  have hsz : W.heap.size ≤ (w1.setCell ⟨B, 0, none⟩ v').heap.size := by simp [World.setCell]; omega
  have htp : ∀ i cur t fr, W.heap[i]? = some (.cells cur t fr) → t ≠ 46 → some i ≠ u.ownBlock := fun i cur t fr hc ht e => by
    obtain ⟨_, _, cur2, fr2, hc2⟩ := hob i e
    rw [hc] at hc2
    injection hc2 with hc2
    injection hc2 with _ hc3
    exact ht hc3
  refine ⟨fun Bk => ⟨hsz, fun i o _ hi ho => ?_⟩, ⟨⟨hgrow.os.trans (hZ.os.trans hb5.os), hgrow.tape.trans (hZ.tape.trans hb5.tape), hgrow.output.trans (hZ.output.trans hb5.output), hsz, fun i hi hl => hkW i hl (by omega) (fun e => by have := (hob i e).1; omega)⟩, hsz, fun i hi hl hsm => ?_⟩, ⟨v', updN gf k g5, updN cf k cap5, Boxed.set _ hu1, ?_, ⟨fun i hi => ?_, fun i j hi hj hij => ?_⟩⟩, ⟨?_, ?_, ?_, hsz, fun i hi => hkW i (by omega) (by omega) (fun e => by have := (hob i e).1; omega)⟩⟩
  · refine (hkW i (Array.getElem?_eq_some_iff.1 hi).1 (fun e => ?_) (fun e => ?_)).trans hi
    · subst e
      rw [show W.heap[i]? = _ from hu] at hi
      cases hi
      cases ho
    · obtain ⟨_, _, cur2, fr2, hc2⟩ := hob i e
      rw [hc2] at hi
      cases hi
      cases ho
  · by_cases he : some i = u.ownBlock
    · obtain ⟨_, hil, cur, fr, hc⟩ := hob i he
      have hcZ : Z.heap[i]? = some (.cells cur 46 fr) := ((hZ.block i (by omega)).trans (hb5.block i hil)).trans hc
      exact (heap_setCell_other w1 ⟨B, 0, none⟩ i _ (by show i ≠ B; omega)).trans ((hone i cur fr he.symm hcZ (hsm cur fr hc)).trans (hcZ.trans hc.symm))
    · exact hkW i hl (by omega) he
  · rw [List.length_append, hk]
    show World.ownsRow _ _ _ _ _ (k + 1) (rowsN n (updN gf k g5) (updN cf k cap5) (k + 1))
    rw [rowsN_push]
    exact hown.kept (grownBy_setCell' w1 B v') (.inr (hu1.not_row (by decide) hown).symm)
  · rw [List.length_append, hk] at hi
    by_cases e : i = k
    · subst e
      have e1 : updN gf i g5 i = g5 := if_pos rfl
      have e2 : updN cf i cap5 i = cap5 := if_pos rfl
      rw [e1, e2, ← hk, lI_last]
      exact ⟨by omega, hx, hO5.keep (hk5 g5 hO5.lt (by omega) (fun e => by have := (hob g5 e).2.1; omega))⟩
    · have hi2 : i < pre.length := by have : i < k + 1 := hi; omega
      have e1 : updN gf k g5 i = gf i := if_neg e
      have e2 : updN cf k cap5 i = cf i := if_neg e
      rw [e1, e2, lI_left hi2]
      obtain ⟨h1, h2, h3⟩ := hR.row i hi2
      refine ⟨h1, h2, h3.keep (hkW _ h3.lt (by omega) ?_)⟩
      obtain ⟨cur, hc, _⟩ := h3
      exact htp _ _ _ _ hc (by decide)
  · rw [List.length_append, hk] at hi hj
    have hi' : i < k + 1 := hi
    have hj' : j < k + 1 := hj
    unfold updN
    by_cases e : i = k
    · have e2 : j ≠ k := by omega
      rw [if_pos e, if_neg e2]
      have := (hR.row j (by omega)).2.2.lt
      omega
    · rw [if_neg e]
      by_cases e2 : j = k
      · rw [if_pos e2]
        have := (hR.row i (by omega)).2.2.lt
        omega
      · rw [if_neg e2]
        exact hR.apart i j (by omega) (by omega) hij
  · exact hgrow.os.trans (hZ.os.trans hb5.os)
  · exact hgrow.tape.trans (hZ.tape.trans hb5.tape)
  · exact hgrow.output.trans (hZ.output.trans hb5.output)

set_option maxRecDepth 100000 in
set_option maxHeartbeats 8000000 in
theorem iMc_yes (N H b off n c : Nat) (es : List (Int × Int)) (w : World) (hn : es.length = n) (hr : ReadsE w b off es) (g : IsG N es) (hH : N = 2 * H) :
    Calls Try.prog 15 #[.agg #[.int .i64 N, .slice (some ⟨b, off, none⟩) n c]] w fun e' w' => ∃ q cap, e' = .returned (.tuple #[.slice q (mcF (mtL N es)).1.length cap, .int .i64 (mcF (mtL N es)).2]) ∧ FreshP w.heap.size w' q (mcF (mtL N es)).1.length (mcF (mtL N es)).1 ∧ Below w.heap.size w w' := by
  obtain ⟨F, hF⟩ : ∃ F, mcF (mtL N es) = F := ⟨_, rfl⟩
  rw [hF]
  have HF := hid hF
  clear hF
  have hn30 : n ≤ 30 := by have := isG_len g; omega
  have hbb : b < w.heap.size := reads_lt hr (by have := g.1.1.2.2.2; have := g.1.1.1; omega)
  have Hn := hid hn
  have Hr := hid hr
  have G := hid g
  have HH := hid hH
  obtain ⟨s0, hsi, hg0, hg1, hg2⟩ := info_parts infoSlN
  have Hs := hid hsi
  clear hn hr g hsi hH
  refine (callsIn_wide (n := 6)).1 ?_
  refine callsIn_of_wp_marks Try.func15 rfl trivial ?_ rfl
  simp only [Try.ntmps15, List.size_toArray, List.length_cons, List.length_nil, Nat.reduceAdd, Nat.reduceSub, Array.replicate_succ, Array.replicate_zero, List.push_toArray, List.append_toArray, List.nil_append, List.cons_append]
  obtain ⟨w1, hw1⟩ : ∃ w1, w1 = ((w.alloc (.cells #[.int .i64 N, .slice (some ⟨b, off, none⟩) n c] 30)).alloc (.cells #[.slice none 0 0] 36)).alloc (.cells #[.int .i64 0] 2) := ⟨_, rfl⟩
  have HB1 := hid (show Below w.heap.size w w1 by rw [hw1]; exact bfrom (bfrom (on_alloc _ _) (on_alloc _ _)) (on_alloc _ _))
  have HX1 := hid (show Box w1 w.heap.size N (some ⟨b, off, none⟩) n c by rw [hw1]; exact ((Box.new w N (some ⟨b, off, none⟩) n c 30).on (on_alloc _ _)).on (on_alloc _ _))
  have HP1 := hid (show Boxed w1 (w.heap.size + 1) 36 (.slice none 0 0) by rw [hw1]; exact (boxedN_at _ _ _ _ (by simp)).alloc _)
  have HQ1 := hid (show Boxed w1 (w.heap.size + 1 + 1) 2 (.int .i64 0) by rw [hw1]; exact boxedN_at _ _ _ _ (by simp))
  have HZ1 := hid (show w1.heap.size = w.heap.size + 3 by rw [hw1]; simp)
  gi_wp2
  rw [← hw1]
  clear hw1
  refine ⟨trivial, ?_⟩
  refine (callsIn_wide.2 (iIsGraph_any _ _ _ _ es w1 (by omega) Hn.out (.inr ⟨b, off, rfl, Hr.out.on HB1.out⟩))).mono ?_
  rw [decide_eq_true G.out]
  rintro e w2 ⟨rfl, hb2⟩
  have HX2 := hid (HX1.out.on hb2)
  have hx2 := HX2.out.1
  have hy2 := HX2.out.2
  have hz2 := HX2.out.lt
  have HP2 := hid (boxN_on HP1.out hb2)
  have HQ2 := hid (boxN_on HQ1.out hb2)
  have HB2 := hid (bfrom HB1.out hb2)
  have hs2 : w.heap.size + 3 ≤ w2.heap.size := by have := hb2.size; have := HZ1.out; omega
  clear hb2
  gi_wp2_with (refine ⟨trivial, ?_⟩; gi_at_call 26; refine (callsIn_wide.2 (iMatchings_func _ _ _ _ _)).mono ?_; rintro e w' ⟨rfl, rfl⟩)
  obtain ⟨w3, hw3⟩ : ∃ w3, w3 = (((w2.alloc (.cells #[.slice none 0 0] 36)).alloc (.cells #[.int .i64 N, .slice (some ⟨b, off, none⟩) n c] 30)).alloc (.cells #[.int .i64 N, .slice (some ⟨b, off, none⟩) n c] 30)).alloc (.cells metZ 70) := ⟨_, rfl⟩
  have HZ3 := hid (show w3.heap.size = w2.heap.size + 4 by rw [hw3]; simp)
  have HB3 := hid (show Below w2.heap.size w2 w3 by rw [hw3]; exact bfrom (bfrom (bfrom (on_alloc _ _) (on_alloc _ _)) (on_alloc _ _)) (on_alloc _ _))
  have HL3 := hid (show Boxed w3 w2.heap.size 36 (.slice none 0 0) by rw [hw3]; exact (((boxedN_at _ _ _ _ rfl).alloc _).alloc _).alloc _)
  have hG3 : w3.heap[w2.heap.size + 1]? = some (.cells #[.int .i64 N, .slice (some ⟨b, off, none⟩) n c] 30 (0, 0)) := by
    rw [hw3]
    have h := World.alloc_heap_new (w2.alloc (.cells #[.slice none 0 0] 36)) (.cells #[.int .i64 N, .slice (some ⟨b, off, none⟩) n c] 30)
    rw [World.size_alloc] at h
    exact (((on_alloc _ _).block _ (by simp)).trans ((on_alloc _ _).block _ (by simp))).trans h
  have hG4 : w3.heap[w2.heap.size + 2]? = some (.cells #[.int .i64 N, .slice (some ⟨b, off, none⟩) n c] 30 (0, 0)) := by
    rw [hw3]
    have h := World.alloc_heap_new ((w2.alloc (.cells #[.slice none 0 0] 36)).alloc (.cells #[.int .i64 N, .slice (some ⟨b, off, none⟩) n c] 30)) (.cells #[.int .i64 N, .slice (some ⟨b, off, none⟩) n c] 30)
    simp only [World.size_alloc] at h
    exact ((on_alloc _ _).block _ (by simp)).trans h
  have hM3 : w3.heap[w2.heap.size + 3]? = some (.cells metZ 70 (0, 0)) := by
    rw [hw3]
    have h := World.alloc_heap_new (((w2.alloc (.cells #[.slice none 0 0] 36)).alloc (.cells #[.int .i64 N, .slice (some ⟨b, off, none⟩) n c] 30)).alloc (.cells #[.int .i64 N, .slice (some ⟨b, off, none⟩) n c] 30)) (.cells metZ 70)
    simp only [World.size_alloc] at h
    exact h
  rw [← hw3]
  clear hw3
  have hz3 := HZ3.out
  have hN20 : N ≤ 20 := by have := G.out.1.1.2.1; omega
  have HLL := hid (show mtF N es H [] (List.replicate 20 false) = mtL N es by unfold mtL; rw [show N / 2 = H by have := HH.out; omega])
  refine rangeFunc_movesK (n := 6) rfl (by omega) (gf := 42) (lb := #[.pointer (some ⟨w2.heap.size + 3, 0, none⟩), .pointer (some ⟨w2.heap.size + 2, 0, none⟩)]) rfl trivial (enters_of Try.func42 (by kernel_rfl) rfl) (A := w2.heap.size + 6) (by omega)
    (mt_moves 4 w2.heap.size (w2.heap.size + 6) (w2.heap.size + 2) (w2.heap.size + 3) b off n c N H H es (List.replicate 20 false) _ (by omega) (by omega) hG4 hM3 G.out Hn.out (by omega) ((Hr.out.on HB2.out).on HB3.out) (by simp) (by rw [unmF_none N hN20]; exact HH.out) HH.out (Nat.le_refl _))
    (fun h k => h.trans k)
    (fun W l o o' h1 h2 hl ho => ⟨⟨rfl, rfl, rfl, by simp [World.putObj], fun i hi _ => World.putObj_heap_other (by omega)⟩, by simp [World.putObj], fun i hi _ _ => World.putObj_heap_other (by omega)⟩)
    (fun h k => h.trans k)
    (fun W l o o' h1 h2 hl ho => ⟨by simp [World.putObj], fun i hi _ _ => World.putObj_heap_other (by omega)⟩)
    (fun Y Z i o h h1 h2 ho => (h.1.same i (by omega) (Array.getElem?_eq_some_iff.1 ho).1).trans ho) (fun Y Z h => h.1.size)
    (fun x W l o o' h h1 h2 hl ho => ⟨h.1.keep (World.putObj_heap_other (by omega)), h.2.1, by simpa [World.putObj] using h.2.2⟩) (Below.refl _ _) (fun _ => rfl)
    (fun (pre : List (List Int)) W => pre.length ≤ 60 ∧ McAt H w2.heap.size (w2.heap.size + 6 + 2) pre W ∧ Boxed W (w.heap.size + 1) 36 (.slice none 0 0) ∧ Boxed W (w.heap.size + 1 + 1) 2 (.int .i64 0) ∧ Below w.heap.size w W)
    (fun c' pre W => (c' = .ret ∧ 60 < pre.length) ∧ Boxed W (w.heap.size + 1) 36 (.slice none 0 0) ∧ Boxed W (w.heap.size + 1 + 1) 2 (.int .i64 3) ∧ Below w.heap.size w W)
    (OwnFrom.and (ownFrom_pure _ (fun (pre : List (List Int)) => pre.length ≤ 60)) (OwnFrom.and (Own.from (mcAt_own _ _ _) _) (OwnFrom.and (Own.from (boxed_own _ _ (fun _ => _)) _) (OwnFrom.and (Own.from (boxed_own _ _ (fun _ => _)) _) (ownFrom_below (Nat.le_refl _) (by omega))))))
    (fun c' => OwnFrom.and (ownFrom_pure _ (fun (pre : List (List Int)) => c' = .ret ∧ 60 < pre.length)) (OwnFrom.and (Own.from (boxed_own _ _ (fun _ => _)) _) (OwnFrom.and (Own.from (boxed_own _ _ (fun _ => _)) _) (ownFrom_below (Nat.le_refl _) (by omega)))))
    (fun s Y Z h hm => ⟨h.1, mcAt_moved h.2.1 hm, boxN_moved h.2.2.1 hm.1 (by omega), boxN_moved h.2.2.2.1 hm.1 (by omega), h.2.2.2.2.trans (hm.1.below (fun i hi => by omega) h.2.2.2.2.size)⟩)
    (fun c' s Y Z h hm => ⟨h.1, boxN_moved h.2.1 hm.1 (by omega), boxN_moved h.2.2.1 hm.1 (by omega), h.2.2.2.trans (hm.1.below (fun i hi => by omega) h.2.2.2.size)⟩)
    ⟨by simp, ⟨.slice none 0 0, fun _ => 0, fun _ => 0, ⟨HL3.out, World.ownsRow_nil _ _ _ _, ⟨fun i hi => by simp at hi, fun i k hi => by simp at hi⟩⟩, fun h => absurd rfl h⟩, boxN_on HP2.out HB3.out, boxN_on HQ2.out HB3.out, bfrom HB2.out HB3.out⟩
    ?a1 ?assign ?body ?done ?stop
  case assign =>
    intro l x W K hK
    gi_wp2
    exact hK
  case body =>
    rintro l pre x W ⟨hp2, ⟨u, gf, cf, ⟨hu, hrow, hR⟩, hk0⟩, h3, h4, hB⟩ hX hA hlt
    obtain ⟨k, hk⟩ : ∃ k, pre.length = k := ⟨_, rfl⟩
    rw [hk] at hp2 hrow hlt hk0
    obtain ⟨q, cap, rfl⟩ := row_formN hrow
    have HX := hid hX
    have HK0 := hid hk0
    have H3 := hid h3
    have H4 := hid h4
    have HBW := hid hB
    have HU := hid hu
    have HRow := hid hrow
    have HR := hid hR
    have HK := hid hk
    have hcu := hu.cell
    have hfu := hu.frozen
    have hzu := hu.lt
    have hz3 := h3.lt
    have hz4 := h4.lt
    have hc3 := h3.cell
    have hc4 := h4.cell
    have hf3 := h3.frozen
    have hf4 := h4.frozen
    have hzX := hX.2.2
    have hzW := hB.size
    clear h3 h4 hB hX hu hrow hR hk hk0
    by_cases hlt2 : k < 60
    · have hne : ¬ ((k : Int) = 60) := by omega
      have hn4 : 0 < H := by have := G.out.1.1.1; have := HH.out; omega
      have hH10 : H ≤ 10 := by have := HH.out; omega
      gi_wp2
      have hmix : Try.prog.follows .mixedOrders = true := by kernel_rfl
      refine wpIn_region_any hmix ?_
      (try (change wpAnyIn _ _ _ _ _ _ _ _ _ (World.drew _)))
      refine wpAnyIn_ready (rs := [0, 1]) (by kernel_rfl) (by simp) ?_
      refine AllReadyIn.cons rfl (fun K hK => ?_) ?_
      · go_simp
        refine hK _ _ ?_
        clear hK K
        refine wpAnyIn_ready (rs := [1]) (by kernel_rfl) (by simp) ?_
        refine AllReadyIn.cons rfl (fun K hK => ?_) ?_
        · go_simp
          refine hK _ _ ?_
          clear hK K
          refine wpAnyIn_ready (rs := [2]) (by kernel_rfl) (by simp) ?_
          refine AllReadyIn.cons rfl (fun K hK => ?_) ?_
          · go_simp
            refine ⟨trivial, ?_⟩
            gi_at_call 27
            refine (callsIn_wide.2 (cloneN_row (w2.heap.size + 6 + 1) 0 H H x _ HX.out.2.1 (by omega) (HX.out.1.on (Below.refl _ _).drew).reads)).mono ?_
            rintro e' W5 ⟨q5, cap5, rfl, hf5, hb5⟩
            obtain ⟨g5, rfl, hg5, ho5⟩ := fresh_some hf5 hn4
            have HB5 := hid (show Below W.heap.size W W5 from ⟨hb5.os, hb5.tape, hb5.output, hb5.size, hb5.block⟩)
            have HG5 := hid (show W.heap.size ≤ g5 from hg5)
            have HO5 := hid ho5
            have HRow5 := hid (rowN_same HRow.out (fun k' _ _ _ _ h2 => HB5.out.block k' (Array.getElem?_eq_some_iff.1 h2).1))
            have HU5 := hid (boxN_on HU.out HB5.out)
            have hcu5 := HU5.out.cell
            have hfu5 := HU5.out.frozen
            have hzu5 := HU5.out.lt
            have hzW5 := HB5.out.size
            have hzr5 : ∀ j, (Value.slice q k cap).ownBlock = some j → w2.heap.size + 6 + 2 ≤ j ∧ j < W5.heap.size := HRow5.out.lt
            clear hf5 hb5 hg5 ho5
            refine hK _ _ ?_
            clear hK K
            refine wpAnyIn_ready (rs := [3]) (by kernel_rfl) (by simp) ?_
            refine AllReadyIn.cons rfl (fun K hK => ?_) ?_
            · go_simp
              refine hK _ _ ?_
              clear hK K
              refine wpAnyIn_ready (rs := [4]) (by kernel_rfl) (by simp) ?_
              refine AllReadyIn.cons rfl (fun K hK => ?_) ?_
              · refine stepIn_append_one rfl (.tmp 15) (.tmp 18) 36 rfl (w2.heap.size + 6 + 2) 46 s0 (.slice none 0 0) 24 Try.underlying36 Hs.out hg0 hg1 hg2 rfl (.slice q k cap) k (rowsN H gf cf k) rfl (HRow5.out.alloc _) HK0.out ⟨W5.heap.size, 0, none⟩ 1 (.slice (some ⟨g5, 0, none⟩) H cap5) rfl (cell_one_new _ _ _ 0 _ rfl) rfl (by unfold maxLen; omega) (by omega) (by rw [World.size_alloc]; omega) ?_
                intro v' w9 hown9 hgrow9 hone9
                obtain ⟨g9, cap9, rfl⟩ := ownsRow_succ hown9
                have hu9 := (HU5.out.alloc _).kept hgrow9 (HU5.out.not_row (by decide) HRow5.out)
                have hcu9 := hu9.cell
                have hfu9 := hu9.frozen
                have hzu9 := hu9.lt
                refine hK _ _ ?_
                clear hK K
                refine wpAnyIn_ready (rs := [5]) (by kernel_rfl) (by simp) ?_
                refine AllReadyIn.cons rfl (fun K hK => ?_) ?_
                · go_simp
                  refine hK _ _ ?_
                  clear hK K
                  refine wpAnyIn_done (by kernel_rfl) ?_ _
                  gi_wp2
                  obtain ⟨f1, f2, f3, f4⟩ := mc_push (n := H) (n0 := w2.heap.size) (B := w2.heap.size) (Ab := w2.heap.size + 6) (k := k) HU.out HRow.out HK.out HR.out HX.out.2.1 HB5.out HO5.out HG5.out (by omega) (by omega) (Nat.le_refl _) (on_alloc W5 _) hown9 hgrow9 hone9
                  exact ⟨f1 _, f2, by rw [List.length_append, HK.out]; show k + 1 ≤ 60; omega, f3.mc (by simp), (f4.block _ (by omega)).trans H3.out, (f4.block _ (by omega)).trans H4.out, HBW.out.trans (f4.mono (by omega))⟩
                exact AllReadyIn.nil
              exact AllReadyIn.nil
            exact AllReadyIn.nil
          exact AllReadyIn.nil
        exact AllReadyIn.nil
      refine AllReadyIn.cons rfl (fun K hK => ?_) ?_
      · go_simp
        refine hK _ _ ?_
        clear hK K
        refine wpAnyIn_ready (rs := [0, 2]) (by kernel_rfl) (by simp) ?_
        refine AllReadyIn.cons rfl (fun K hK => ?_) ?_
        · go_simp
          refine hK _ _ ?_
          clear hK K
          refine wpAnyIn_ready (rs := [2]) (by kernel_rfl) (by simp) ?_
          refine AllReadyIn.cons rfl (fun K hK => ?_) ?_
          · go_simp
            refine ⟨trivial, ?_⟩
            gi_at_call 27
            refine (callsIn_wide.2 (cloneN_row (w2.heap.size + 6 + 1) 0 H H x _ HX.out.2.1 (by omega) (HX.out.1.on (Below.refl _ _).drew).reads)).mono ?_
            rintro e' W5 ⟨q5, cap5, rfl, hf5, hb5⟩
            obtain ⟨g5, rfl, hg5, ho5⟩ := fresh_some hf5 hn4
            have HB5 := hid (show Below W.heap.size W W5 from ⟨hb5.os, hb5.tape, hb5.output, hb5.size, hb5.block⟩)
            have HG5 := hid (show W.heap.size ≤ g5 from hg5)
            have HO5 := hid ho5
            have HRow5 := hid (rowN_same HRow.out (fun k' _ _ _ _ h2 => HB5.out.block k' (Array.getElem?_eq_some_iff.1 h2).1))
            have HU5 := hid (boxN_on HU.out HB5.out)
            have hcu5 := HU5.out.cell
            have hfu5 := HU5.out.frozen
            have hzu5 := HU5.out.lt
            have hzW5 := HB5.out.size
            have hzr5 : ∀ j, (Value.slice q k cap).ownBlock = some j → w2.heap.size + 6 + 2 ≤ j ∧ j < W5.heap.size := HRow5.out.lt
            clear hf5 hb5 hg5 ho5
            refine hK _ _ ?_
            clear hK K
            refine wpAnyIn_ready (rs := [3]) (by kernel_rfl) (by simp) ?_
            refine AllReadyIn.cons rfl (fun K hK => ?_) ?_
            · go_simp
              refine hK _ _ ?_
              clear hK K
              refine wpAnyIn_ready (rs := [4]) (by kernel_rfl) (by simp) ?_
              refine AllReadyIn.cons rfl (fun K hK => ?_) ?_
              · refine stepIn_append_one rfl (.tmp 15) (.tmp 18) 36 rfl (w2.heap.size + 6 + 2) 46 s0 (.slice none 0 0) 24 Try.underlying36 Hs.out hg0 hg1 hg2 rfl (.slice q k cap) k (rowsN H gf cf k) rfl (HRow5.out.alloc _) HK0.out ⟨W5.heap.size, 0, none⟩ 1 (.slice (some ⟨g5, 0, none⟩) H cap5) rfl (cell_one_new _ _ _ 0 _ rfl) rfl (by unfold maxLen; omega) (by omega) (by rw [World.size_alloc]; omega) ?_
                intro v' w9 hown9 hgrow9 hone9
                obtain ⟨g9, cap9, rfl⟩ := ownsRow_succ hown9
                have hu9 := (HU5.out.alloc _).kept hgrow9 (HU5.out.not_row (by decide) HRow5.out)
                have hcu9 := hu9.cell
                have hfu9 := hu9.frozen
                have hzu9 := hu9.lt
                refine hK _ _ ?_
                clear hK K
                refine wpAnyIn_ready (rs := [5]) (by kernel_rfl) (by simp) ?_
                refine AllReadyIn.cons rfl (fun K hK => ?_) ?_
                · go_simp
                  refine hK _ _ ?_
                  clear hK K
                  refine wpAnyIn_done (by kernel_rfl) ?_ _
                  gi_wp2
                  obtain ⟨f1, f2, f3, f4⟩ := mc_push (n := H) (n0 := w2.heap.size) (B := w2.heap.size) (Ab := w2.heap.size + 6) (k := k) HU.out HRow.out HK.out HR.out HX.out.2.1 HB5.out HO5.out HG5.out (by omega) (by omega) (Nat.le_refl _) (on_alloc W5 _) hown9 hgrow9 hone9
                  exact ⟨f1 _, f2, by rw [List.length_append, HK.out]; show k + 1 ≤ 60; omega, f3.mc (by simp), (f4.block _ (by omega)).trans H3.out, (f4.block _ (by omega)).trans H4.out, HBW.out.trans (f4.mono (by omega))⟩
                exact AllReadyIn.nil
              exact AllReadyIn.nil
            exact AllReadyIn.nil
          exact AllReadyIn.nil
        refine AllReadyIn.cons rfl (fun K hK => ?_) ?_
        · go_simp
          refine ⟨trivial, ?_⟩
          gi_at_call 27
          refine (callsIn_wide.2 (cloneN_row (w2.heap.size + 6 + 1) 0 H H x _ HX.out.2.1 (by omega) (HX.out.1.on (Below.refl _ _).drew).reads)).mono ?_
          rintro e' W5 ⟨q5, cap5, rfl, hf5, hb5⟩
          obtain ⟨g5, rfl, hg5, ho5⟩ := fresh_some hf5 hn4
          have HB5 := hid (show Below W.heap.size W W5 from ⟨hb5.os, hb5.tape, hb5.output, hb5.size, hb5.block⟩)
          have HG5 := hid (show W.heap.size ≤ g5 from hg5)
          have HO5 := hid ho5
          have HRow5 := hid (rowN_same HRow.out (fun k' _ _ _ _ h2 => HB5.out.block k' (Array.getElem?_eq_some_iff.1 h2).1))
          have HU5 := hid (boxN_on HU.out HB5.out)
          have hcu5 := HU5.out.cell
          have hfu5 := HU5.out.frozen
          have hzu5 := HU5.out.lt
          have hzW5 := HB5.out.size
          have hzr5 : ∀ j, (Value.slice q k cap).ownBlock = some j → w2.heap.size + 6 + 2 ≤ j ∧ j < W5.heap.size := HRow5.out.lt
          clear hf5 hb5 hg5 ho5
          refine hK _ _ ?_
          clear hK K
          refine wpAnyIn_ready (rs := [0, 3]) (by kernel_rfl) (by simp) ?_
          refine AllReadyIn.cons rfl (fun K hK => ?_) ?_
          · go_simp
            refine hK _ _ ?_
            clear hK K
            refine wpAnyIn_ready (rs := [3]) (by kernel_rfl) (by simp) ?_
            refine AllReadyIn.cons rfl (fun K hK => ?_) ?_
            · go_simp
              refine hK _ _ ?_
              clear hK K
              refine wpAnyIn_ready (rs := [4]) (by kernel_rfl) (by simp) ?_
              refine AllReadyIn.cons rfl (fun K hK => ?_) ?_
              · refine stepIn_append_one rfl (.tmp 15) (.tmp 18) 36 rfl (w2.heap.size + 6 + 2) 46 s0 (.slice none 0 0) 24 Try.underlying36 Hs.out hg0 hg1 hg2 rfl (.slice q k cap) k (rowsN H gf cf k) rfl (HRow5.out.alloc _) HK0.out ⟨W5.heap.size, 0, none⟩ 1 (.slice (some ⟨g5, 0, none⟩) H cap5) rfl (cell_one_new _ _ _ 0 _ rfl) rfl (by unfold maxLen; omega) (by omega) (by rw [World.size_alloc]; omega) ?_
                intro v' w9 hown9 hgrow9 hone9
                obtain ⟨g9, cap9, rfl⟩ := ownsRow_succ hown9
                have hu9 := (HU5.out.alloc _).kept hgrow9 (HU5.out.not_row (by decide) HRow5.out)
                have hcu9 := hu9.cell
                have hfu9 := hu9.frozen
                have hzu9 := hu9.lt
                refine hK _ _ ?_
                clear hK K
                refine wpAnyIn_ready (rs := [5]) (by kernel_rfl) (by simp) ?_
                refine AllReadyIn.cons rfl (fun K hK => ?_) ?_
                · go_simp
                  refine hK _ _ ?_
                  clear hK K
                  refine wpAnyIn_done (by kernel_rfl) ?_ _
                  gi_wp2
                  obtain ⟨f1, f2, f3, f4⟩ := mc_push (n := H) (n0 := w2.heap.size) (B := w2.heap.size) (Ab := w2.heap.size + 6) (k := k) HU.out HRow.out HK.out HR.out HX.out.2.1 HB5.out HO5.out HG5.out (by omega) (by omega) (Nat.le_refl _) (on_alloc W5 _) hown9 hgrow9 hone9
                  exact ⟨f1 _, f2, by rw [List.length_append, HK.out]; show k + 1 ≤ 60; omega, f3.mc (by simp), (f4.block _ (by omega)).trans H3.out, (f4.block _ (by omega)).trans H4.out, HBW.out.trans (f4.mono (by omega))⟩
                exact AllReadyIn.nil
              exact AllReadyIn.nil
            exact AllReadyIn.nil
          refine AllReadyIn.cons rfl (fun K hK => ?_) ?_
          · go_simp
            refine hK _ _ ?_
            clear hK K
            refine wpAnyIn_ready (rs := [0]) (by kernel_rfl) (by simp) ?_
            refine AllReadyIn.cons rfl (fun K hK => ?_) ?_
            · go_simp
              refine hK _ _ ?_
              clear hK K
              refine wpAnyIn_ready (rs := [4]) (by kernel_rfl) (by simp) ?_
              refine AllReadyIn.cons rfl (fun K hK => ?_) ?_
              · refine stepIn_append_one rfl (.tmp 15) (.tmp 18) 36 rfl (w2.heap.size + 6 + 2) 46 s0 (.slice none 0 0) 24 Try.underlying36 Hs.out hg0 hg1 hg2 rfl (.slice q k cap) k (rowsN H gf cf k) rfl (HRow5.out.alloc _) HK0.out ⟨W5.heap.size, 0, none⟩ 1 (.slice (some ⟨g5, 0, none⟩) H cap5) rfl (cell_one_new _ _ _ 0 _ rfl) rfl (by unfold maxLen; omega) (by omega) (by rw [World.size_alloc]; omega) ?_
                intro v' w9 hown9 hgrow9 hone9
                obtain ⟨g9, cap9, rfl⟩ := ownsRow_succ hown9
                have hu9 := (HU5.out.alloc _).kept hgrow9 (HU5.out.not_row (by decide) HRow5.out)
                have hcu9 := hu9.cell
                have hfu9 := hu9.frozen
                have hzu9 := hu9.lt
                refine hK _ _ ?_
                clear hK K
                refine wpAnyIn_ready (rs := [5]) (by kernel_rfl) (by simp) ?_
                refine AllReadyIn.cons rfl (fun K hK => ?_) ?_
                · go_simp
                  refine hK _ _ ?_
                  clear hK K
                  refine wpAnyIn_done (by kernel_rfl) ?_ _
                  gi_wp2
                  obtain ⟨f1, f2, f3, f4⟩ := mc_push (n := H) (n0 := w2.heap.size) (B := w2.heap.size) (Ab := w2.heap.size + 6) (k := k) HU.out HRow.out HK.out HR.out HX.out.2.1 HB5.out HO5.out HG5.out (by omega) (by omega) (Nat.le_refl _) (on_alloc W5 _) hown9 hgrow9 hone9
                  exact ⟨f1 _, f2, by rw [List.length_append, HK.out]; show k + 1 ≤ 60; omega, f3.mc (by simp), (f4.block _ (by omega)).trans H3.out, (f4.block _ (by omega)).trans H4.out, HBW.out.trans (f4.mono (by omega))⟩
                exact AllReadyIn.nil
              exact AllReadyIn.nil
            exact AllReadyIn.nil
          exact AllReadyIn.nil
        exact AllReadyIn.nil
      exact AllReadyIn.nil
    · have heq : (k : Int) = 60 := by omega
      gi_wp2
      exact ⟨((KeepsOthers.setCell _ _ _).trans (KeepsOthers.setCell _ _ _)).from _, ⟨by simp [World.setCell], fun i hi _ _ => (heap_setCell_other _ _ i _ (by show i ≠ w.heap.size + 1 + 1; omega)).trans (heap_setCell_other _ _ i _ (by show i ≠ w.heap.size + 1; omega))⟩, ⟨rfl, by rw [List.length_append, HK.out]; show 60 < k + 1; omega⟩, (Boxed.set _ H3.out).other (by omega) _, Boxed.set _ (H4.out.other (by omega) _), ((HBW.out.setCell (p := ⟨w.heap.size + 1, 0, none⟩) (by show w.heap.size ≤ w.heap.size + 1; omega) _).setCell (p := ⟨w.heap.size + 1 + 1, 0, none⟩) (by show w.heap.size ≤ w.heap.size + 1 + 1; omega) _)⟩
  case done =>
    rintro D ys W hD hS ⟨hp2, ⟨u, gf, cf, ⟨hu, hrow, hR⟩, _⟩, h3, h4, hB⟩ hK
    obtain ⟨k, hk⟩ : ∃ k, ys.length = k := ⟨_, rfl⟩
    rw [hk] at hp2 hrow
    obtain ⟨q, cap, rfl⟩ := row_formN hrow
    have HF0 := hid (show F = (ys, 0) by rw [← HF.out, ← HLL.out, ← hS]; unfold mcF; rw [if_pos (by omega)])
    have hcu := hu.cell
    have hzu := hu.lt
    have hc3 := h3.cell
    have hc4 := h4.cell
    have hf3 := h3.frozen
    have hf4 := h4.frozen
    have hz3 := h3.lt
    have hz4 := h4.lt
    obtain ⟨W2, hW2⟩ : ∃ W2, (W.setCell ⟨w.heap.size + 1, 0, none⟩ (.slice q k cap)).setCell ⟨w.heap.size + 1 + 1, 0, none⟩ (.int .i64 0) = W2 := ⟨_, rfl⟩
    have b3 : Boxed W2 (w.heap.size + 1) 36 (.slice q k cap) := by rw [← hW2]; exact (Boxed.set _ h3).other (by omega) _
    have b4 : Boxed W2 (w.heap.size + 1 + 1) 2 (.int .i64 0) := by rw [← hW2]; exact Boxed.set _ (h4.other (by omega) _)
    have hoth : ∀ k', w2.heap.size ≤ k' → W2.heap[k']? = W.heap[k']? := fun k' h1 => by
      rw [← hW2]
      exact (heap_setCell_other _ _ k' _ (by show k' ≠ w.heap.size + 1 + 1; omega)).trans (heap_setCell_other _ _ k' _ (by show k' ≠ w.heap.size + 1; omega))
    have hK2 : W2.heap[D]? = some (.deferred (some [])) := (hoth D (by omega)).trans hK
    have hBB : Below w.heap.size w W2 := by
      rw [← hW2]
      exact (hB.setCell (p := ⟨w.heap.size + 1, 0, none⟩) (by show w.heap.size ≤ w.heap.size + 1; omega) _).setCell (p := ⟨w.heap.size + 1 + 1, 0, none⟩) (by show w.heap.size ≤ w.heap.size + 1 + 1; omega) _
    have hsame : ∀ k' cur t fr, w2.heap.size + 6 + 2 ≤ k' → W.heap[k']? = some (Obj.cells cur t fr) → (W2.putObj D (.deferred none)).heap[k']? = W.heap[k']? := fun k' cur t fr h1 h2 => (World.putObj_heap_other (fun e => by
      subst e
      rw [h2] at hK
      cases hK)).trans (hoth k' (by omega))
    have hfr : FreshP w.heap.size (W2.putObj D (.deferred none)) q k ys := (hR.same hsame).fresh (rowN_same hrow hsame) hk (by omega)
    clear hrow hR hu hB hsame hoth
    gi_wp2

    refine ⟨by simp, .inl ⟨_, _, rfl, run_takeDeferred hK2, ?_⟩⟩
    refine ⟨_, results_lists rfl _ _ (w.heap.size + 1) (w.heap.size + 1 + 1) _ _ _ _ rfl rfl (b3.kept (grownBy_putObj' _ D (.deferred none)) (fun e => by have := Option.some.inj e; omega)) (b4.kept (grownBy_putObj' _ D (.deferred none)) (fun e => by have := Option.some.inj e; omega)), ?_⟩
    rw [HF0.out]
    exact ⟨q, cap, by rw [hk], by rw [hk]; exact hfr, hBB.trans (belowK_b (w := w) (Nat.le_refl _) _ D _ _ (by omega) hK2 rfl rfl)⟩
  case stop =>
    rintro D c' pre W hD hpre ⟨⟨rfl, hp⟩, h3, h4, hB⟩ hK
    have HF0 := hid (show F = ([], 3) by
      obtain ⟨z, hz⟩ := hpre
      have hl : (mtL N es).length = pre.length + z.length := by rw [← HLL.out, ← hz, List.length_append]
      rw [← HF.out]
      unfold mcF
      rw [if_neg (by omega)])
    gi_wp2
    refine ⟨by simp, .inl ⟨_, _, rfl, run_takeDeferred hK, ?_⟩⟩
    refine ⟨_, results_lists rfl _ _ (w.heap.size + 1) (w.heap.size + 1 + 1) _ _ _ _ rfl rfl (h3.kept (grownBy_putObj' _ D (.deferred none)) (fun e => by have := Option.some.inj e; omega)) (h4.kept (grownBy_putObj' _ D (.deferred none)) (fun e => by have := Option.some.inj e; omega)), ?_⟩
    rw [HF0.out]
    exact ⟨none, 0, rfl, ⟨rfl, .inl rfl⟩, hB.trans (belowK_b (w := w) (Nat.le_refl _) W D _ _ (by omega) hK rfl rfl)⟩

end Go.Proofs.Ytaafbdpdpndplaa
