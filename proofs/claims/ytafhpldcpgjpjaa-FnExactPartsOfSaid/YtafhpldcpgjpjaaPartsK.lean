/- PartsOf in the model and in the program. -/
import Derived.Test.YtafhpldcpgjpjaaPartsJ
import Derived.Test.YtafhpldcpgjpjaaImplG
namespace Go.Proofs.Ytafhpldcpgjpjaa
open Go.RowKit

set_option maxRecDepth 100000 in
set_option maxHeartbeats 16000000 in
theorem sPartsOf_yes (N : Nat) (b off n c : Nat) (es : List (Int × Int)) (w : World) (hn : es.length = n) (hr : ReadsE w b off es) (g : IsG N es) :
    Calls Try.prog 16 #[.agg #[.int .i64 N, .slice (some ⟨b, off, none⟩) n c]] w fun e w' => ∃ q cap, e = .returned (.tuple #[.slice q (numP N es) cap, .int .i64 0]) ∧ FreshL w.heap.size w' q (numP N es) cap (partsL N es) ∧ Below w.heap.size w w' := by
  have hn30 : n ≤ 30 := by have := isG_len g; omega
  have hN4 : N ≤ 20 := by have := g.1.1.2.1; omega
  have Hn := hid hn
  have Hr := hid hr
  have G := hid g
  have EI := hid (endsIn_of g)
  obtain ⟨j0, hj, hy0, hy1, hy2⟩ := info_parts infoInt
  obtain ⟨s0, hs, hs0, hs1, hs2⟩ := info_parts infoSl
  have Hj := hid hj
  have Hs := hid hs
  clear hn hr g hj hs
  go_enter Try.func16, Try.ntmps16
  go_wp2_with fail
  refine (sIs_any _ _ _ _ es _ (by omega) Hn.out (SeesE.on (.inr ⟨b, off, rfl, Hr.out⟩) (on_alloc _ _))).mono ?_
  rw [decide_eq_true G.out]
  rintro e w2 ⟨rfl, hb2⟩
  have HB2 := hid (bfrom (w := w) (on_alloc _ _) hb2)
  have HX2 := hid ((Box.new w N (some ⟨b, off, none⟩) n c 31).on hb2)
  have hx2 := HX2.out.1
  have hy2' := HX2.out.2
  have hz2 := HX2.out.lt
  clear hb2
  go_wp2_with fail
  refine (sLeaders_any N _ n c es _ Hn.out hn30 hN4 (.inr ⟨b, off, rfl, Hr.out.on HB2.out⟩) EI.out).mono ?_
  rintro e w4 ⟨gl, capl, xs, rfl, hgl, hO, hL, hb4⟩
  have HO := hid hO
  have HL := hid hL
  have HB4 := hid (bfrom HB2.out hb4)
  have HX4 := hid (HX2.out.on hb4)
  have hgz := hO.lt
  have hz4 := HX4.out.lt
  clear hO hL hb4 hx2 hy2' hz2
  obtain ⟨w5, hw5⟩ : ∃ w5, w5 = w4.alloc (.cells #[] 44) := ⟨_, rfl⟩
  go_wp2
  rw [← hw5]
  have HB5 := hid (show Below w4.heap.size w4 w5 by rw [hw5]; exact on_alloc _ _)
  have HP5 := hid (show PartsM w5 w4.heap.size N es 0 0 0 (some ⟨w4.heap.size, 0, none⟩) [] from ⟨by rw [hw5]; exact World.ownsRow_made (base := w4.heap.size) (e := 44) (size := 1) w4 #[] 0 (Nat.le_refl _) (Nat.zero_le _) rfl, rfl, rfl, fun i hi => by omega, fun i j _ _ _ _ _ _ _ hj => by omega⟩)
  clear hw5
  go_loopw [5, 6] (fun u v wr => ∃ (k K cap : Nat) (q : Option Addr) (vals : List Value), k ≤ N ∧ K ≤ k ∧ u = .slice q K cap ∧ v = .int .i64 k ∧ Hid (PartsM wr w4.heap.size N es k K cap q vals) ∧ Hid (Below w4.heap.size w4 wr)) (fun _ v _ => N - (intOf v).toNat)
  case atStart => exact ⟨0, 0, 0, _, [], Nat.zero_le _, Nat.le_refl _, rfl, rfl, HP5, HB5⟩
  case round =>
    obtain ⟨k, K, cap, q, vals, hk, hKk, rfl, rfl, hP, hB⟩ := hrel
    have HXr := hid (HX4.out.on hB.out)
    have hxr := HXr.out.1
    have hyr := HXr.out.2
    have hzr := HXr.out.lt
    by_cases hlt : k < N
    · have hlt' : (k : Int) < (N : Int) := by omega
      have HOr := hid (HO.out.on hB.out)
      have hcl := HOr.out.reads k (by rw [HL.out.1.len]; exact hlt)
      rw [Nat.zero_add] at hcl
      have hbe := HL.out.at_lead EI.out hlt
      have hne : (eI xs k != (k : Int)) = !leadB N es k := by rw [← hbe]; rfl
      obtain ⟨x, hx⟩ : ∃ x, eI xs k = x := ⟨_, rfl⟩
      rw [hx] at hcl hne
      clear hbe hx
      have hgr := HOr.out.lt
      cases hlb : leadB N es k
      · rw [hlb] at hne
        have HLb := hid hlb
        clear hlb
        have hne' : (x != (k : Int)) = true := hne
        clear hne
        go_wp2
        go_roundw
        case rel => exact ⟨k + 1, K, cap, q, vals, by omega, by omega, rfl, by go_num, hid (PartsM.skip hP.out HLb.out), hB⟩
        case measure => simp [intOf]; omega
      · rw [hlb] at hne
        have HLb := hid hlb
        clear hlb
        have hne' : (x != (k : Int)) = false := hne
        clear hne
        obtain ⟨wo, rfl⟩ : ∃ wo : World, wo = wr := ⟨_, rfl⟩
        obtain ⟨w6, hw6⟩ : ∃ w6, w6 = wo.alloc (.cells #[] 2) := ⟨_, rfl⟩
        go_wp2
        rw [← hw6]
        have HB6 := hid (show Below wo.heap.size wo w6 by rw [hw6]; exact on_alloc _ _)
        have HO6 := hid (show w6.ownsRow wo.heap.size 2 1 (.slice (some ⟨wo.heap.size, 0, none⟩) 0 0) 0 (intVals (reachU N es k k)) by rw [hw6, reach_from EI.out hlt HLb.out]; exact World.ownsRow_made (base := wo.heap.size) (e := 2) (size := 1) wo #[] 0 (Nat.le_refl _) (Nat.zero_le _) rfl)
        clear hw6 hxr hyr hzr hcl
        go_loopw [7, 8] (fun u v wx => ∃ (j l cap : Nat) (q : Option Addr), k ≤ j ∧ j ≤ N ∧ l ≤ j ∧ u = .slice q l cap ∧ v = .int .i64 j ∧ Hid (wx.ownsRow wo.heap.size 2 1 (.slice q l cap) l (intVals (reachU N es k j)) ∧ (reachU N es k j).length = l) ∧ Hid (Below wo.heap.size wo wx)) (fun _ v _ => N - (intOf v).toNat)
        case atStart => exact ⟨k, 0, 0, _, Nat.le_refl _, hk, Nat.zero_le _, rfl, rfl, hid ⟨HO6.out, by rw [reach_from EI.out hlt HLb.out]; rfl⟩, HB6⟩
        case round =>
          obtain ⟨j, l, capj, qj, hkj, hj, hlj, rfl, rfl, hOj, hBj⟩ := hrel
          have HXj := hid (HXr.out.on hBj.out)
          have hxj := HXj.out.1
          have hyj := HXj.out.2
          have hzj := HXj.out.lt
          by_cases hltj : j < N
          · have hltj' : (j : Int) < (N : Int) := by omega
            have HOl := hid (HOr.out.on hBj.out)
            have hcj := HOl.out.reads j (by rw [HL.out.1.len]; exact hltj)
            rw [Nat.zero_add] at hcj
            have hgj := HOl.out.lt
            have hrb := lead_reach EI.out HL.out hlt hltj HLb.out
            obtain ⟨y, hy⟩ : ∃ y, eI xs j = y := ⟨_, rfl⟩
            rw [hy] at hcj hrb
            clear hy
            obtain ⟨wi, rfl⟩ : ∃ wi : World, wi = wr := ⟨_, rfl⟩
            cases hR : reachB N es k j
            · rw [hR] at hrb
              have HRB := hid hR
              clear hR
              go_wp2
              go_roundw
              case rel => exact ⟨j + 1, l, capj, qj, by omega, by omega, by omega, rfl, by go_num, hid (by rw [reachU_no HRB.out]; exact hOj.out), hBj⟩
              case measure => simp [intOf]; omega
            · rw [hR] at hrb
              have HRB := hid hR
              clear hR
              have hl31 : l + 1 ≤ 31 := by omega
              have HRow := hid (World.ownsRow.alloc hOj.out.1 (.cells #[.int .i64 j] 2))
              have hsz := hBj.out.size
              go_wp2_with (at_builtin; go_must (refine wpList_append_lies _ rfl (.tmp 44) (.tmp 46) 44 rfl wo.heap.size 2 j0 (.int .i64 0) 1 8 Try.underlying44 Hj.out hy0 hy1 hy2 rfl (by decide) (.slice qj l capj) l _ rfl HRow.out ⟨wi.heap.size, 0, none⟩ 1 1 [.int .i64 j] rfl rfl (World.news_of_block (cs := #[.int .i64 j]) (t := 2) (fr := (0, 0)) (heap_alloc_new _ _)) (by simp [Value.oneCell']) (by decide) (by unfold maxLen; omega) (by omega) (by rw [World.size_alloc]; omega) (wi.heap.size + 1) (by rw [World.size_alloc]) ?_); intro g7 cap7 w7 hown7 hgrow7 hlie7 hg7; have Hown := hid hown7; have Hgrow := hid hgrow7; clear hown7 hgrow7 hlie7)
              have hrow : ∀ j', (Value.slice qj l capj).ownBlock = some j' → wo.heap.size ≤ j' ∧ j' < wi.heap.size := hOj.out.1.lt
              go_roundw
              case rel =>
                refine ⟨j + 1, l + 1, cap7, some ⟨g7, 0, none⟩, by omega, by omega, by omega, rfl, by go_num, hid ⟨?_, ?_⟩, hid ?_⟩
                · rw [reachU_yes HRB.out, intVals_append]; exact Hown.out
                · rw [reachU_yes HRB.out, List.length_append, hOj.out.2]; rfl
                · exact (hBj.out.alloc hsz (.cells #[.int .i64 j] 2)).grown Hgrow.out (by rw [World.size_alloc]; omega) (fun j' e => (hrow j' e).1)
              case measure => simp [intOf]; omega
          · obtain ⟨wi, rfl⟩ : ∃ wi : World, wi = wr := ⟨_, rfl⟩
            have hjN := hid (show j = N by omega)
            have hrl := reach_self EI.out hlt
            have HLn := hid (show (reachU N es k N).length = l by have h := hOj.out.2; rw [hjN.out] at h; exact h)
            have hl1 : 1 ≤ l := by have := HLn.out; omega
            obtain ⟨gp, rfl, hgp, hOp⟩ : ∃ g, qj = some ⟨g, 0, none⟩ ∧ wo.heap.size ≤ g ∧ OwnI wi g capj (reachU N es k N) := by
              have hF : FreshI wo.heap.size wi qj l capj (reachU N es k N) := by
                have h := hOj.out
                rw [hjN.out] at h
                exact h
              rcases hF.form with ⟨_, h, _⟩ | h
              · omega
              · exact h
            have HOp := hid hOp
            have HPw := hid (hP.out.grown (grown_below hBj.out) (fun r e => by cases e))
            have hK31 : K + 1 ≤ 31 := by omega
            have hsz := hBj.out.size
            have hsz4 := hB.out.size
            clear hOp hrl
            have HPa := hid (HPw.out.grown (World.grownBy_alloc wi (.cells #[.slice (some ⟨gp, 0, none⟩) l capj] 44) none) (fun r e => by cases e))
            go_wp2_with (at_builtin; go_must (refine wpList_append_lies _ rfl (.tmp 48) (.tmp 50) 26 rfl w4.heap.size 44 s0 (.slice none 0 0) 1 24 Try.underlying26 Hs.out hs0 hs1 hs2 rfl (by decide) (.slice q K cap) K vals rfl HPa.out.1 ⟨wi.heap.size, 0, none⟩ 1 1 [.slice (some ⟨gp, 0, none⟩) l capj] rfl rfl (World.news_of_block (cs := #[.slice (some ⟨gp, 0, none⟩) l capj]) (t := 44) (fr := (0, 0)) (heap_alloc_new _ _)) (by simp [Value.oneCell']) (by decide) (by unfold maxLen; omega) (by omega) (by simp; omega) (wi.heap.size + 1) (by simp) ?_); intro g8 cap8 w8 hown8 hgrow8 hlie8 hg8; have Hown8 := hid hown8; have Hgrow8 := hid hgrow8; clear hown8 hgrow8 hlie8)
            have hrow8 : ∀ j', (Value.slice q K cap).ownBlock = some j' → w4.heap.size ≤ j' ∧ j' < (wi.alloc (.cells #[.slice (some ⟨gp, 0, none⟩) l capj] 44)).heap.size := HPa.out.1.lt
            go_roundw
            case rel =>
              refine ⟨k + 1, K + 1, cap8, some ⟨g8, 0, none⟩, _, by omega, by omega, rfl, by go_num, hid (PartsM.push HPa.out HLb.out (HOp.out.alloc _) (by omega) (fun i' g' m' c' hi' hv' => Nat.lt_of_lt_of_le (hP.out.lt hi' hv') hgp) HLn.out Hown8.out Hgrow8.out), hid ?_⟩
              exact ((hB.out.trans (hBj.out.mono hsz4)).alloc (by omega) _).grown Hgrow8.out (by rw [World.size_alloc]; omega) (fun j' e => (hrow8 j' e).1)
            case measure => simp [intOf]; omega
    · obtain ⟨wo, rfl⟩ : ∃ wo : World, wo = wr := ⟨_, rfl⟩
      have hkN := hid (show k = N by omega)
      have HPN := hid (show PartsM wo w4.heap.size N es N K cap q vals by have h := hP.out; rw [hkN.out] at h; exact h)
      go_wp2
      go_ret2
      have hK : numP N es = K := HPN.out.2.1
      have hs4 := HB4.out.size
      exact ⟨q, cap, by rw [hK]; rfl, by rw [hK]; exact (HPN.out.less hs4).fresh, HB4.out.trans (hB.out.mono hs4)⟩

set_option maxRecDepth 100000 in
set_option maxHeartbeats 2000000 in
theorem sPartsOf_no (s : Int) (p : Option Addr) (n c : Nat) (es : List (Int × Int)) (w : World) (hm : n ≤ 1048576) (hn : es.length = n) (hr : SeesE w p es) (g : ¬ IsG s es) :
    Calls Try.prog 16 #[.agg #[.int .i64 s, .slice p n c]] w fun e w' => e = .returned (.tuple #[.slice none 0 0, .int .i64 1]) ∧ Below w.heap.size w w' := by
  have Hn := hid hn
  have Hr := hid hr
  have G := hid g
  have hm9 : n ≤ 9223372036854775807 := by omega
  clear hn hr g
  go_enter Try.func16, Try.ntmps16
  go_wp2_with fail
  refine (sIs_any _ _ _ _ es _ hm9 Hn.out (Hr.out.on (on_alloc _ _))).mono ?_
  rw [decide_eq_false G.out]
  rintro e w2 ⟨rfl, hb2⟩
  have hB2 := bfrom (w := w) (by go_grown) hb2
  go_wp2
  go_ret2
  exact ⟨rfl, hB2⟩

theorem sPartsOf_any (s : Int) (p : Option Addr) (n c : Nat) (es : List (Int × Int)) (w : World) (hm : n ≤ 1048576) (hn : es.length = n) (hr : SeesE w p es) :
    Calls Try.prog 16 #[.agg #[.int .i64 s, .slice p n c]] w fun e w' => ∃ q cap, e = .returned (.tuple #[.slice q (fPartsOf s es).1.length cap, .int .i64 (fPartsOf s es).2]) ∧ FreshL w.heap.size w' q (fPartsOf s es).1.length cap (fPartsOf s es).1 ∧ Below w.heap.size w w' := by
  unfold fPartsOf
  by_cases g : IsG s es
  · rw [if_pos g]
    obtain ⟨N, rfl⟩ : ∃ N : Nat, s = N := ⟨_, (Int.toNat_of_nonneg (by have := g.1.1.1; omega)).symm⟩
    rw [Int.toNat_natCast]
    obtain ⟨b, off, rfl, rd⟩ := isG_sees g hr
    dsimp only
    rw [partsL_len]
    exact sPartsOf_yes N b off n c es w hn rd g
  · rw [if_neg g]
    exact (sPartsOf_no s p n c es w hm hn hr g).mono fun e w' ⟨h1, h2⟩ => ⟨none, 0, h1, ⟨rfl, .inl ⟨rfl, rfl, rfl⟩⟩, h2⟩

set_option maxRecDepth 100000 in
set_option maxHeartbeats 2000000 in
theorem iPartsOf_no (s : Int) (p : Option Addr) (n c : Nat) (es : List (Int × Int)) (w : World) (hm : n ≤ 1048576) (hn : es.length = n) (hr : SeesE w p es) (g : ¬ IsG s es) :
    Calls Try.prog 18 #[.agg #[.int .i64 s, .slice p n c]] w fun e w' => e = .returned (.tuple #[.slice none 0 0, .int .i64 1]) ∧ Below w.heap.size w w' := by
  have Hn := hid hn
  have Hr := hid hr
  have G := hid g
  have hm9 : n ≤ 9223372036854775807 := by omega
  clear hn hr g
  go_enter Try.func18, Try.ntmps18
  go_wp2_with fail
  refine (iIsGraph_any _ _ _ _ es _ hm Hn.out (Hr.out.on (on_alloc _ _))).mono ?_
  rw [decide_eq_false G.out]
  rintro e w2 ⟨rfl, hb2⟩
  have hB2 := bfrom (w := w) (by go_grown) hb2
  go_wp2
  go_ret2
  exact ⟨rfl, hB2⟩

set_option maxRecDepth 100000 in
set_option maxHeartbeats 4000000 in
theorem iPartsOf_yes (N : Nat) (b off n c : Nat) (es : List (Int × Int)) (w : World) (hn : es.length = n) (hr : ReadsE w b off es) (g : IsG N es) :
    Calls Try.prog 18 #[.agg #[.int .i64 N, .slice (some ⟨b, off, none⟩) n c]] w fun e w' => ∃ q cap, e = .returned (.tuple #[.slice q (numP N es) cap, .int .i64 0]) ∧ FreshL w.heap.size w' q (numP N es) cap (partsL N es) ∧ Below w.heap.size w w' := by
  have hn30 : n ≤ 30 := by have := isG_len g; omega
  have HNN := hid (show 1 ≤ N ∧ N ≤ 20 by have := g.1.1.1; have := g.1.1.2.1; omega)
  have Hn := hid hn
  have Hr := hid hr
  have G := hid g
  have EI := hid (endsIn_of g)
  have hlb : b < w.heap.size := reads_lt hr (by have := isG_len g; have := g.1.1.2.2.2; have := g.1.1.1; omega)
  have HNE := hid (show ∀ i, i < es.length → eA es i ≠ eB es i from fun _ hi => isG_ne g hi)
  clear hn hr g
  go_enter Try.func18, Try.ntmps18
  go_wp2_with fail
  refine (iIsGraph_any _ _ _ _ es _ (by omega) Hn.out (SeesE.on (.inr ⟨b, off, rfl, Hr.out⟩) (on_alloc _ _))).mono ?_
  rw [decide_eq_true G.out]
  rintro e w2 ⟨rfl, hb2⟩
  have HB2 := hid (bfrom (w := w) (on_alloc _ _) hb2)
  have HX2 := hid ((Box.new w N (some ⟨b, off, none⟩) n c 31).on hb2)
  have hx2 := HX2.out.1
  have hy2' := HX2.out.2
  have hz2 := HX2.out.lt
  clear hb2
  go_wp2_with fail
  refine (iParts_any N b off n c es _ Hn.out hn30 (by have := HB2.out.size; omega) (Hr.out.on HB2.out) EI.out HNE.out HNN.out).mono ?_
  rintro e w4 ⟨q, cap, vals, rfl, hP, hb4⟩
  have HP := hid hP
  have HB4 := hid (bfrom HB2.out hb4)
  have hs2 := HB2.out.size
  clear hP hb4 hx2 hy2' hz2
  go_wp2
  go_ret2
  exact ⟨q, cap, rfl, (HP.out.less hs2).fresh, HB4.out⟩

theorem iPartsOf_any (s : Int) (p : Option Addr) (n c : Nat) (es : List (Int × Int)) (w : World) (hm : n ≤ 1048576) (hn : es.length = n) (hr : SeesE w p es) :
    Calls Try.prog 18 #[.agg #[.int .i64 s, .slice p n c]] w fun e w' => ∃ q cap, e = .returned (.tuple #[.slice q (fPartsOf s es).1.length cap, .int .i64 (fPartsOf s es).2]) ∧ FreshL w.heap.size w' q (fPartsOf s es).1.length cap (fPartsOf s es).1 ∧ Below w.heap.size w w' := by
  unfold fPartsOf
  by_cases g : IsG s es
  · rw [if_pos g]
    obtain ⟨N, rfl⟩ : ∃ N : Nat, s = N := ⟨_, (Int.toNat_of_nonneg (by have := g.1.1.1; omega)).symm⟩
    rw [Int.toNat_natCast]
    obtain ⟨b, off, rfl, rd⟩ := isG_sees g hr
    dsimp only
    rw [partsL_len]
    exact iPartsOf_yes N b off n c es w hn rd g
  · rw [if_neg g]
    exact (iPartsOf_no s p n c es w hm hn hr g).mono fun e w' ⟨h1, h2⟩ => ⟨none, 0, h1, ⟨rfl, .inl ⟨rfl, rfl, rfl⟩⟩, h2⟩

theorem fPartsOf_len (s : Int) (es : List (Int × Int)) (_ : es.length ≤ 1048576) : (fPartsOf s es).1.length ≤ 1048576 := by
  unfold fPartsOf
  by_cases g : IsG s es
  · rw [if_pos g]
    have h := leadU_len s.toNat es s.toNat
    have := g.1.1.2.1
    show (partsL s.toNat es).length ≤ 1048576
    rw [partsL_len]
    omega
  · rw [if_neg g]; exact Nat.zero_le _
theorem fPartsOf_sum (s : Int) (es : List (Int × Int)) : 1 + sumLL (fPartsOf s es).1 (fPartsOf s es).1.length ≤ 1048576 := by
  unfold fPartsOf
  by_cases g : IsG s es
  · rw [if_pos g]
    have h := leadU_len s.toNat es s.toNat
    have := g.1.1.2.1
    have h1 : sumLL (partsL s.toNat es) (partsL s.toNat es).length ≤ (partsL s.toNat es).length * 20 := sumLL_le (fun i hi => by
      rw [partsL_len] at hi
      rw [lI_parts hi]
      have := reachU_len s.toNat es ((leadU s.toNat es s.toNat).getD i 0) s.toNat
      omega) _ (Nat.le_refl _)
    show 1 + sumLL (partsL s.toNat es) (partsL s.toNat es).length ≤ 1048576
    rw [partsL_len] at h1 ⊢
    omega
  · rw [if_neg g]; simp [sumLL]

end Go.Proofs.Ytafhpldcpgjpjaa
