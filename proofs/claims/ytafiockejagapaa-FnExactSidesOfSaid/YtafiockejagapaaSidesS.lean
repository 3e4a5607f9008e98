/- SidesOf in the model. -/
import Derived.Test.YtafiockejagapaaPartsJ
import Derived.Test.YtafiockejagapaaCutEI
import Derived.Test.YtafiockejagapaaRestT
import Derived.Test.YtafiockejagapaaRestS
import Derived.Deep.RegionHeld3

/- SidesOf in the program. -/
namespace Go.Proofs.Ytafiockejagapaa
open Go.RowKit

def fSidesOf (s : Int) (es : List (Int × Int)) (xs : List Int) : List (List Int) × Int := if IsG s es then (if isSetP es.length xs then (partsL s.toNat (restE es xs), 0) else ([], 2)) else ([], 1)

set_option maxRecDepth 100000 in
set_option maxHeartbeats 2000000 in
theorem iSides_code (s q0 : Int) (p ps : Option Addr) (n c k f : Nat) (es : List (Int × Int)) (xs : List Int) (w : World) (hm : n ≤ 1048576) (hn : es.length = n) (hr : SeesE w p es) (hk9 : k ≤ 1048576) (hx : xs.length = k) (hrx : SeesI w ps xs) (hq : edgesCode s es xs = q0) (hne : (q0 != 0) = true) :
    Calls Try.prog 36 #[.agg #[.int .i64 s, .slice p n c], .slice ps k f] w fun e' w' => e' = .returned (.tuple #[.slice none 0 0, .int .i64 q0]) ∧ Below w.heap.size w w' := by
  have Hn := hid hn
  have Hr := hid hr
  have Hx := hid hx
  have Hrx := hid hrx
  have HQ := hid hq
  clear hn hr hx hrx hq
  go_enter Try.func36, Try.ntmps36
  go_wp2_with fail
  refine (iCodeE_any _ _ _ _ _ _ _ es xs _ hm Hn.out (Hr.out.on (on_alloc _ _)) hk9 Hx.out (Hrx.out.on (on_alloc _ _))).mono ?_
  rw [HQ.out]
  rintro e w2 ⟨rfl, hb2⟩
  have HB2 := hid (bfrom (w := w) (on_alloc _ _) hb2)
  clear hb2
  go_wp2
  go_ret2
  exact ⟨rfl, HB2.out⟩

set_option maxRecDepth 100000 in
set_option maxHeartbeats 4000000 in
theorem iSides_yes (N : Nat) (b off n c k f : Nat) (ps : Option Addr) (es : List (Int × Int)) (xs : List Int) (w : World) (hn : es.length = n) (hr : ReadsE w b off es) (g : IsG N es) (hk9 : k ≤ 1048576) (hx : xs.length = k) (hrx : SeesI w ps xs) (gs : isSetP n xs) :
    Calls Try.prog 36 #[.agg #[.int .i64 N, .slice (some ⟨b, off, none⟩) n c], .slice ps k f] w fun e w' => ∃ q cap, e = .returned (.tuple #[.slice q (numP N (restE es xs)) cap, .int .i64 0]) ∧ FreshL w.heap.size w' q (numP N (restE es xs)) cap (partsL N (restE es xs)) ∧ Below w.heap.size w w' := by
  have hn30 : n ≤ 30 := by have := isG_len g; omega
  have Hn := hid hn
  have Hr := hid hr
  have Hx := hid hx
  have Hrx := hid hrx
  have hL30 : (restE es xs).length ≤ 30 := by have := restU_len es xs es.length; unfold restE; omega
  obtain ⟨R, hR⟩ : ∃ R, R = restE es xs := ⟨_, rfl⟩
  have HREQ := hid hR
  have HEI := hid (show EndsIn N R by rw [hR]; exact rest_ends (endsIn_of g))
  have HNE := hid (show ∀ i, i < R.length → eA R i ≠ eB R i by rw [hR]; exact rest_ne (isG_diff g))
  have HNN := hid (isG_twenty g)
  have HQ := hid (show edgesCode N es xs = 0 by unfold edgesCode setCode; rw [if_pos g, hn, if_pos gs])
  rw [← hR] at hL30 ⊢
  obtain ⟨m, hm⟩ : ∃ m, R.length = m := ⟨_, rfl⟩
  rw [hm] at hL30
  have HM := hid hm
  clear hn hr g hx hrx hR hm gs
  go_enter Try.func36, Try.ntmps36
  go_wp2_with fail
  refine (iCodeE_any _ _ _ _ _ _ _ es xs _ (by omega) Hn.out (SeesE.on (.inr ⟨b, off, rfl, Hr.out⟩) (on_alloc _ _)) hk9 Hx.out (Hrx.out.on (on_alloc _ _))).mono ?_
  rw [HQ.out]
  rintro e w3 ⟨rfl, hb3⟩
  have HB3 := hid (bfrom (w := w) (on_alloc _ _) hb3)
  have hX3 := (Box.new w N (some ⟨b, off, none⟩) n c 30).on hb3
  have hx3 := hX3.1
  have hy3 := hX3.2
  have hz3 := hX3.lt
  clear hX3 hb3
  go_wp2_with fail
  refine (iLeft_any N b off n c k f ps es xs _ Hn.out hn30 (Hr.out.on HB3.out) Hx.out hk9 (Hrx.out.on HB3.out)).mono ?_
  rw [← HREQ.out, HM.out]
  rintro e w4 ⟨gl, cR, rfl, hl4, hrd4, hb4⟩
  have HB4 := hid (bfrom HB3.out hb4)
  have HRd4 := hid hrd4
  clear hb4 hrd4 hx3 hy3 hz3
  go_wp2_with fail
  refine (iParts_any N gl 0 m cR R _ HM.out hL30 (by first | omega | (simp; omega)) (by first | exact HRd4.out | exact HRd4.out.on (on_alloc _ _)) HEI.out HNE.out HNN.out).mono ?_
  rintro e w5 ⟨q, cap, vals, rfl, hP, hb5⟩
  have HP := hid hP
  have HB5 := hid (by first | exact bfrom HB4.out hb5 | exact bfrom (bfrom HB4.out (on_alloc _ _)) hb5 : Below w.heap.size w w5)
  have hs4 := HB4.out.size
  clear hP hb5
  go_wp2
  go_ret2
  exact ⟨q, cap, rfl, (HP.out.less hs4).fresh, HB5.out⟩

theorem iSidesOf_any (s : Int) (p : Option Addr) (n c : Nat) (es : List (Int × Int)) (ps : Option Addr) (k f : Nat) (xs : List Int) (w : World) (hm : n ≤ 1048576) (hn : es.length = n) (hr : SeesE w p es) (hk : k ≤ 1048576) (hx : xs.length = k) (hrx : SeesI w ps xs) :
    Calls Try.prog 36 #[.agg #[.int .i64 s, .slice p n c], .slice ps k f] w fun e w' => ∃ q cap, e = .returned (.tuple #[.slice q (fSidesOf s es xs).1.length cap, .int .i64 (fSidesOf s es xs).2]) ∧ FreshL w.heap.size w' q (fSidesOf s es xs).1.length cap (fSidesOf s es xs).1 ∧ Below w.heap.size w w' := by
  unfold fSidesOf
  by_cases g : IsG s es
  · rw [if_pos g]
    obtain ⟨N, rfl⟩ : ∃ N : Nat, s = N := ⟨_, (Int.toNat_of_nonneg (by have := g.1.1.1; omega)).symm⟩
    rw [Int.toNat_natCast]
    by_cases gs : isSetP es.length xs
    · rw [if_pos gs]
      obtain ⟨b, off, rfl, rd⟩ := isG_sees g hr
      dsimp only
      rw [partsL_len]
      exact iSides_yes N b off n c k f ps es xs w hn rd g hk hx hrx (by rw [← hn]; exact gs)
    · rw [if_neg gs]
      exact (iSides_code N 2 p ps n c k f es xs w hm hn hr hk hx hrx (by unfold edgesCode setCode; rw [if_pos g, if_neg gs]) rfl).mono fun e w' ⟨h1, h2⟩ => ⟨none, 0, h1, ⟨rfl, .inl ⟨rfl, rfl, rfl⟩⟩, h2⟩
  · rw [if_neg g]
    exact (iSides_code s 1 p ps n c k f es xs w hm hn hr hk hx hrx (by unfold edgesCode; rw [if_neg g]) rfl).mono fun e w' ⟨h1, h2⟩ => ⟨none, 0, h1, ⟨rfl, .inl ⟨rfl, rfl, rfl⟩⟩, h2⟩

end Go.Proofs.Ytafiockejagapaa

namespace Go.Proofs.Ytafiockejagapaa
open Go.RowKit

theorem owns_empty (w : World) (g B : Nat) (h : w.heap[g]? = some (.cells #[] 36 (0, 0))) (hb : B ≤ g) : w.ownsRow B 36 1 (.slice (some ⟨g, 0, none⟩) 0 0) 0 [] :=
  ⟨by simp, .inr ⟨g, 0, #[], rfl, hb, h, Nat.zero_le _, Nat.zero_le _, rfl, by simp⟩⟩

set_option maxRecDepth 100000 in
set_option maxHeartbeats 2000000 in
theorem sSides_code (s q0 : Int) (p ps : Option Addr) (n c k f : Nat) (es : List (Int × Int)) (xs : List Int) (w : World) (hm : n ≤ 1048576) (hn : es.length = n) (hr : SeesE w p es) (hk9 : k ≤ 1048576) (hx : xs.length = k) (hrx : SeesI w ps xs) (hq : edgesCode s es xs = q0) (hne : (q0 != 0) = true) :
    Calls Try.prog 35 #[.agg #[.int .i64 s, .slice p n c], .slice ps k f] w fun e' w' => e' = .returned (.tuple #[.slice none 0 0, .int .i64 q0]) ∧ Below w.heap.size w w' := by
  have Hn := hid hn
  have Hr := hid hr
  have Hx := hid hx
  have Hrx := hid hrx
  have HQ := hid hq
  clear hn hr hx hrx hq
  go_enter Try.func35, Try.ntmps35
  go_wp2_with fail
  refine (sEdges_any _ _ _ _ _ _ _ es xs _ hm Hn.out (Hr.out.on (on_alloc _ _)) hk9 Hx.out (Hrx.out.on (on_alloc _ _))).mono ?_
  rw [HQ.out]
  rintro e w2 ⟨rfl, hb2⟩
  have HB2 := hid (bfrom (w := w) (on_alloc _ _) hb2)
  clear hb2
  go_wp2
  go_ret2
  exact ⟨rfl, HB2.out⟩

set_option maxRecDepth 100000 in
set_option maxHeartbeats 16000000 in
theorem sSides_yes (N : Nat) (b off n c k f : Nat) (ps : Option Addr) (es : List (Int × Int)) (xs : List Int) (w : World) (hn : es.length = n) (hr : ReadsE w b off es) (g : IsG N es) (hk9 : k ≤ 1048576) (hx : xs.length = k) (hrx : SeesI w ps xs) (gs : isSetP n xs) :
    Calls Try.prog 35 #[.agg #[.int .i64 N, .slice (some ⟨b, off, none⟩) n c], .slice ps k f] w fun e w' => ∃ q cap, e = .returned (.tuple #[.slice q (numP N (restE es xs)) cap, .int .i64 0]) ∧ FreshL w.heap.size w' q (numP N (restE es xs)) cap (partsL N (restE es xs)) ∧ Below w.heap.size w w' := by
  have hn30 : n ≤ 30 := by have := isG_len g; omega
  have hN4 : N ≤ 20 := by have := g.1.1.2.1; omega
  have Hn := hid hn
  have Hr := hid hr
  have Hx := hid hx
  have Hrx := hid hrx
  have GS := hid gs
  have hL30 : (restE es xs).length ≤ 30 := by have := restU_len es xs es.length; unfold restE; omega
  obtain ⟨R, hR⟩ : ∃ R, R = restE es xs := ⟨_, rfl⟩
  have HREQ := hid hR
  have HEI := hid (show EndsIn N R by rw [hR]; exact rest_ends (endsIn_of g))
  have HQ := hid (show edgesCode N es xs = 0 by unfold edgesCode setCode; rw [if_pos g, hn, if_pos gs])
  rw [← hR] at hL30 ⊢
  obtain ⟨m, hm⟩ : ∃ m, R.length = m := ⟨_, rfl⟩
  rw [hm] at hL30
  have HM := hid hm
  obtain ⟨j0, hj, hy0, hy1, hy2⟩ := info_parts infoInt
  obtain ⟨s0, hs, hs0, hs1, hs2⟩ := info_parts infoSl
  have Hj := hid hj
  have Hs := hid hs
  clear hn hr g hx hrx hR hm gs hj hs
  go_enter Try.func35, Try.ntmps35
  go_wp2_with fail
  refine (sEdges_any _ _ _ _ _ _ _ es xs _ (by omega) Hn.out (SeesE.on (.inr ⟨b, off, rfl, Hr.out⟩) (on_alloc _ _)) hk9 Hx.out (Hrx.out.on (on_alloc _ _))).mono ?_
  rw [HQ.out]
  rintro e w2 ⟨rfl, hb2⟩
  have HB2 := hid (bfrom (w := w) (on_alloc _ _) hb2)
  have hX2 := (Box.new w N (some ⟨b, off, none⟩) n c 30).on hb2
  have HX2 := hid hX2
  have hx2 := hX2.1
  have hy2' := hX2.2
  have hz2' := hX2.lt
  have HCR : ∀ wq, Below w2.heap.size w2 wq → Calls Try.prog 76 #[.agg #[.int .i64 N, .slice (some ⟨b, off, none⟩) n c], .slice ps k f] wq fun e' w' => ∃ q cap, e' = .returned (.slice q m cap) ∧ SeesE w' q R ∧ Below wq.heap.size wq w' ∧ Below w2.heap.size w2 w' := by
    intro wq hq
    refine (sRest_any N b off n c k f ps es xs wq Hn.out hn30 ((Hr.out.on HB2.out).on hq) Hx.out hk9 ((Hrx.out.on HB2.out).on hq) GS.out).mono ?_
    rw [← HREQ.out, HM.out]
    rintro e w' ⟨q, cap, rfl, hf, hb⟩
    exact ⟨q, cap, rfl, hf.sees, hb, bfrom hq hb⟩
  have HCL : ∀ wq q cap, Below w2.heap.size w2 wq → SeesE wq q R → Calls Try.prog 58 #[.int .i64 N, .slice q m cap] wq fun e' w' => ∃ g cap xl, e' = .returned (.slice (some ⟨g, 0, none⟩) N cap) ∧ w2.heap.size ≤ g ∧ wq.heap.size ≤ g ∧ OwnI w' g cap xl ∧ IsLead N R xl ∧ Below wq.heap.size wq w' ∧ Below w2.heap.size w2 w' := by
    intro wq q cap hq hs
    refine (sLeaders_any N q m cap R wq HM.out hL30 hN4 hs HEI.out).mono ?_
    rintro e w' ⟨g, cap, xl, rfl, hg, ho, hl, hb⟩
    exact ⟨g, cap, xl, rfl, by have := hq.size; omega, hg, ho, hl, hb, bfrom hq hb⟩
  clear hb2 hX2
  go_upto_region 4 with fail
  go_cut [7, 8] (fun u v wx => ∃ gl capl xl ge, u = .slice (some ⟨gl, 0, none⟩) N capl ∧ v = .slice (some ⟨ge, 0, none⟩) 0 0 ∧ Hid (OwnI wx gl capl xl ∧ IsLead N R xl ∧ w2.heap.size ≤ gl ∧ w2.heap.size ≤ ge ∧ ge ≠ gl ∧ wx.heap[ge]? = some (.cells #[] 36 (0, 0)) ∧ Below w2.heap.size w2 wx))
  case first =>
    go_region_held3 (fun w' => w'.cell? ⟨w.heap.size, 0, none⟩ = some (.int .i64 N) ∧ w'.cell? ⟨w.heap.size, 1, none⟩ = some (.slice (some ⟨b, off, none⟩) n c))
      (first | go_keep | (exact ⟨hk1, hk2⟩) | (exact ⟨hm1, hm2⟩))
      (first
        | (go_at_call 76; refine (HCR _ (by have := Below.refl w2.heap.size w2; go_grown)).mono ?_; rintro e' w3 ⟨qR, cR, rfl, hs3, hb3, hB3⟩; have hz3 := hB3.size; have hk1 := ((bcells hB3).1 _ _ hz2').trans hx2; have hk2 := ((bcells hB3).1 _ _ hz2').trans hy2')
        | (go_at_call 58; refine (HCL _ qR cR (bfrom hB3 (by have := Below.refl w3.heap.size w3; go_grown)) (hs3.on (by have := Below.refl w3.heap.size w3; go_grown))).mono ?_; rintro e' w4 ⟨gl, capl, xl, rfl, hgl, hglz, ho4, hl4, hb4, hB4⟩; have hm1 := ((bcells hB4).1 _ _ hz2').trans hx2; have hm2 := ((bcells hB4).1 _ _ hz2').trans hy2'))
    all_goals
      go_wp2_with fail
      go_meet
      have hzl := ho4.lt
      have hz4 := hB4.size
      have hz34 := hb4.size
      have hz23 := hb3.size
      (try simp only [World.size_alloc] at hglz)
      (try simp only [World.size_alloc] at hz34)
      (try simp only [drew_size, World.size_alloc] at hz23)
      first
        | exact ⟨gl, capl, xl, w4.heap.size, rfl, rfl, hid ⟨ho4.on (on_alloc _ _), hl4, hgl, hz4, by omega, heap_alloc_new _ _, bfrom hB4 (on_alloc _ _)⟩⟩
        | exact ⟨gl, capl, xl, w3.heap.size, rfl, rfl, hid ⟨ho4, hl4, hgl, hz3, by omega, (hb4.block _ (by first | omega | (simp only [World.size_alloc]; omega))).trans (heap_alloc_new _ _), hB4⟩⟩
        | exact ⟨gl, capl, xl, w2.heap.size, rfl, rfl, hid ⟨ho4, hl4, hgl, Nat.le_refl _, by omega, ((hb4.block _ (by first | omega | (simp only [drew_size, World.size_alloc]; omega))).trans (hb3.block _ (by first | omega | (simp only [drew_size, World.size_alloc]; omega)))).trans (heap_alloc_new _ _), hB4⟩⟩
  case rest =>
  obtain ⟨gl, capl, xl, ge, rfl, rfl, hcb⟩ := hcut
  obtain ⟨w5, rfl⟩ : ∃ w5, w5 = wc := ⟨_, rfl⟩
  have HL := hid hcb.out.2.1
  have HB5 := hid hcb.out.2.2.2.2.2.2
  have HP5 := hid (show PartsM w5 w2.heap.size N R 0 0 0 (some ⟨ge, 0, none⟩) [] from ⟨owns_empty w5 ge _ hcb.out.2.2.2.2.2.1 hcb.out.2.2.2.1, rfl, rfl, fun i hi => by omega, fun i j _ _ _ _ _ _ _ hj => by omega⟩)
  have HO5 := hid (show OwnI w5 gl capl xl ∧ ∀ j', (Value.slice (some ⟨ge, 0, none⟩) 0 0).ownBlock = some j' → j' ≠ gl from ⟨hcb.out.1, fun j' e => by have e1 : ge = j' := Option.some.inj e; rw [← e1]; exact hcb.out.2.2.2.2.1⟩)
  clear hcb hx2 hy2' hz2' HCR HCL
  go_wp2
  go_loopw [8, 9] (fun u v wr => ∃ (k K cap : Nat) (q : Option Addr) (vals : List Value), k ≤ N ∧ K ≤ k ∧ u = .slice q K cap ∧ v = .int .i64 k ∧ Hid (PartsM wr w2.heap.size N R k K cap q vals) ∧ Hid (Below w2.heap.size w2 wr) ∧ Hid (OwnI wr gl capl xl ∧ ∀ j', (Value.slice q K cap).ownBlock = some j' → j' ≠ gl)) (fun _ v _ => N - (intOf v).toNat)
  case atStart => exact ⟨0, 0, 0, _, [], Nat.zero_le _, Nat.le_refl _, rfl, rfl, HP5, HB5, HO5⟩
  case round =>
    obtain ⟨k, K, cap, q, vals, hk, hKk, rfl, rfl, hP, hB, hOL⟩ := hrel
    have HXr := hid (HX2.out.on hB.out)
    have hxr := HXr.out.1
    have hyr := HXr.out.2
    have hzr := HXr.out.lt
    by_cases hlt : k < N
    · have hlt' : (k : Int) < (N : Int) := by omega
      have HOr := hid hOL.out.1
      have hcl := HOr.out.reads k (by rw [HL.out.1.len]; exact hlt)
      rw [Nat.zero_add] at hcl
      have hbe := HL.out.at_lead HEI.out hlt
      have hne : (eI xl k != (k : Int)) = !leadB N R k := by rw [← hbe]; rfl
      obtain ⟨x, hx⟩ : ∃ x, eI xl k = x := ⟨_, rfl⟩
      rw [hx] at hcl hne
      clear hbe hx
      have hgr := HOr.out.lt
      cases hlb : leadB N R k
      · rw [hlb] at hne
        have HLb := hid hlb
        clear hlb
        have hne' : (x != (k : Int)) = true := hne
        clear hne
        go_wp2
        go_roundw
        case rel => exact ⟨k + 1, K, cap, q, vals, by omega, by omega, rfl, by go_num, hid (PartsM.skip hP.out HLb.out), hB, hOL⟩
        case measure => simp [intOf]; omega
      · rw [hlb] at hne
        have HLb := hid hlb
        clear hlb
        have hne' : (x != (k : Int)) = false := hne
        clear hne
        obtain ⟨wo, rfl⟩ : ∃ wo : World, wo = wr := ⟨_, rfl⟩
        obtain ⟨w6, hw6⟩ : ∃ w6, w6 = wo.alloc (.cells #[] 2) := ⟨_, rfl⟩
        go_wp2
        rw [← hw6]
        have HB6 := hid (show Below wo.heap.size wo w6 by rw [hw6]; exact on_alloc _ _)
        have HO6 := hid (show w6.ownsRow wo.heap.size 2 1 (.slice (some ⟨wo.heap.size, 0, none⟩) 0 0) 0 (intVals (reachU N R k k)) by rw [hw6, reach_from HEI.out hlt HLb.out]; exact World.ownsRow_made (base := wo.heap.size) (e := 2) (size := 1) wo #[] 0 (Nat.le_refl _) (Nat.zero_le _) rfl)
        clear hw6 hxr hyr hzr hcl
        go_loopw [10, 11] (fun u v wx => ∃ (j l cap : Nat) (q : Option Addr), k ≤ j ∧ j ≤ N ∧ l ≤ j ∧ u = .slice q l cap ∧ v = .int .i64 j ∧ Hid (wx.ownsRow wo.heap.size 2 1 (.slice q l cap) l (intVals (reachU N R k j)) ∧ (reachU N R k j).length = l) ∧ Hid (Below wo.heap.size wo wx)) (fun _ v _ => N - (intOf v).toNat)
        case atStart => exact ⟨k, 0, 0, _, Nat.le_refl _, hk, Nat.zero_le _, rfl, rfl, hid ⟨HO6.out, by rw [reach_from HEI.out hlt HLb.out]; rfl⟩, HB6⟩
        case round =>
          obtain ⟨j, l, capj, qj, hkj, hj, hlj, rfl, rfl, hOj, hBj⟩ := hrel
          have HXj := hid (HXr.out.on hBj.out)
          have hxj := HXj.out.1
          have hyj := HXj.out.2
          have hzj := HXj.out.lt
          by_cases hltj : j < N
          · have hltj' : (j : Int) < (N : Int) := by omega
            have HOl := hid (HOr.out.on hBj.out)
            have hcj := HOl.out.reads j (by rw [HL.out.1.len]; exact hltj)
            rw [Nat.zero_add] at hcj
            have hgj := HOl.out.lt
            have hrb := lead_reach HEI.out HL.out hlt hltj HLb.out
            obtain ⟨y, hy⟩ : ∃ y, eI xl j = y := ⟨_, rfl⟩
            rw [hy] at hcj hrb
            clear hy
            obtain ⟨wi, rfl⟩ : ∃ wi : World, wi = wr := ⟨_, rfl⟩
            cases hR : reachB N R k j
            · rw [hR] at hrb
              have HRB := hid hR
              clear hR
              go_wp2
              go_roundw
              case rel => exact ⟨j + 1, l, capj, qj, by omega, by omega, by omega, rfl, by go_num, hid (by rw [reachU_no HRB.out]; exact hOj.out), hBj⟩
              case measure => simp [intOf]; omega
            · rw [hR] at hrb
              have HRB := hid hR
              clear hR
              have hl31 : l + 1 ≤ 31 := by omega
              have HRow := hid (World.ownsRow.alloc hOj.out.1 (.cells #[.int .i64 j] 2))
              have hsz := hBj.out.size
              go_wp2_with (at_builtin; go_must (refine wpList_append_lies _ rfl (.tmp 51) (.tmp 53) 36 rfl wo.heap.size 2 j0 (.int .i64 0) 1 8 Try.underlying36 Hj.out hy0 hy1 hy2 rfl (by decide) (.slice qj l capj) l _ rfl HRow.out ⟨wi.heap.size, 0, none⟩ 1 1 [.int .i64 j] rfl rfl (World.news_of_block (cs := #[.int .i64 j]) (t := 2) (fr := (0, 0)) (heap_alloc_new _ _)) (by simp [Value.oneCell']) (by decide) (by unfold maxLen; omega) (by omega) (by rw [World.size_alloc]; omega) (wi.heap.size + 1) (by rw [World.size_alloc]) ?_); intro g7 cap7 w7 hown7 hgrow7 hlie7 hg7; have Hown := hid hown7; have Hgrow := hid hgrow7; clear hown7 hgrow7 hlie7)
              have hrow : ∀ j', (Value.slice qj l capj).ownBlock = some j' → wo.heap.size ≤ j' ∧ j' < wi.heap.size := hOj.out.1.lt
              go_roundw
              case rel =>
                refine ⟨j + 1, l + 1, cap7, some ⟨g7, 0, none⟩, by omega, by omega, by omega, rfl, by go_num, hid ⟨?_, ?_⟩, hid ?_⟩
                · rw [reachU_yes HRB.out, intVals_append]; exact Hown.out
                · rw [reachU_yes HRB.out, List.length_append, hOj.out.2]; rfl
                · exact (hBj.out.alloc hsz (.cells #[.int .i64 j] 2)).grown Hgrow.out (by rw [World.size_alloc]; omega) (fun j' e => (hrow j' e).1)
              case measure => simp [intOf]; omega
          · obtain ⟨wi, rfl⟩ : ∃ wi : World, wi = wr := ⟨_, rfl⟩
            have hjN := hid (show j = N by omega)
            have hrl := reach_self HEI.out hlt
            have HLn := hid (show (reachU N R k N).length = l by have h := hOj.out.2; rw [hjN.out] at h; exact h)
            have hl1 : 1 ≤ l := by have := HLn.out; omega
            obtain ⟨gp, rfl, hgp, hOp⟩ : ∃ g, qj = some ⟨g, 0, none⟩ ∧ wo.heap.size ≤ g ∧ OwnI wi g capj (reachU N R k N) := by
              have hF : FreshI wo.heap.size wi qj l capj (reachU N R k N) := by
                have h := hOj.out
                rw [hjN.out] at h
                exact h
              rcases hF.form with ⟨_, h, _⟩ | h
              · omega
              · exact h
            have HOp := hid hOp
            have HPw := hid (hP.out.grown (grown_below hBj.out) (fun r e => by cases e))
            have hK31 : K + 1 ≤ 31 := by omega
            have hsz := hBj.out.size
            have hsz4 := hB.out.size
            clear hOp hrl
            have HPa := hid (HPw.out.grown (World.grownBy_alloc wi (.cells #[.slice (some ⟨gp, 0, none⟩) l capj] 36) none) (fun r e => by cases e))
            go_wp2_with (at_builtin; go_must (refine wpList_append_lies _ rfl (.tmp 55) (.tmp 57) 46 rfl w2.heap.size 36 s0 (.slice none 0 0) 1 24 Try.underlying46 Hs.out hs0 hs1 hs2 rfl (by decide) (.slice q K cap) K vals rfl HPa.out.1 ⟨wi.heap.size, 0, none⟩ 1 1 [.slice (some ⟨gp, 0, none⟩) l capj] rfl rfl (World.news_of_block (cs := #[.slice (some ⟨gp, 0, none⟩) l capj]) (t := 36) (fr := (0, 0)) (heap_alloc_new _ _)) (by simp [Value.oneCell']) (by decide) (by unfold maxLen; omega) (by omega) (by simp; omega) (wi.heap.size + 1) (by simp) ?_); intro g8 cap8 w8 hown8 hgrow8 hlie8 hg8; have Hown8 := hid hown8; have Hgrow8 := hid hgrow8; have Hlie8 := hid hlie8; clear hown8 hgrow8 hlie8)
            have hrow8 : ∀ j', (Value.slice q K cap).ownBlock = some j' → w2.heap.size ≤ j' ∧ j' < (wi.alloc (.cells #[.slice (some ⟨gp, 0, none⟩) l capj] 36)).heap.size := HPa.out.1.lt
            go_roundw
            case rel =>
              refine ⟨k + 1, K + 1, cap8, some ⟨g8, 0, none⟩, _, by omega, by omega, rfl, by go_num, hid (PartsM.push HPa.out HLb.out (HOp.out.alloc _) (by omega) (fun i' g' m' c' hi' hv' => Nat.lt_of_lt_of_le (hP.out.lt hi' hv') hgp) HLn.out Hown8.out Hgrow8.out), hid ?_, hid ⟨?_, fun j' e => ?_⟩⟩
              · exact ((hB.out.trans (hBj.out.mono hsz4)).alloc (by omega) _).grown Hgrow8.out (by rw [World.size_alloc]; omega) (fun j' e => (hrow8 j' e).1)
              · exact ((HOr.out.on hBj.out).on (on_alloc _ _)).keep (Hgrow8.out.block gl (by have := ((HOr.out.on hBj.out).on (on_alloc wi (.cells #[.slice (some ⟨gp, 0, none⟩) l capj] 36))).lt; exact this) (fun e => (hOL.out.2 gl e.symm) rfl))
              · have ej : j' = g8 := (Option.some.inj e).symm
                have hgl := (HOr.out.on hBj.out).lt
                rcases Hlie8.out with h | h
                · exact fun e2 => hOL.out.2 j' (by rw [ej]; exact h) e2
                · omega
            case measure => simp [intOf]; omega
    · obtain ⟨wo, rfl⟩ : ∃ wo : World, wo = wr := ⟨_, rfl⟩
      have hkN := hid (show k = N by omega)
      have HPN := hid (show PartsM wo w2.heap.size N R N K cap q vals by have h := hP.out; rw [hkN.out] at h; exact h)
      go_wp2
      go_ret2
      have hK : numP N R = K := HPN.out.2.1
      have hs4 := HB2.out.size
      exact ⟨q, cap, by rw [hK]; rfl, by rw [hK]; exact (HPN.out.less hs4).fresh, HB2.out.trans (hB.out.mono hs4)⟩


theorem sSidesOf_any (s : Int) (p : Option Addr) (n c : Nat) (es : List (Int × Int)) (ps : Option Addr) (k f : Nat) (xs : List Int) (w : World) (hm : n ≤ 1048576) (hn : es.length = n) (hr : SeesE w p es) (hk : k ≤ 1048576) (hx : xs.length = k) (hrx : SeesI w ps xs) :
    Calls Try.prog 35 #[.agg #[.int .i64 s, .slice p n c], .slice ps k f] w fun e w' => ∃ q cap, e = .returned (.tuple #[.slice q (fSidesOf s es xs).1.length cap, .int .i64 (fSidesOf s es xs).2]) ∧ FreshL w.heap.size w' q (fSidesOf s es xs).1.length cap (fSidesOf s es xs).1 ∧ Below w.heap.size w w' := by
  unfold fSidesOf
  by_cases g : IsG s es
  · rw [if_pos g]
    obtain ⟨N, rfl⟩ : ∃ N : Nat, s = N := ⟨_, (Int.toNat_of_nonneg (by have := g.1.1.1; omega)).symm⟩
    rw [Int.toNat_natCast]
    by_cases gs : isSetP es.length xs
    · rw [if_pos gs]
      obtain ⟨b, off, rfl, rd⟩ := isG_sees g hr
      dsimp only
      rw [partsL_len]
      exact sSides_yes N b off n c k f ps es xs w hn rd g hk hx hrx (by rw [← hn]; exact gs)
    · rw [if_neg gs]
      exact (sSides_code N 2 p ps n c k f es xs w hm hn hr hk hx hrx (by unfold edgesCode setCode; rw [if_pos g, if_neg gs]) rfl).mono fun e w' ⟨h1, h2⟩ => ⟨none, 0, h1, ⟨rfl, .inl ⟨rfl, rfl, rfl⟩⟩, h2⟩
  · rw [if_neg g]
    exact (sSides_code s 1 p ps n c k f es xs w hm hn hr hk hx hrx (by unfold edgesCode; rw [if_neg g]) rfl).mono fun e w' ⟨h1, h2⟩ => ⟨none, 0, h1, ⟨rfl, .inl ⟨rfl, rfl, rfl⟩⟩, h2⟩

theorem fSidesOf_len (s : Int) (es : List (Int × Int)) (xs : List Int) (_ : es.length ≤ 1048576) (_ : xs.length ≤ 1048576) : (fSidesOf s es xs).1.length ≤ 1048576 := by
  unfold fSidesOf
  by_cases g : IsG s es
  · rw [if_pos g]
    split
    · have h := leadU_len s.toNat (restE es xs) s.toNat
      have := g.1.1.2.1
      show (partsL s.toNat (restE es xs)).length ≤ 1048576
      rw [partsL_len]
      omega
    · exact Nat.zero_le _
  · rw [if_neg g]; exact Nat.zero_le _
theorem fSidesOf_sum (s : Int) (es : List (Int × Int)) (xs : List Int) : 1 + sumLL (fSidesOf s es xs).1 (fSidesOf s es xs).1.length ≤ 1048576 := by
  unfold fSidesOf
  by_cases g : IsG s es
  · rw [if_pos g]
    split
    · have h := leadU_len s.toNat (restE es xs) s.toNat
      have := g.1.1.2.1
      have h1 : sumLL (partsL s.toNat (restE es xs)) (partsL s.toNat (restE es xs)).length ≤ (partsL s.toNat (restE es xs)).length * 20 := sumLL_le (fun i hi => by
        rw [partsL_len] at hi
        rw [lI_parts hi]
        have := reachU_len s.toNat (restE es xs) ((leadU s.toNat (restE es xs) s.toNat).getD i 0) s.toNat
        omega) _ (Nat.le_refl _)
      show 1 + sumLL (partsL s.toNat (restE es xs)) (partsL s.toNat (restE es xs)).length ≤ 1048576
      rw [partsL_len] at h1 ⊢
      omega
    · simp [sumLL]
  · rw [if_neg g]; simp [sumLL]

end Go.Proofs.Ytafiockejagapaa
