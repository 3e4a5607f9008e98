/- Going on along the faces of a rotation, in the program: slices.Index at directed edges, aroundFaces' function. -/
import Derived.Test.YtnimlipogphhmaaAlongI
import Derived.Test.YtnimlipogphhmaaFacB
import Derived.Laws.StructEq
import Derived.Deep.RegionHeld3
import Derived.Deep.RegionWith
import Derived.BigQuiet
namespace Go.Proofs.Ytnimlipogphhmaa
open Go.RowKit Go.Shelf

attribute [local go_sem] Oper.semAt_some

set_option maxRecDepth 100000 in
set_option maxHeartbeats 4000000 in
theorem iIndexD_any (g c i0 E : Nat) (t : Int) (v : Int) (L : List (Nat × Int)) (w : World) (hl : L.length = 3) (hr : ReadsD w g v L) (hi0 : i0 < 3) (he : L.getD i0 (0, 0) = (E, t)) (hne : ∀ j, j < i0 → (L.getD j (0, 0)).1 ≠ E) :
    Calls Try.prog 95 #[.slice (some ⟨g, 0, none⟩) 3 c, dirV E v t] w fun e w' => e = .returned (.int .i64 i0) ∧ Below w.heap.size w w' := by
  have Hl := hid hl
  have Hr := hid hr
  have He := hid he
  have HNe := hid hne
  have hgz : g < w.heap.size := World.block_lt_of_cell? w ⟨g, 0 * 3, none⟩ (hr 0 (by omega)).1
  clear hl hr he hne
  go_enter Try.func95, Try.ntmps95
  have HB0 := hid (on_alloc w (.cells #[.int .i64 E, .int .i64 v, .int .i64 t] 90))
  have HX0 := hid (Box3.new w w.heap.size E v t rfl)
  obtain ⟨w2, hw2⟩ : ∃ w2, w2 = w.alloc (.cells #[.int .i64 E, .int .i64 v, .int .i64 t] 90) := ⟨_, rfl⟩
  rw [← hw2] at HX0 HB0
  have HR2 := hid (Hr.out.on HB0.out)
  have hs2 := HB0.out.size
  go_wp2
  rw [← hw2]
  clear hw2
  go_loopw [8] (fun i wr => ∃ k : Nat, k ≤ i0 ∧ i = .int .i64 k ∧ Hid (Below w2.heap.size w2 wr)) (fun i _ => 3 - (intOf i).toNat)
  case atStart => exact ⟨0, Nat.zero_le _, rfl, hid (Below.refl _ _)⟩
  case round =>
    obtain ⟨k, hk, rfl, hB⟩ := hrel
    have hlt' : (k : Int) < 3 := by omega
    obtain ⟨x0, x1, x2⟩ := (HR2.out.on hB.out) k (by rw [Hl.out]; omega)
    have hX := HX0.out.on hB.out
    have y0 := hX.c0
    have y1 := hX.c1
    have y2 := hX.c2
    have hxl := hX.lt
    have hgl : g < wr.heap.size := by have := hB.out.size; omega
    by_cases hki : k = i0
    · subst hki
      rw [He.out] at x0 x2
      dsimp only at x0 x2
      clear hX
      go_wp2
      go_quiet (fail)
      go_wp2
      go_ret
      exact ⟨rfl, by first | exact bfrom HB0.out hB.out | exact bfrom HB0.out (bdn.mpr hB.out)⟩
    · obtain ⟨P, hP⟩ : ∃ P, L.getD k (0, 0) = P := ⟨_, rfl⟩
      rw [hP] at x0 x2
      obtain ⟨x, y⟩ := P
      dsimp only at x0 x2
      have hxE : x ≠ E := by have := HNe.out k (by omega); rw [hP] at this; exact this
      have t1 : ((E : Int) == (x : Int)) = false := by simp; omega
      have t2 : ((x : Int) == (E : Int)) = false := by simp; omega
      have hki' : k < i0 := by omega
      clear hX hP hki
      go_wp2
      go_quiet (fail)
      go_wp2
      go_roundw
      case rel => exact ⟨k + 1, by omega, by go_num, by first | exact hB | exact hid (bdn.mpr hB.out)⟩
      case measure => simp [intOf]; omega

theorem ends_sum (es : List (Int × Int)) (d : Nat) : frD es d + toD es d = eA es (d / 2) + eB es (d / 2) := by
  unfold frD toD
  split <;> omega
theorem arF_onF {es : List (Int × Int)} {v : Int} (h : (arF es v).length = 3) {i : Nat} (hi : i < 3) : ((arF es v).getD i (0, 0)).1 = (onL es v).getD i 0 := by
  have h2 := arU_fst es v es.length
  have h4 : (arF es v).map (fun x => (x.1 : Int)) = (onL es v).map fun (i : Nat) => (i : Int) := by rw [← onL_at]; exact h2
  have h5 := congrArg List.length h4
  rw [List.length_map, List.length_map, h] at h5
  have h6 : ((arF es v).map (fun x => (x.1 : Int)))[i]? = ((onL es v).map fun (k : Nat) => (k : Int))[i]? := by rw [h4]
  rw [List.getElem?_map, List.getElem?_map, List.getElem?_eq_getElem (by omega), List.getElem?_eq_getElem (by omega)] at h6
  rw [List.getD_eq_getElem?_getD, List.getD_eq_getElem?_getD, List.getElem?_eq_getElem (by omega), List.getElem?_eq_getElem (by omega)]
  have h7 : (((arF es v)[i]'(by omega)).1 : Int) = (((onL es v)[i]'(by omega) : Nat) : Int) := Option.some.inj h6
  show ((arF es v)[i]'(by omega)).1 = (onL es v)[i]'(by omega)
  omega

set_option maxRecDepth 100000 in
set_option maxHeartbeats 16000000 in
theorem iAroundF_any (N d E V Bg Bs b off n c xb xo xc : Nat) (F : Int) (es : List (Int × Int)) (xs : List Int) (w : World) (hn : es.length = n) (hr : ReadsE w b off es) (g : IsG N es) (hx : xs.length = N) (hx1 : ∀ i, i < N → eI xs i = 0 ∨ eI xs i = 1) (hrx : ReadsI w xb xo xs)
    (hG0 : w.cell? ⟨Bg, 0, none⟩ = some (.int .i64 N)) (hG1 : w.cell? ⟨Bg, 1, none⟩ = some (.slice (some ⟨b, off, none⟩) n c)) (hS : w.cell? ⟨Bs, 0, none⟩ = some (.slice (some ⟨xb, xo, none⟩) N xc))
    (hd : d < 2 * n) (hE : d / 2 = E) (hF : frD es d = F) (hV : toD es d = V) (P : Nat) (Y : Int) (hP : nxD es xs d / 2 = P) (hY : toD es (nxD es xs d) = Y) :
    Calls Try.prog 94 #[dirV E F V, .pointer (some ⟨Bg, 0, none⟩), .pointer (some ⟨Bs, 0, none⟩)] w fun r w' => r = .returned (dirV P V Y) ∧ Below w.heap.size w w' := by
  have hn30 : n ≤ 30 := by have := isG_len g; omega
  have hN20 : N ≤ 20 := by have := g.1.1.2.1; omega
  have h1n : 1 ≤ n := by have := g.1.1.2.2.2; have := g.1.1.1; omega
  obtain ⟨i0, j, hi3, hgi, hidx, hj, hnx, hfr, hlt⟩ := nxD_at (xs := xs) g (by rw [hn]; exact hd)
  obtain ⟨⟨t1, t1'⟩, t2, t3⟩ := toD_in g (by rw [hn]; exact hd)
  obtain ⟨l1, l2, l3⟩ := onL_getD g (v := toD es d) ⟨t1, t1'⟩
  have hsD := ends_sum es d
  have hsN := ends_sum es (nxD es xs d)
  rw [hF, hE, hV] at hsD
  rw [hfr, hP, hY, hV] at hsN
  rw [hV] at hgi hidx hj hnx t1 t1' t2 l1 l2 l3
  have hVN : V < N := by omega
  have hVN' : (V : Int) < (N : Int) := by omega
  rw [hE] at hgi hidx t2
  rw [hP] at hnx
  obtain ⟨hL3, hLa, hLb⟩ := arF_at g (v := (V : Int)) ⟨by omega, by omega⟩
  obtain ⟨r, hr1⟩ : ∃ r : Nat, eI xs V = r := ⟨(eI xs V).toNat, by have := hx1 V hVN; omega⟩
  have hr2 : r ≤ 1 := by have := hx1 V hVN; omega
  rw [Int.toNat_natCast, hr1, Int.toNat_natCast] at hj
  have hj3 : j < 3 := by rw [hj]; exact Nat.mod_lt _ (by decide)
  have hcr := hrx V (by rw [hx]; exact hVN)
  rw [hr1] at hcr
  have hmin : ∀ q, q < i0 → (onL es (V : Int)).getD q 0 ≠ E := fun q hq e => by
    rw [List.getD_eq_getElem?_getD, List.getElem?_eq_getElem (by omega)] at e
    rw [List.getD_eq_getElem?_getD, List.getElem?_eq_getElem (by omega)] at hgi
    have := (List.getElem_inj l2).1 ((show (onL es (V : Int))[q] = E from e).trans (show E = (onL es (V : Int))[i0] from hgi.symm))
    omega
  have a1 : (arF es V).getD i0 (0, 0) = (E, F) := by
    refine Prod.ext ?_ ?_
    · rw [arF_onF hL3 hi3]; exact hgi
    · rw [(hLa i0 hi3).2.2, arF_onF hL3 hi3, hgi]
      show eA es E + eB es E - (V : Int) = F
      omega
  have a2 : (arF es V).getD j (0, 0) = (P, Y) := by
    refine Prod.ext ?_ ?_
    · rw [arF_onF hL3 hj3]; exact hnx.symm
    · rw [(hLa j hj3).2.2, arF_onF hL3 hj3, ← hnx]
      show eA es P + eB es P - (V : Int) = Y
      omega
  have a3 : ∀ q, q < i0 → ((arF es V).getD q (0, 0)).1 ≠ E := fun q hq => by rw [arF_onF hL3 (by omega)]; exact hmin q hq
  have hxbw := World.block_lt_of_cell? w _ hcr
  dsimp only at hxbw
  have hBgl : Bg < w.heap.size := World.block_lt_of_cell? w ⟨Bg, 0, none⟩ hG0
  have hBsl : Bs < w.heap.size := World.block_lt_of_cell? w ⟨Bs, 0, none⟩ hS
  have Hn := hid hn
  have Hr := hid hr
  have HL3 := hid hL3
  have HS := hid hS
  have HCr := hid hcr
  have A1 := hid a1
  have A2 := hid a2
  have A3 := hid a3
  have HJ := hid hj
  clear hn hr g hx hx1 hrx hS hd hE hF hV hP hY hgi hidx hj hnx hfr hlt t1 t1' t2 t3 l1 l2 l3 hsD hsN hL3 hLa hLb hr1 hcr hmin a1 a2 a3
  go_enter Try.func94, Try.ntmps94
  go_wp2_with fail
  obtain ⟨w1, hw1⟩ : ∃ w1, w1 = (w.alloc (.cells #[.int .i64 E, .int .i64 F, .int .i64 V] 90)).alloc (.cells #[.int .i64 0, .int .i64 0, .int .i64 0] 90) := ⟨_, rfl⟩
  have HB1 := hid (show Below w.heap.size w w1 by rw [hw1]; exact bfrom (on_alloc _ _) (on_alloc _ _))
  have HD1 := hid (show Box3 w1 w.heap.size E F V by rw [hw1]; exact (Box3.new w _ _ _ _ rfl).on (on_alloc _ _))
  have HR1 := hid (show Box3 w1 (w.heap.size + 1) 0 0 0 by rw [hw1]; exact Box3.new _ _ _ _ _ (by simp))
  rw [← hw1]
  clear hw1 hG0 hG1
  refine (iDirFrom_any N V b off n c es w1 hn30 Hn.out (Hr.out.on HB1.out) h1n HL3.out).mono ?_
  rintro e w2 ⟨gd, cd, rfl, hgd, hrd, hb2⟩
  have HRD := hid hrd
  have HB2 := hid (bfrom HB1.out hb2)
  have HD2 := hid (HD1.out.on hb2)
  have HR2 := hid (HR1.out.on hb2)
  have hs2 := HB2.out.size
  have HCr2 := hid (((bcells HB2.out).1 xb _ hxbw).trans HCr.out)
  have HS2 := hid ((HB2.out.cell (p := ⟨Bs, 0, none⟩) hBsl).trans HS.out)
  clear hrd hb2 HD1 HR1
  obtain ⟨L, hL⟩ : ∃ L, arF es V = L := ⟨_, rfl⟩
  rw [hL] at HRD HL3 A1 A2 A3
  clear hL
  have g0 := HD2.out.c0
  have g1 := HD2.out.c1
  have g2 := HD2.out.c2
  have g3 := HCr2.out
  have g4 := HS2.out
  have hd2l := HD2.out.lt
  have e1 : IntKind.i64.wrap ((i0 : Int) + 1) = (i0 : Int) + 1 := IntWalk.i64_in _ (by omega)
  have e2 : IntKind.i64.wrap ((i0 : Int) + 1 + (r : Int)) = (i0 : Int) + 1 + (r : Int) := IntWalk.i64_in _ (by omega)
  go_wp2
  go_region_held3 (fun w' => w'.cell? ⟨Bs, 0, none⟩ = some (.slice (some ⟨xb, xo, none⟩) N xc) ∧ w'.cell? ⟨xb, xo + V, none⟩ = some (.int .i64 r) ∧ w'.cell? ⟨w.heap.size, 0, none⟩ = some (.int .i64 E) ∧ w'.cell? ⟨w.heap.size, 1, none⟩ = some (.int .i64 F) ∧ w'.cell? ⟨w.heap.size, 2, none⟩ = some (.int .i64 V)) (go_keep) (first
    | (go_at_call 92; refine (iBack_any _ _ _ _).mono ?_; rintro e' w5 ⟨rfl, hb5⟩; have hb5' : Below w2.heap.size w2 w5 := bfrom (Below.refl _ _).drew hb5; have hn5 := HD2.out.on hb5'; have k0 := hn5.c0; have k1 := hn5.c1; have k2 := hn5.c2; have k3 := ((bcells hb5').1 xb _ (by omega)).trans HCr2.out; have k4 := (hb5'.cell (p := ⟨Bs, 0, none⟩) (by show Bs < _; omega)).trans HS2.out)
    | (go_at_call 95; refine (iIndexD_any gd cd i0 E F V L _ HL3.out (HRD.out.on hb5') hi3 A1.out A3.out).mono ?_; rintro e' w6 ⟨rfl, hb6⟩; have hb6' : Below w2.heap.size w2 w6 := bfrom hb5' hb6; have hn6 := HD2.out.on hb6'; have m0 := hn6.c0; have m1 := hn6.c1; have m2 := hn6.c2; have m3 := ((bcells hb6').1 xb _ (by omega)).trans HCr2.out; have m4 := (hb6'.cell (p := ⟨Bs, 0, none⟩) (by show Bs < _; omega)).trans HS2.out))
  all_goals
    have hr6 := HR2.out.on hb6'
    have q0 := hr6.c0
    have q1 := hr6.c1
    have q2 := hr6.c2
    have q3 := hr6.fr 0
    have q4 := hr6.fr 1
    have q5 := hr6.fr 2
    have q6 := hr6.lt
    have hji : ((i0 : Int) + 1 + (r : Int)) % 3 = (j : Int) := by have := HJ.out; omega
    have hj3' : (j : Int) < 3 := by omega
    obtain ⟨x0, x1, x2⟩ := (HRD.out.on hb6') j (by rw [HL3.out]; exact hj3)
    rw [A2.out] at x0 x2
    dsimp only at x0 x2
    have hgd6 := World.block_lt_of_cell? w6 ⟨gd, j * 3, none⟩ x0
    have HB6 := hid (bfrom HB2.out hb6')
    clear hb5 hb5' hb6 hb6' hn5 hn6 hr6 k0 k1 k2 k3 k4 m0 m1 m2 m3 m4 g0 g1 g2 g3 g4
    go_wp2
    refine bodyPost_ret (v := dirV P V Y) (by simp [results, Try.results94, go_sem, q0, q1, q2]) rfl ⟨rfl, ?_⟩
    first
      | exact ((HB6.out.setCell (p := ⟨w.heap.size + 1, 0, none⟩) (by simp) _).setCell (p := ⟨w.heap.size + 1, 1, none⟩) (by simp) _).setCell (p := ⟨w.heap.size + 1, 2, none⟩) (by simp) _
      | exact bdn.mpr (((HB6.out.setCell (p := ⟨w.heap.size + 1, 0, none⟩) (by simp) _).setCell (p := ⟨w.heap.size + 1, 1, none⟩) (by simp) _).setCell (p := ⟨w.heap.size + 1, 2, none⟩) (by simp) _)

end Go.Proofs.Ytnimlipogphhmaa
