/- The faces of a rotation in the program: facesOf. -/
import Derived.Test.YtpadnliebimceaaAlongI
import Derived.Test.YtpadnliebimceaaFacB
import Derived.Laws.StructEq
import Derived.Deep.RegionHeld3
import Derived.Deep.RegionWith
import Derived.BigQuiet
import Derived.Test.YtpadnliebimceaaMovB
import Derived.Test.YtpadnliebimceaaFacS
import Derived.Test.YtpadnliebimceaaMapD

/- Going on along the faces of a rotation, in the program: slices.Index at directed edges, aroundFaces' function. -/
namespace Go.Proofs.Ytpadnliebimceaa
open Go.RowKit Go.Shelf

attribute [local go_sem] Oper.semAt_some

set_option maxRecDepth 100000 in
set_option maxHeartbeats 4000000 in
theorem iIndexD_any (g c i0 E : Nat) (t : Int) (v : Int) (L : List (Nat × Int)) (w : World) (hl : L.length = 3) (hr : ReadsD w g v L) (hi0 : i0 < 3) (he : L.getD i0 (0, 0) = (E, t)) (hne : ∀ j, j < i0 → (L.getD j (0, 0)).1 ≠ E) :
    Calls Try.prog 151 #[.slice (some ⟨g, 0, none⟩) 3 c, dirV E v t] w fun e w' => e = .returned (.int .i64 i0) ∧ Below w.heap.size w w' := by
  have Hl := hid hl
  have Hr := hid hr
  have He := hid he
  have HNe := hid hne
  have hgz : g < w.heap.size := World.block_lt_of_cell? w ⟨g, 0 * 3, none⟩ (hr 0 (by omega)).1
  clear hl hr he hne
  go_enter Try.func151, Try.ntmps151
  have HB0 := hid (on_alloc w (.cells #[.int .i64 E, .int .i64 v, .int .i64 t] 127))
  have HX0 := hid (Box3.new w w.heap.size E v t rfl)
  obtain ⟨w2, hw2⟩ : ∃ w2, w2 = w.alloc (.cells #[.int .i64 E, .int .i64 v, .int .i64 t] 127) := ⟨_, rfl⟩
  rw [← hw2] at HX0 HB0
  have HR2 := hid (Hr.out.on HB0.out)
  have hs2 := HB0.out.size
  go_wp2
  rw [← hw2]
  clear hw2
  go_loopw [8] (fun i wr => ∃ k : Nat, k ≤ i0 ∧ i = .int .i64 k ∧ Hid (Below w2.heap.size w2 wr)) (fun i _ => 3 - (intOf i).toNat)
  case atStart => exact ⟨0, Nat.zero_le _, rfl, hid (Below.refl _ _)⟩
  case round =>
    obtain ⟨k, hk, rfl, hB⟩ := hrel
    have hlt' : (k : Int) < 3 := by omega
    obtain ⟨x0, x1, x2⟩ := (HR2.out.on hB.out) k (by rw [Hl.out]; omega)
    have hX := HX0.out.on hB.out
    have y0 := hX.c0
    have y1 := hX.c1
    have y2 := hX.c2
    have hxl := hX.lt
    have hgl : g < wr.heap.size := by have := hB.out.size; omega
    by_cases hki : k = i0
    · subst hki
      rw [He.out] at x0 x2
      dsimp only at x0 x2
      clear hX
      go_wp2
      go_quiet (fail)
      go_wp2
      go_ret
      exact ⟨rfl, by first | exact bfrom HB0.out hB.out | exact bfrom HB0.out (bdn.mpr hB.out)⟩
    · obtain ⟨P, hP⟩ : ∃ P, L.getD k (0, 0) = P := ⟨_, rfl⟩
      rw [hP] at x0 x2
      obtain ⟨x, y⟩ := P
      dsimp only at x0 x2
      have hxE : x ≠ E := by have := HNe.out k (by omega); rw [hP] at this; exact this
      have t1 : ((E : Int) == (x : Int)) = false := by simp; omega
      have t2 : ((x : Int) == (E : Int)) = false := by simp; omega
      have hki' : k < i0 := by omega
      clear hX hP hki
      go_wp2
      go_quiet (fail)
      go_wp2
      go_roundw
      case rel => exact ⟨k + 1, by omega, by go_num, by first | exact hB | exact hid (bdn.mpr hB.out)⟩
      case measure => simp [intOf]; omega

theorem ends_sum (es : List (Int × Int)) (d : Nat) : frD es d + toD es d = eA es (d / 2) + eB es (d / 2) := by
  unfold frD toD
  split <;> omega
theorem arF_onF {es : List (Int × Int)} {v : Int} (h : (arF es v).length = 3) {i : Nat} (hi : i < 3) : ((arF es v).getD i (0, 0)).1 = (onL es v).getD i 0 := by
  have h2 := arU_fst es v es.length
  have h4 : (arF es v).map (fun x => (x.1 : Int)) = (onL es v).map fun (i : Nat) => (i : Int) := by rw [← onL_at]; exact h2
  have h5 := congrArg List.length h4
  rw [List.length_map, List.length_map, h] at h5
  have h6 : ((arF es v).map (fun x => (x.1 : Int)))[i]? = ((onL es v).map fun (k : Nat) => (k : Int))[i]? := by rw [h4]
  rw [List.getElem?_map, List.getElem?_map, List.getElem?_eq_getElem (by omega), List.getElem?_eq_getElem (by omega)] at h6
  rw [List.getD_eq_getElem?_getD, List.getD_eq_getElem?_getD, List.getElem?_eq_getElem (by omega), List.getElem?_eq_getElem (by omega)]
  have h7 : (((arF es v)[i]'(by omega)).1 : Int) = (((onL es v)[i]'(by omega) : Nat) : Int) := Option.some.inj h6
  show ((arF es v)[i]'(by omega)).1 = (onL es v)[i]'(by omega)
  omega

set_option maxRecDepth 100000 in
set_option maxHeartbeats 16000000 in
theorem iAroundF_any (N d E V Bg Bs b off n c xb xo xc : Nat) (F : Int) (es : List (Int × Int)) (xs : List Int) (w : World) (hn : es.length = n) (hr : ReadsE w b off es) (g : IsG N es) (hx : xs.length = N) (hx1 : ∀ i, i < N → eI xs i = 0 ∨ eI xs i = 1) (hrx : ReadsI w xb xo xs)
    (hG0 : w.cell? ⟨Bg, 0, none⟩ = some (.int .i64 N)) (hG1 : w.cell? ⟨Bg, 1, none⟩ = some (.slice (some ⟨b, off, none⟩) n c)) (hS : w.cell? ⟨Bs, 0, none⟩ = some (.slice (some ⟨xb, xo, none⟩) N xc))
    (hd : d < 2 * n) (hE : d / 2 = E) (hF : frD es d = F) (hV : toD es d = V) (P : Nat) (Y : Int) (hP : nxD es xs d / 2 = P) (hY : toD es (nxD es xs d) = Y) :
    Calls Try.prog 150 #[dirV E F V, .pointer (some ⟨Bg, 0, none⟩), .pointer (some ⟨Bs, 0, none⟩)] w fun r w' => r = .returned (dirV P V Y) ∧ Below w.heap.size w w' := by
  have hn30 : n ≤ 30 := by have := isG_len g; omega
  have hN20 : N ≤ 20 := by have := g.1.1.2.1; omega
  have h1n : 1 ≤ n := by have := g.1.1.2.2.2; have := g.1.1.1; omega
  obtain ⟨i0, j, hi3, hgi, hidx, hj, hnx, hfr, hlt⟩ := nxD_at (xs := xs) g (by rw [hn]; exact hd)
  obtain ⟨⟨t1, t1'⟩, t2, t3⟩ := toD_in g (by rw [hn]; exact hd)
  obtain ⟨l1, l2, l3⟩ := onL_getD g (v := toD es d) ⟨t1, t1'⟩
  have hsD := ends_sum es d
  have hsN := ends_sum es (nxD es xs d)
  rw [hF, hE, hV] at hsD
  rw [hfr, hP, hY, hV] at hsN
  rw [hV] at hgi hidx hj hnx t1 t1' t2 l1 l2 l3
  have hVN : V < N := by omega
  have hVN' : (V : Int) < (N : Int) := by omega
  rw [hE] at hgi hidx t2
  rw [hP] at hnx
  obtain ⟨hL3, hLa, hLb⟩ := arF_at g (v := (V : Int)) ⟨by omega, by omega⟩
  obtain ⟨r, hr1⟩ : ∃ r : Nat, eI xs V = r := ⟨(eI xs V).toNat, by have := hx1 V hVN; omega⟩
  have hr2 : r ≤ 1 := by have := hx1 V hVN; omega
  rw [Int.toNat_natCast, hr1, Int.toNat_natCast] at hj
  have hj3 : j < 3 := by rw [hj]; exact Nat.mod_lt _ (by decide)
  have hcr := hrx V (by rw [hx]; exact hVN)
  rw [hr1] at hcr
  have hmin : ∀ q, q < i0 → (onL es (V : Int)).getD q 0 ≠ E := fun q hq e => by
    rw [List.getD_eq_getElem?_getD, List.getElem?_eq_getElem (by omega)] at e
    rw [List.getD_eq_getElem?_getD, List.getElem?_eq_getElem (by omega)] at hgi
    have := (List.getElem_inj l2).1 ((show (onL es (V : Int))[q] = E from e).trans (show E = (onL es (V : Int))[i0] from hgi.symm))
    omega
  have a1 : (arF es V).getD i0 (0, 0) = (E, F) := by
    refine Prod.ext ?_ ?_
    · rw [arF_onF hL3 hi3]; exact hgi
    · rw [(hLa i0 hi3).2.2, arF_onF hL3 hi3, hgi]
      show eA es E + eB es E - (V : Int) = F
      omega
  have a2 : (arF es V).getD j (0, 0) = (P, Y) := by
    refine Prod.ext ?_ ?_
    · rw [arF_onF hL3 hj3]; exact hnx.symm
    · rw [(hLa j hj3).2.2, arF_onF hL3 hj3, ← hnx]
      show eA es P + eB es P - (V : Int) = Y
      omega
  have a3 : ∀ q, q < i0 → ((arF es V).getD q (0, 0)).1 ≠ E := fun q hq => by rw [arF_onF hL3 (by omega)]; exact hmin q hq
  have hxbw := World.block_lt_of_cell? w _ hcr
  dsimp only at hxbw
  have hBgl : Bg < w.heap.size := World.block_lt_of_cell? w ⟨Bg, 0, none⟩ hG0
  have hBsl : Bs < w.heap.size := World.block_lt_of_cell? w ⟨Bs, 0, none⟩ hS
  have Hn := hid hn
  have Hr := hid hr
  have HL3 := hid hL3
  have HS := hid hS
  have HCr := hid hcr
  have A1 := hid a1
  have A2 := hid a2
  have A3 := hid a3
  have HJ := hid hj
  clear hn hr g hx hx1 hrx hS hd hE hF hV hP hY hgi hidx hj hnx hfr hlt t1 t1' t2 t3 l1 l2 l3 hsD hsN hL3 hLa hLb hr1 hcr hmin a1 a2 a3
  go_enter Try.func150, Try.ntmps150
  go_wp2_with fail
  obtain ⟨w1, hw1⟩ : ∃ w1, w1 = (w.alloc (.cells #[.int .i64 E, .int .i64 F, .int .i64 V] 127)).alloc (.cells #[.int .i64 0, .int .i64 0, .int .i64 0] 127) := ⟨_, rfl⟩
  have HB1 := hid (show Below w.heap.size w w1 by rw [hw1]; exact bfrom (on_alloc _ _) (on_alloc _ _))
  have HD1 := hid (show Box3 w1 w.heap.size E F V by rw [hw1]; exact (Box3.new w _ _ _ _ rfl).on (on_alloc _ _))
  have HR1 := hid (show Box3 w1 (w.heap.size + 1) 0 0 0 by rw [hw1]; exact Box3.new _ _ _ _ _ (by simp))
  rw [← hw1]
  clear hw1 hG0 hG1
  refine (iDirFrom_any N V b off n c es w1 hn30 Hn.out (Hr.out.on HB1.out) h1n HL3.out).mono ?_
  rintro e w2 ⟨gd, cd, rfl, hgd, hrd, hb2⟩
  have HRD := hid hrd
  have HB2 := hid (bfrom HB1.out hb2)
  have HD2 := hid (HD1.out.on hb2)
  have HR2 := hid (HR1.out.on hb2)
  have hs2 := HB2.out.size
  have HCr2 := hid (((bcells HB2.out).1 xb _ hxbw).trans HCr.out)
  have HS2 := hid ((HB2.out.cell (p := ⟨Bs, 0, none⟩) hBsl).trans HS.out)
  clear hrd hb2 HD1 HR1
  obtain ⟨L, hL⟩ : ∃ L, arF es V = L := ⟨_, rfl⟩
  rw [hL] at HRD HL3 A1 A2 A3
  clear hL
  have g0 := HD2.out.c0
  have g1 := HD2.out.c1
  have g2 := HD2.out.c2
  have g3 := HCr2.out
  have g4 := HS2.out
  have hd2l := HD2.out.lt
  have e1 : IntKind.i64.wrap ((i0 : Int) + 1) = (i0 : Int) + 1 := IntWalk.i64_in _ (by omega)
  have e2 : IntKind.i64.wrap ((i0 : Int) + 1 + (r : Int)) = (i0 : Int) + 1 + (r : Int) := IntWalk.i64_in _ (by omega)
  go_wp2
  go_region_held3 (fun w' => w'.cell? ⟨Bs, 0, none⟩ = some (.slice (some ⟨xb, xo, none⟩) N xc) ∧ w'.cell? ⟨xb, xo + V, none⟩ = some (.int .i64 r) ∧ w'.cell? ⟨w.heap.size, 0, none⟩ = some (.int .i64 E) ∧ w'.cell? ⟨w.heap.size, 1, none⟩ = some (.int .i64 F) ∧ w'.cell? ⟨w.heap.size, 2, none⟩ = some (.int .i64 V)) (go_keep) (first
    | (go_at_call 136; refine (iBack_any _ _ _ _).mono ?_; rintro e' w5 ⟨rfl, hb5⟩; have hb5' : Below w2.heap.size w2 w5 := bfrom (Below.refl _ _).drew hb5; have hn5 := HD2.out.on hb5'; have k0 := hn5.c0; have k1 := hn5.c1; have k2 := hn5.c2; have k3 := ((bcells hb5').1 xb _ (by omega)).trans HCr2.out; have k4 := (hb5'.cell (p := ⟨Bs, 0, none⟩) (by show Bs < _; omega)).trans HS2.out)
    | (go_at_call 151; refine (iIndexD_any gd cd i0 E F V L _ HL3.out (HRD.out.on hb5') hi3 A1.out A3.out).mono ?_; rintro e' w6 ⟨rfl, hb6⟩; have hb6' : Below w2.heap.size w2 w6 := bfrom hb5' hb6; have hn6 := HD2.out.on hb6'; have m0 := hn6.c0; have m1 := hn6.c1; have m2 := hn6.c2; have m3 := ((bcells hb6').1 xb _ (by omega)).trans HCr2.out; have m4 := (hb6'.cell (p := ⟨Bs, 0, none⟩) (by show Bs < _; omega)).trans HS2.out))
  all_goals
    have hr6 := HR2.out.on hb6'
    have q0 := hr6.c0
    have q1 := hr6.c1
    have q2 := hr6.c2
    have q3 := hr6.fr 0
    have q4 := hr6.fr 1
    have q5 := hr6.fr 2
    have q6 := hr6.lt
    have hji : ((i0 : Int) + 1 + (r : Int)) % 3 = (j : Int) := by have := HJ.out; omega
    have hj3' : (j : Int) < 3 := by omega
    obtain ⟨x0, x1, x2⟩ := (HRD.out.on hb6') j (by rw [HL3.out]; exact hj3)
    rw [A2.out] at x0 x2
    dsimp only at x0 x2
    have hgd6 := World.block_lt_of_cell? w6 ⟨gd, j * 3, none⟩ x0
    have HB6 := hid (bfrom HB2.out hb6')
    clear hb5 hb5' hb6 hb6' hn5 hn6 hr6 k0 k1 k2 k3 k4 m0 m1 m2 m3 m4 g0 g1 g2 g3 g4
    go_wp2
    refine bodyPost_ret (v := dirV P V Y) (by simp [results, Try.results150, go_sem, q0, q1, q2]) rfl ⟨rfl, ?_⟩
    first
      | exact ((HB6.out.setCell (p := ⟨w.heap.size + 1, 0, none⟩) (by simp) _).setCell (p := ⟨w.heap.size + 1, 1, none⟩) (by simp) _).setCell (p := ⟨w.heap.size + 1, 2, none⟩) (by simp) _
      | exact bdn.mpr (((HB6.out.setCell (p := ⟨w.heap.size + 1, 0, none⟩) (by simp) _).setCell (p := ⟨w.heap.size + 1, 1, none⟩) (by simp) _).setCell (p := ⟨w.heap.size + 1, 2, none⟩) (by simp) _)

end Go.Proofs.Ytpadnliebimceaa

/- Directed edges as triples; the orbits of the faces as one list (no program is named here). -/
namespace Go.Proofs.Ytpadnliebimceaa
open Go.RowKit

/-- A directed edge: the edge, whence, whither. -/
def dirT (es : List (Int × Int)) (d : Nat) : Int × Int × Int := (((d / 2 : Nat) : Int), frD es d, toD es d)
theorem dirT_inj {N : Nat} {es : List (Int × Int)} (g : IsG (N : Int) es) {a b : Nat} (_ha : a < 2 * es.length) (_hb : b < 2 * es.length) (h : dirT es a = dirT es b) : a = b := by
  unfold dirT at h
  simp only [Prod.mk.injEq] at h
  obtain ⟨h1, h2, h3⟩ := h
  have h4 : a / 2 = b / 2 := by omega
  have hok := g.1.2 (a / 2) (by omega)
  unfold okEdge at hok
  unfold frD at h2
  rw [← h4] at h2
  by_cases ea : a % 2 = 0
  · by_cases eb : b % 2 = 0
    · omega
    · rw [if_pos ea, if_neg eb] at h2
      exact absurd h2 hok.2.2.2.2
  · by_cases eb : b % 2 = 0
    · rw [if_neg ea, if_pos eb] at h2
      exact absurd h2.symm hok.2.2.2.2
    · omega

/-- The directed edges of the first orbits, one after the other. -/
def flN (nx : Nat → Nat) (n k : Nat) : List Nat := (facN nx n k).flatten
section
variable {nx : Nat → Nat} {n k : Nat}
theorem flN_yes (hm : metF nx n k k = false) : flN nx n (k + 1) = flN nx n k ++ orbN nx n k := by
  unfold flN
  rw [facN_yes hm, List.flatten_append]
  simp
theorem flN_no (hm : metF nx n k k = true) : flN nx n (k + 1) = flN nx n k := by unfold flN; rw [facN_no hm]
theorem flN_zero : flN nx n 0 = [] := rfl
theorem face_flat (nx : Nat → Nat) (n k : Nat) : (faceL nx n k).flatten = (flN nx n k).map fun x => ((x / 2 : Nat) : Int) := by
  unfold faceL flN
  rw [List.map_flatten]
theorem flN_mem (h : PermN nx n) : ∀ k, k ≤ n → ∀ x, x ∈ flN nx n k ↔ metF nx n k x = true
  | 0, _, x => by simp [flN_zero, metF]
  | k + 1, hk, x => by
    have ih := flN_mem h k (by omega) x
    cases hm : metF nx n k k
    · rw [flN_yes hm, List.mem_append, ih, metF_succ, Bool.or_eq_true, decide_eq_true_eq]
    · rw [flN_no hm, ih, metF_old h (by omega) hm]
theorem orb_nodup (h : PermN nx n) (hk : k < n) : (orbN nx n k).Nodup := by
  unfold orbN
  rw [List.nodup_iff_pairwise_ne, List.pairwise_map]
  refine List.Pairwise.imp_of_mem ?_ (List.pairwise_lt_range)
  intro a b ha hb hab
  exact it_diff h hk hab (List.mem_range.1 hb)
theorem flN_nodup (h : PermN nx n) : ∀ k, k ≤ n → (flN nx n k).Nodup
  | 0, _ => by simp [flN_zero]
  | k + 1, hk => by
    have ih := flN_nodup h k (by omega)
    cases hm : metF nx n k k
    · rw [flN_yes hm]
      refine List.nodup_append.2 ⟨ih, orb_nodup h (by omega), fun a ha b hb e => ?_⟩
      subst e
      have h1 := (flN_mem h k (by omega) a).1 ha
      have h2 := metF_new h (by omega) hm hb
      rw [h1] at h2
      cases h2
    · rw [flN_no hm]; exact ih
theorem flN_lt (h : PermN nx n) : ∀ k, k ≤ n → ∀ x ∈ flN nx n k, x < n
  | 0, _, x, hx => by simp [flN_zero] at hx
  | k + 1, hk, x, hx => by
    cases hm : metF nx n k k
    · rw [flN_yes hm, List.mem_append] at hx
      rcases hx with hx | hx
      · exact flN_lt h k (by omega) x hx
      · exact orb_lt h (by omega) hx
    · rw [flN_no hm] at hx; exact flN_lt h k (by omega) x hx
theorem nodup_le {L : List Nat} {n : Nat} (h : L.Nodup) (hl : ∀ x ∈ L, x < n) : L.length ≤ n := by
  rcases Nat.lt_or_ge n L.length with hc | hc
  · exfalso
    obtain ⟨i, j, hij, hj, e⟩ := pigeon n (fun i => L.getD i 0) (fun i hi => by
      rw [List.getD_eq_getElem?_getD, List.getElem?_eq_getElem (by omega)]
      exact hl _ (List.getElem_mem _))
    have e : L.getD i 0 = L.getD j 0 := e
    rw [List.getD_eq_getElem?_getD, List.getD_eq_getElem?_getD, List.getElem?_eq_getElem (by omega), List.getElem?_eq_getElem (by omega)] at e
    have := (List.getElem_inj h).1 (show L[i] = L[j] from e)
    omega
  · exact hc
theorem flN_len (h : PermN nx n) {k : Nat} (hk : k ≤ n) : (flN nx n k).length ≤ n := nodup_le (flN_nodup h k hk) (flN_lt h k hk)
theorem flN_room (h : PermN nx n) {k : Nat} (hk : k < n) (hm : metF nx n k k = false) : (flN nx n k).length + perN nx n k ≤ n := by
  have h1 := flN_len h (k := k + 1) (by omega)
  rw [flN_yes hm, List.length_append, orbN_len] at h1
  exact h1
end
theorem dir_mem {N : Nat} {es : List (Int × Int)} (g : IsG (N : Int) es) {nx : Nat → Nat} (h : PermN nx (2 * es.length)) {k d : Nat} (hk : k ≤ 2 * es.length) (hd : d < 2 * es.length) : dirT es d ∈ (flN nx (2 * es.length) k).map (dirT es) ↔ metF nx (2 * es.length) k d = true := by
  rw [← flN_mem h k hk d, List.mem_map]
  constructor
  · rintro ⟨x, hx, e⟩
    have := dirT_inj g (flN_lt h k hk x hx) hd e
    rwa [← this]
  · exact fun hx => ⟨d, hx, rfl⟩

end Go.Proofs.Ytpadnliebimceaa

/- facesOf. -/
namespace Go.Proofs.Ytpadnliebimceaa
open Go.RowKit Go.Shelf

attribute [local go_sem] Oper.semAt_some

theorem alT_dir (es : List (Int × Int)) (e t : Nat) (ht : t < 2) : alT es e t = dirT es (2 * e + t) := by
  unfold alT dirT frD toD
  have h1 : (2 * e + t) / 2 = e := by omega
  have h2 : (2 * e + t) % 2 = t := by omega
  rw [h1, h2]
  by_cases h : t = 0
  · rw [if_pos h, if_pos h, if_pos h]
  · rw [if_neg h, if_neg h, if_neg h]
theorem dirT_wf {N : Nat} {es : List (Int × Int)} (g : IsG (N : Int) es) {d : Nat} (hd : d < 2 * es.length) : (Lit.int .i64 (dirT es d).1).wf = true ∧ (Lit.int .i64 (dirT es d).2.1).wf = true ∧ (Lit.int .i64 (dirT es d).2.2).wf = true := by
  have hn := isG_len g
  have hN := g.1.1.2.1
  have hok := g.1.2 (d / 2) (by omega)
  unfold okEdge at hok
  have hw : ∀ x : Int, 0 ≤ x → x ≤ 1000 → (Lit.int .i64 x).wf = true := fun x h1 h2 => WalkArith.wf_i64 (by omega)
  refine ⟨hw _ (by show (0 : Int) ≤ ((d / 2 : Nat) : Int); omega) (by show ((d / 2 : Nat) : Int) ≤ 1000; omega), hw _ ?_ ?_, hw _ ?_ ?_⟩
  all_goals
    simp only [dirT, frD, toD]
    split <;> omega
theorem MapD.same {w w' : World} {b n : Nat} {S : List (Int × Int × Int)} (h : MapD w b n S) (hk : w'.heap[b]? = w.heap[b]?) : MapD w' b n S := by
  obtain ⟨D, ⟨es, clock, hb, F, hs, hD⟩, h2, h3⟩ := h
  exact ⟨D, ⟨es, clock, hk.trans hb, F, hs, hD⟩, h2, h3⟩
theorem MapD.isMap {w : World} {b n : Nat} {S : List (Int × Int × Int)} (h : MapD w b n S) : ∃ es clock, w.heap[b]? = some (.map es clock) := by
  obtain ⟨D, ⟨es, clock, hb, _⟩, _⟩ := h
  exact ⟨es, clock, hb⟩

set_option maxHeartbeats 1000000 in
theorem iMkAround_any (s : Int) (p ps : Option Addr) (n c m f : Nat) (w : World) :
    Calls Try.prog 140 #[.agg #[.int .i64 s, .slice p n c], .slice ps m f] w fun e w' => e = .returned (.func (.func 150) #[] #[.pointer (some ⟨w.heap.size, 0, none⟩), .pointer (some ⟨w.heap.size + 1, 0, none⟩)]) ∧ w' = (w.alloc (.cells #[.int .i64 s, .slice p n c] 24)).alloc (.cells #[.slice ps m f] 25) := by
  go_enter Try.func140, Try.ntmps140
  go_wp2
  go_ret
  exact ⟨rfl, rfl⟩

/-- What lies in memory behind the first directed edges. -/
structure FcW (es : List (Int × Int)) (w3 W : World) (B Bl Ba Bm m : Nat) (Ds : List Nat) (F : List Nat) (l : Nat) : Prop where
  box : W.heap[Bl]? = some (.cells #[.slice (some ⟨Ba, 0, none⟩) l m] 25 (0, 0))
  own : OwnI W Ba m (F.map fun x => ((x / 2 : Nat) : Int))
  map : MapD W Bm l (F.map (dirT es))
  len : F.length = l
  kept : Kept (fun i => i < w3.heap.size ∧ i ≠ Bl ∧ i ≠ Ba ∧ i ≠ Bm) w3 W
  nodup : Ds.Nodup
  col : ∀ D, D ∈ Ds → W.heap[D]? = some (.deferred (some [])) ∧ B ≤ D
theorem FcW.on {es : List (Int × Int)} {w3 W W' : World} {B Bl Ba Bm m l : Nat} {Ds : List Nat} {F : List Nat} (h : FcW es w3 W B Bl Ba Bm m Ds F l) (hb : Below W.heap.size W W') : FcW es w3 W' B Bl Ba Bm m Ds F l :=
  ⟨(hb.block Bl (Array.getElem?_eq_some_iff.1 h.box).1).trans h.box, h.own.on hb, h.map.on hb, h.len, h.kept.callD hb, h.nodup, fun D hD => ⟨(hb.block D (Array.getElem?_eq_some_iff.1 (h.col D hD).1).1).trans (h.col D hD).1, (h.col D hD).2⟩⟩

/-- What lies in memory while a face is gone along. -/
structure FcR (es : List (Int × Int)) (w5 W : World) (Bl Ba Bm m l : Nat) (F : List Nat) (pre : List DirT) : Prop where
  box : W.heap[Bl]? = some (.cells #[.slice (some ⟨Ba, 0, none⟩) (l + pre.length) m] 25 (0, 0))
  own : OwnI W Ba m ((F.map fun x => ((x / 2 : Nat) : Int)) ++ pre.map fun x => x.1)
  map : MapD W Bm (l + pre.length) (F.map (dirT es) ++ pre)
  kept : Kept (fun i => i < w5.heap.size ∧ i ≠ Bl ∧ i ≠ Ba ∧ i ≠ Bm) w5 W
theorem FcR.from (es : List (Int × Int)) (w5 : World) (Bl Ba Bm m l : Nat) (F : List Nat) (hBm : Bm < w5.heap.size) : OwnFrom w5.heap.size (fun (pre : List DirT) W => FcR es w5 W Bl Ba Bm m l F pre) := by
  intro pre W W' row h hg hr
  have key : ∀ (k : Nat) (cur : Array Value) (t : TypeId) (fr : Nat × Nat), W.heap[k]? = some (.cells cur t fr) → W'.heap[k]? = W.heap[k]? := fun k cur t fr hk => hg.block k (Array.getElem?_eq_some_iff.1 hk).1 (fun e => by
    obtain ⟨_, o, h1, h2⟩ := hr k e.symm
    rw [hk] at h1
    have := Option.some.inj h1
    subst this
    cases h2)
  obtain ⟨cur, hc, _⟩ := h.own
  have hm : W'.heap[Bm]? = W.heap[Bm]? := hg.block Bm h.map.lt (fun e => by have := (hr Bm e.symm).1; omega)
  exact ⟨(key _ _ _ _ h.box).trans h.box, h.own.keep (key _ _ _ _ hc), h.map.same hm, h.kept.trans ⟨hg.os, hg.tape, hg.output, hg.size, fun i hi hl => hg.block i hl (fun e => by have := (hr i e.symm).1; omega)⟩⟩
theorem FcR.moved {es : List (Int × Int)} {w5 W W' : World} {Bl Ba Bm m l A : Nat} {F : List Nat} {pre : List DirT} (h : FcR es w5 W Bl Ba Bm m l F pre) (hm : Kept (fun i => i < A) W W') (hA : w5.heap.size ≤ A) (hBl : Bl < A) (hBa : Ba < A) (hBm : Bm < A) : FcR es w5 W' Bl Ba Bm m l F pre :=
  ⟨(hm.same Bl hBl (Array.getElem?_eq_some_iff.1 h.box).1).trans h.box, h.own.keep (hm.same Ba hBa h.own.lt), h.map.same (hm.same Bm hBm h.map.lt), h.kept.trans (hm.mono fun i hi => by omega)⟩

/-- What holds at the head of the loop over the edges, and at the head of the one over the directions. -/
def FcO (N b off n c m xb xo xc z0 z1 z2 : Nat) (nx : Nat → Nat) (es : List (Int × Int)) (w3 : World) (a' : Act) (W : World) : Prop :=
  ∃ (i cap : Nat) (q : Option Addr) (Ds : List Nat) (u9 u10 u11 u12 u13 u27 u28 u29 u30 u31 u32 u33 u34 u35 u36 u37 u38 u39 u40 u41 u42 u43 u44 u45 u46 u47 u48 u49 u50 u51 u52 u53 u54 u55 u56 u57 u58 u59 u60 u61 u62 u63 : Value), a' = { tmps := #[.agg #[.int .i64 N, .slice (some ⟨b, off, none⟩) n c], .slice (some ⟨xb, xo, none⟩) N xc, .pointer (some ⟨z0, 0, none⟩), undef, .slice none 0 0, .slice q (faceL nx m (2 * i)).length cap, .pointer (some ⟨z2, 0, none⟩), .func (.func 150) #[] #[.pointer (some ⟨z2 + 1, 0, none⟩), .pointer (some ⟨z2 + 1 + 1, 0, none⟩)], .pointer (some ⟨z2 + 1 + 1 + 1 + 1, 0, none⟩), u9, u10, u11, u12, u13, .pointer (some ⟨z0, 1, none⟩), .slice (some ⟨b, off, none⟩) n c, .int .i64 n, .int .i64 m, .slice (some ⟨z1, 0, none⟩) 0 m, .agg #[.int .i64 N, .slice (some ⟨b, off, none⟩) n c], .slice (some ⟨xb, xo, none⟩) N xc, .func (.func 150) #[] #[.pointer (some ⟨z2 + 1, 0, none⟩), .pointer (some ⟨z2 + 1 + 1, 0, none⟩)], .map (some (z2 + 1 + 1 + 1)), .pointer (some ⟨z0, 1, none⟩), .slice (some ⟨b, off, none⟩) n c, .int .i64 n, .int .i64 i, u27, u28, u29, u30, u31, u32, u33, u34, u35, u36, u37, u38, u39, u40, u41, u42, u43, u44, u45, u46, u47, u48, u49, u50, u51, u52, u53, u54, u55, u56, u57, u58, u59, u60, u61, u62, u63, undef], defers := colls Ds } ∧ i ≤ n ∧
    Hid (FcW es w3 W w3.heap.size z2 z1 (z2 + 1 + 1 + 1) m Ds (flN nx m (2 * i)) (flN nx m (2 * i)).length) ∧ Hid (W.ownsRow w3.heap.size 25 1 (.slice q (faceL nx m (2 * i)).length cap) (faceL nx m (2 * i)).length (rowsV z1 (faceL nx m (2 * i))))
def FcN (N b off n c m xb xo xc z0 z1 z2 i : Nat) (nx : Nat → Nat) (es : List (Int × Int)) (w3 : World) (a' : Act) (W : World) : Prop :=
  ∃ (t cap : Nat) (q : Option Addr) (Ds : List Nat) (u10 u11 u12 u13 u30 u31 u32 u33 u34 u35 u36 u37 u38 u39 u40 u41 u42 u43 u44 u45 u46 u47 u48 u49 u50 u51 u52 u53 u54 u55 u56 u57 u58 u59 u60 u61 u62 u63 : Value), a' = { tmps := #[.agg #[.int .i64 N, .slice (some ⟨b, off, none⟩) n c], .slice (some ⟨xb, xo, none⟩) N xc, .pointer (some ⟨z0, 0, none⟩), undef, .slice none 0 0, .slice q (faceL nx m (2 * i + t)).length cap, .pointer (some ⟨z2, 0, none⟩), .func (.func 150) #[] #[.pointer (some ⟨z2 + 1, 0, none⟩), .pointer (some ⟨z2 + 1 + 1, 0, none⟩)], .pointer (some ⟨z2 + 1 + 1 + 1 + 1, 0, none⟩), .int .i64 i, u10, u11, u12, u13, .pointer (some ⟨z0, 1, none⟩), .slice (some ⟨b, off, none⟩) n c, .int .i64 n, .int .i64 m, .slice (some ⟨z1, 0, none⟩) 0 m, .agg #[.int .i64 N, .slice (some ⟨b, off, none⟩) n c], .slice (some ⟨xb, xo, none⟩) N xc, .func (.func 150) #[] #[.pointer (some ⟨z2 + 1, 0, none⟩), .pointer (some ⟨z2 + 1 + 1, 0, none⟩)], .map (some (z2 + 1 + 1 + 1)), .pointer (some ⟨z0, 1, none⟩), .slice (some ⟨b, off, none⟩) n c, .int .i64 n, .int .i64 i, .bool true, .int .i64 i, .int .i64 t, u30, u31, u32, u33, u34, u35, u36, u37, u38, u39, u40, u41, u42, u43, u44, u45, u46, u47, u48, u49, u50, u51, u52, u53, u54, u55, u56, u57, u58, u59, u60, u61, u62, u63, undef], defers := colls Ds } ∧ t ≤ 2 ∧
    Hid (FcW es w3 W w3.heap.size z2 z1 (z2 + 1 + 1 + 1) m Ds (flN nx m (2 * i + t)) (flN nx m (2 * i + t)).length) ∧ Hid (W.ownsRow w3.heap.size 25 1 (.slice q (faceL nx m (2 * i + t)).length cap) (faceL nx m (2 * i + t)).length (rowsV z1 (faceL nx m (2 * i + t))))

set_option maxRecDepth 100000 in
set_option maxHeartbeats 16000000 in
theorem iFaces_any (N b off n c xb xo xc : Nat) (es : List (Int × Int)) (xs : List Int) (w : World) (hn : es.length = n) (hr : ReadsE w b off es) (g : IsG N es) (hx : rotP N xs) (hrx : ReadsI w xb xo xs) :
    Calls Try.prog 112 #[.agg #[.int .i64 N, .slice (some ⟨b, off, none⟩) n c], .slice (some ⟨xb, xo, none⟩) N xc] w fun e' w' => ∃ q cap ba, e' = .returned (.slice q (faceL (nxD es xs) (2 * n) (2 * n)).length cap) ∧ w'.ownsRow w.heap.size 25 1 (.slice q (faceL (nxD es xs) (2 * n) (2 * n)).length cap) (faceL (nxD es xs) (2 * n) (2 * n)).length (rowsV ba (faceL (nxD es xs) (2 * n) (2 * n))) ∧ OwnI w' ba (2 * n) (faceL (nxD es xs) (2 * n) (2 * n)).flatten ∧ w.heap.size ≤ ba ∧ Below w.heap.size w w' := by
  have hn30 : n ≤ 30 := by have := isG_len g; omega
  have hN20 : N ≤ 20 := by have := g.1.1.2.1; omega
  have hN2 : 2 ≤ N := by have := g.1.1.1; omega
  have Hn := hid hn
  have Hr := hid hr
  have Hx := hid hx
  have Hrx := hid hrx
  have G := hid g
  have hbl : b < w.heap.size := reads_lt hr (by have := g.1.1.2.2.2; have := g.1.1.1; omega)
  have hxl : xb < w.heap.size := hrx.lt (by rw [hx.1]; omega)
  obtain ⟨nx, hnx⟩ : ∃ nx, nxD es xs = nx := ⟨_, rfl⟩
  obtain ⟨m, hm⟩ : ∃ m, 2 * n = m := ⟨_, rfl⟩
  have hpm := perm_nxD (xs := xs) g
  rw [hn, hnx, hm] at hpm
  rw [hnx, hm]
  have HP := hid hpm
  have HNx := hid hnx
  have HMm := hid hm
  have hm60 : m ≤ 60 := by omega
  have hm1 : 1 ≤ m := by have := g.1.1.2.2.2; have := g.1.1.1; omega
  have hmm := @run_makeMap Try.prog
  have e0 : IntKind.i64.wrap (2 * (n : Int)) = (m : Int) := by rw [show 2 * (n : Int) = (m : Int) by omega]; exact IntWalk.i64_in _ (by omega)
  obtain ⟨j0, hj, hy0, hy1, hy2⟩ := info_parts infoInt
  obtain ⟨s0, hs, hs0, hs1, hs2⟩ := info_parts infoSlO
  have Hj := hid hj
  have Hs := hid hs
  clear hn hr hx hrx g hj hs hnx hm hpm
  refine (callsIn_wide (n := 6)).1 ?_
  refine callsIn_of_wp_marks Try.func112 rfl trivial ?_ rfl
  simp only [Try.ntmps112, List.size_toArray, List.length_cons, List.length_nil, Nat.reduceAdd, Nat.reduceSub, Array.replicate_succ, Array.replicate_zero, List.push_toArray, List.append_toArray, List.nil_append, List.cons_append]
  obtain ⟨w1, hw1⟩ : ∃ w1, w1 = w.alloc (.cells #[.int .i64 N, .slice (some ⟨b, off, none⟩) n c] 24) := ⟨_, rfl⟩
  have HX1 := hid (show Box w1 w.heap.size N (some ⟨b, off, none⟩) n c by rw [hw1]; exact Box.new _ _ _ _ _ _)
  have HB1 := hid (show Below w.heap.size w w1 by rw [hw1]; exact on_alloc _ _)
  have HS1 := hid (show w1.heap.size = w.heap.size + 1 by rw [hw1]; simp)
  have hx1 := HX1.out.1
  have hxy1 := HX1.out.2
  have hz1 := HX1.out.lt
  gi_wp2_with (first
    | (gi_at_make; rw [← hw1]; clear hw1; refine wpListIn_make_own _ rfl _ _ 25 rfl w1.heap.size 2 j0 (.int .i64 0) 1 Try.underlying25 Hj.out hy0 hy1 _ _ _ m rfl rfl rfl (by rw [hy2]; omega) (by unfold maxLen; omega) (Nat.le_refl _) ?_; intro w2 hown hgrow; have HO2 := hid (show OwnI w2 w1.heap.size m [] from (OwnI.of_row (xs := []) hown rfl).1); have HB2 := hid ((Below.refl w1.heap.size w1).grown hgrow (Nat.le_refl _) (fun k e => by cases e)); have hX2 := HX1.out.on HB2.out; have hx2 := hX2.1; have hxy2 := hX2.2; have hz2 := hX2.lt; have hx5 := (hX2.on (show Below w2.heap.size w2 (((((w2.alloc (.cells #[.slice (some ⟨w1.heap.size, 0, none⟩) 0 m] 25)).alloc (.cells #[.int .i64 N, .slice (some ⟨b, off, none⟩) n c] 24)).alloc (.cells #[.slice (some ⟨xb, xo, none⟩) N xc] 25)).alloc (.map #[] 0)).alloc (.cells #[.map (some (w2.heap.size + 1 + 1 + 1))] 122)) from bfrom (bfrom (bfrom (bfrom (on_alloc _ _) (on_alloc _ _)) (on_alloc _ _)) (on_alloc _ _)) (on_alloc _ _))).2; clear hown hgrow hX2)
    | (refine ⟨trivial, ?_⟩; gi_at_call 140; refine (callsIn_wide.2 (iMkAround_any _ _ _ _ _ _ _ _)).mono ?_; rintro e w' ⟨rfl, rfl⟩))
  obtain ⟨w3, hw3⟩ : ∃ w3, w3 = (((((w2.alloc (.cells #[.slice (some ⟨w1.heap.size, 0, none⟩) 0 m] 25)).alloc (.cells #[.int .i64 N, .slice (some ⟨b, off, none⟩) n c] 24)).alloc (.cells #[.slice (some ⟨xb, xo, none⟩) N xc] 25)).alloc (.map #[] 0)).alloc (.cells #[.map (some (w2.heap.size + 1 + 1 + 1))] 122)) := ⟨_, rfl⟩
  rw [← hw3]
  have HB3 := hid (show Below w2.heap.size w2 w3 by rw [hw3]; exact bfrom (bfrom (bfrom (bfrom (on_alloc _ _) (on_alloc _ _)) (on_alloc _ _)) (on_alloc _ _)) (on_alloc _ _))
  have HS3 := hid (show w3.heap.size = w2.heap.size + 1 + 1 + 1 + 1 + 1 by rw [hw3]; simp)
  have HL3 := hid (show w3.heap[w2.heap.size]? = some (.cells #[.slice (some ⟨w1.heap.size, 0, none⟩) 0 m] 25 (0, 0)) by
    rw [hw3]
    exact (Below.heap_alloc _ _ _ (by simp only [World.size_alloc]; omega)).trans ((Below.heap_alloc _ _ _ (by simp only [World.size_alloc]; omega)).trans ((Below.heap_alloc _ _ _ (by simp only [World.size_alloc]; omega)).trans ((Below.heap_alloc _ _ _ (by simp)).trans (World.alloc_heap_new w2 _)))))
  have HG3 := hid (show Box w3 (w2.heap.size + 1) N (some ⟨b, off, none⟩) n c by
    rw [hw3]
    have h := (((Box.new (w2.alloc (.cells #[.slice (some ⟨w1.heap.size, 0, none⟩) 0 m] 25)) N (some ⟨b, off, none⟩) n c 24).on (on_alloc _ (.cells #[.slice (some ⟨xb, xo, none⟩) N xc] 25))).on (on_alloc _ (.map #[] 0))).on (on_alloc _ (.cells #[.map (some (w2.heap.size + 1 + 1 + 1))] 122))
    rwa [World.size_alloc] at h)
  have HP3 := hid (show w3.cell? ⟨w2.heap.size + 1 + 1, 0, none⟩ = some (.slice (some ⟨xb, xo, none⟩) N xc) by
    rw [hw3]
    have h := (((Boxed.new ((w2.alloc (.cells #[.slice (some ⟨w1.heap.size, 0, none⟩) 0 m] 25)).alloc (.cells #[.int .i64 N, .slice (some ⟨b, off, none⟩) n c] 24)) 25 (.slice (some ⟨xb, xo, none⟩) N xc)).alloc (.map #[] 0)).alloc (.cells #[.map (some (w2.heap.size + 1 + 1 + 1))] 122)).cell
    rw [World.size_alloc, World.size_alloc] at h
    exact h)
  have HM3 := hid (show MapD w3 (w2.heap.size + 1 + 1 + 1) 0 [] by
    rw [hw3]
    have h := (MapD.made (((w2.alloc (.cells #[.slice (some ⟨w1.heap.size, 0, none⟩) 0 m] 25)).alloc (.cells #[.int .i64 N, .slice (some ⟨b, off, none⟩) n c] 24)).alloc (.cells #[.slice (some ⟨xb, xo, none⟩) N xc] 25))).on (on_alloc _ (.cells #[.map (some (w2.heap.size + 1 + 1 + 1))] 122))
    rwa [World.size_alloc, World.size_alloc, World.size_alloc] at h)
  have HQ3 := hid (show w3.cell? ⟨w2.heap.size + 1 + 1 + 1 + 1, 0, none⟩ = some (.map (some (w2.heap.size + 1 + 1 + 1))) by
    rw [hw3]
    have h := (Boxed.new ((((w2.alloc (.cells #[.slice (some ⟨w1.heap.size, 0, none⟩) 0 m] 25)).alloc (.cells #[.int .i64 N, .slice (some ⟨b, off, none⟩) n c] 24)).alloc (.cells #[.slice (some ⟨xb, xo, none⟩) N xc] 25)).alloc (.map #[] 0)) 122 (.map (some (w2.heap.size + 1 + 1 + 1)))).cell
    rw [World.size_alloc, World.size_alloc, World.size_alloc, World.size_alloc] at h
    exact h)
  have HO3 := hid (HO2.out.on HB3.out)
  have HX3 := hid ((HX1.out.on HB2.out).on HB3.out)
  have hx3 := HX3.out.1
  have hxy3 := HX3.out.2
  have hz3 := HX3.out.lt
  clear hw3 hx2 hxy2 hz2 hx1 hxy1 hz1 hx5
  have hs21 := HB2.out.size
  have hs11 : w.heap.size < w1.heap.size := by have := HS1.out; omega
  have hs31 : w2.heap.size + 1 + 1 + 1 + 1 < w3.heap.size := by have := HS3.out; omega
  have ho2l := HO2.out.lt
  refine wpIn_loop (FcO N b off n c m xb xo xc w.heap.size w1.heap.size w2.heap.size nx es w3) (fun a' _ => n - (intOf (a'.tmps.getD 26 undef)).toNat) ?start ?round
  case start =>
    exact ⟨0, 0, none, [], _, _, _, _, _, _, _, _, _, _, _, _, _, _, _, _, _, _, _, _, _, _, _, _, _, _, _, _, _, _, _, _, _, _, _, _, _, _, _, _, _, _, rfl, Nat.zero_le _, hid ⟨HL3.out, HO3.out, HM3.out, rfl, Kept.refl _ _, List.nodup_nil, fun D h => by simp at h⟩, hid (World.ownsRow_nil _ _ _ _)⟩
  case round =>
    rintro a' W ⟨i, cap, q, Ds, u9, u10, u11, u12, u13, u27, u28, u29, u30, u31, u32, u33, u34, u35, u36, u37, u38, u39, u40, u41, u42, u43, u44, u45, u46, u47, u48, u49, u50, u51, u52, u53, u54, u55, u56, u57, u58, u59, u60, u61, u62, u63, rfl, hi, hM, hR⟩
    by_cases hlt : i < n
    · have hlt' : (i : Int) < (n : Int) := by omega
      gi_wp2
      refine wpIn_loop (FcN N b off n c m xb xo xc w.heap.size w1.heap.size w2.heap.size i nx es w3) (fun a' _ => 2 - (intOf (a'.tmps.getD 29 undef)).toNat) ?start2 ?round2
      case start2 =>
        exact ⟨0, cap, q, Ds, _, _, _, _, _, _, _, _, _, _, _, _, _, _, _, _, _, _, _, _, _, _, _, _, _, _, _, _, _, _, _, _, _, _, _, _, _, _, rfl, Nat.zero_le _, hM, hR⟩
      case round2 =>
        clear hM hR
        rintro a' W ⟨t, cap, q, Ds, u10, u11, u12, u13, u30, u31, u32, u33, u34, u35, u36, u37, u38, u39, u40, u41, u42, u43, u44, u45, u46, u47, u48, u49, u50, u51, u52, u53, u54, u55, u56, u57, u58, u59, u60, u61, u62, u63, rfl, ht, hM, hR⟩
        obtain ⟨k, hk⟩ : ∃ k, 2 * i + t = k := ⟨_, rfl⟩
        rw [hk] at hM hR ⊢
        have HK := hid hk
        have hclen := faceL_len nx m k
        obtain ⟨LS, hLS⟩ : ∃ LS, faceL nx m k = LS := ⟨_, rfl⟩
        rw [hLS] at hR hclen ⊢
        have HLS := hid hLS
        obtain ⟨S, hS⟩ : ∃ S, flN nx m k = S := ⟨_, rfl⟩
        rw [hS] at hM
        have HS := hid hS
        obtain ⟨l, hl⟩ : ∃ l, S.length = l := ⟨_, rfl⟩
        rw [hl] at hM
        obtain ⟨K0, hK0⟩ : ∃ K0, LS.length = K0 := ⟨_, rfl⟩
        rw [hK0] at hR hclen ⊢
        have HK0 := hid hK0
        have hkm2 : k ≤ m := by have := HMm.out; omega
        have hl60 : l ≤ 60 := by rw [← hl, ← hS]; exact Nat.le_trans (flN_len HP.out hkm2) hm60
        clear hLS hS hl hK0 hk
        have hszW := hM.out.kept.size
        have HW0 := hid (show ∀ k, k < w.heap.size → W.heap[k]? = w.heap[k]? from fun k hk => (hM.out.kept.same k ⟨by omega, by omega, by omega, by omega⟩ (by omega)).trans ((HB3.out.block k (by omega)).trans ((HB2.out.block k (by omega)).trans (HB1.out.block k hk))))
        by_cases ht2 : t < 2
        · have ht2' : (t : Int) < 2 := by omega
          have hkm : k < m := by have := HMm.out; have := HK.out; omega
          obtain ⟨T, hT⟩ : ∃ T, dirT es k = T := ⟨_, rfl⟩
          have hwf := dirT_wf G.out (d := k) (by rw [Hn.out, HMm.out]; exact hkm)
          have hmem := dir_mem G.out (nx := nx) (k := k) (d := k) (by rw [Hn.out, HMm.out]; exact HP.out) (by rw [Hn.out, HMm.out]; exact hkm2) (by rw [Hn.out, HMm.out]; exact hkm)
          rw [Hn.out, HMm.out, HS.out, hT] at hmem
          rw [hT] at hwf
          obtain ⟨x, y, z⟩ := T
          obtain ⟨wx, wy, wz⟩ := hwf
          dsimp only at wx wy wz
          have HWf := hid (And.intro wx (And.intro wy wz))
          have HTk := hid hT
          obtain ⟨a, ha⟩ : ∃ a, metF nx m k k = a := ⟨_, rfl⟩
          rw [ha] at hmem
          have hdec : decide ((x, y, z) ∈ S.map (dirT es)) = a := by
            cases a
            · simpa using hmem
            · simpa using hmem
          have HA := hid ha
          have HDec := hid hdec
          clear ha hdec hmem hT wx wy wz
          have HrW := hid (Hr.out.keep (HW0.out b hbl))
          have hAl := iAlong_any N b off n c i t es W Hn.out hn30 HrW.out hlt ht2
          rw [alT_dir es i t ht2, HK.out, HTk.out] at hAl
          have HAl := hid hAl
          have hX0 : Box W w.heap.size N (some ⟨b, off, none⟩) n c := HX3.out.same (hM.out.kept.same w.heap.size ⟨by omega, by omega, by omega, by omega⟩ (by omega))
          have HGo := hid (show W.cell? ⟨w2.heap.size + 1 + 1 + 1 + 1, 0, none⟩ = some (.map (some (w2.heap.size + 1 + 1 + 1))) from (World.cell?_of_block (w := w3) (a := ⟨w2.heap.size + 1 + 1 + 1 + 1, 0, none⟩) (hM.out.kept.same (w2.heap.size + 1 + 1 + 1 + 1) ⟨by omega, by omega, by omega, by omega⟩ (by omega))).trans HQ3.out)
          have g0 := hX0.1
          have g1 := hX0.2
          have g2 := hX0.lt
          clear hAl hX0
          have hcl : W.cell? ⟨w2.heap.size, 0, none⟩ = some (.slice (some ⟨w1.heap.size, 0, none⟩) l m) := cell_of_row W _ 0 _ _ _ hM.out.box
          have hfl : W.frozen? ⟨w2.heap.size, 0, none⟩ = false := frozen_of_row W _ 0 _ _ hM.out.box
          have hBlW : w2.heap.size < W.heap.size := (Array.getElem?_eq_some_iff.1 hM.out.box).1
          cases a
          · gi_wp2_with (first
              | (refine ⟨trivial, ?_⟩; gi_at_call 106; refine (callsIn_wide.2 HAl.out).mono ?_; rintro e' w4 ⟨rfl, hb4⟩; have HB4 := hid (show Below W.heap.size W (w4.alloc (.cells #[.int .i64 x, .int .i64 y, .int .i64 z] 127)) from bfrom hb4 (on_alloc _ _)); have hml := (hM.out.map.on HB4.out).look Try.underlying122 HWf.out.1 HWf.out.2.1 HWf.out.2.2; rw [HDec.out] at hml; have hg4 := (hb4.cell (p := ⟨w2.heap.size + 1 + 1 + 1 + 1, 0, none⟩) (by show w2.heap.size + 1 + 1 + 1 + 1 < _; omega)).trans HGo.out; have hg4l : w2.heap.size + 1 + 1 + 1 + 1 < w4.heap.size := (by have := hb4.size; omega); have hcl4 := (hb4.cell (p := ⟨w2.heap.size, 0, none⟩) (by show w2.heap.size < _; omega)).trans hcl; have hcl4l : w2.heap.size < w4.heap.size := (by omega))
              | (refine ⟨trivial, ?_⟩; gi_at_call 105; refine (callsIn_wide.2 (iWalk_any _ _ _ _ _ rfl)).mono ?_; rintro e' w' ⟨rfl, rfl⟩))
            obtain ⟨Kc, hKc⟩ : ∃ Kc, perN nx m k = Kc := ⟨_, rfl⟩
            have hsp := per_spec HP.out hkm
            rw [hKc] at hsp
            obtain ⟨hK0', hKn, hKe, hKm⟩ := hsp
            have HKc := hid hKc
            obtain ⟨st, hst⟩ : ∃ st : Nat → DirT, st = fun j => dirT es (itN nx k j) := ⟨_, rfl⟩
            have HStj := hid (show ∀ j, st j = dirT es (itN nx k j) from fun j => by rw [hst])
            have HKe := hid (show st Kc = st 0 by rw [HStj.out, HStj.out, hKe]; rfl)
            have HKi := hid (show ∀ a b, a < b → b < Kc → st a ≠ st b from fun a b hab hb h => by
              rw [HStj.out, HStj.out] at h
              have h2 := dirT_inj G.out (by rw [Hn.out, HMm.out]; exact it_lt HP.out hkm a) (by rw [Hn.out, HMm.out]; exact it_lt HP.out hkm b) h
              exact it_diff HP.out hkm hab (by rw [HKc.out]; exact hb) h2)
            have hcap : l + Kc ≤ m := by
              have h := flN_room HP.out hkm HA.out
              rw [HS.out, hM.out.len, HKc.out] at h
              exact h
            obtain ⟨w5, hw5⟩ : ∃ w5, w5 = ((w4.alloc (.cells #[.int .i64 x, .int .i64 y, .int .i64 z] 127)).alloc (.cells #[.int .i64 x, .int .i64 y, .int .i64 z] 127)).alloc (.cells #[.func (.func 150) #[] #[.pointer (some ⟨w2.heap.size + 1, 0, none⟩), .pointer (some ⟨w2.heap.size + 1 + 1, 0, none⟩)]] 129) := ⟨_, rfl⟩
            rw [← hw5]
            have HB5 := hid (show Below W.heap.size W w5 by rw [hw5]; exact bfrom (bfrom HB4.out (on_alloc _ _)) (on_alloc _ _))
            have HS5 := hid (show w5.heap.size = w4.heap.size + 1 + 1 + 1 by rw [hw5]; simp)
            have HSt := hid (show BoxT w5 (w4.heap.size + 1) (st 0) by
              rw [HStj.out, show itN nx k 0 = k from rfl, HTk.out, hw5]
              exact (Box3.new (w4.alloc (.cells #[.int .i64 x, .int .i64 y, .int .i64 z] 127)) _ x y z (by simp)).on (on_alloc _ _))
            have HFn := hid (show w5.cell? ⟨w4.heap.size + 1 + 1, 0, none⟩ = some (.func (.func 150) #[] #[.pointer (some ⟨w2.heap.size + 1, 0, none⟩), .pointer (some ⟨w2.heap.size + 1 + 1, 0, none⟩)]) by
              rw [hw5]
              have h := (Boxed.new ((w4.alloc (.cells #[.int .i64 x, .int .i64 y, .int .i64 z] 127)).alloc (.cells #[.int .i64 x, .int .i64 y, .int .i64 z] 127)) 129 (.func (.func 150) #[] #[.pointer (some ⟨w2.heap.size + 1, 0, none⟩), .pointer (some ⟨w2.heap.size + 1 + 1, 0, none⟩)])).cell
              rw [World.size_alloc, World.size_alloc] at h
              exact h)
            have h4s := hb4.size
            have hs5 : w4.heap.size + 1 + 1 < w5.heap.size := by have := HS5.out; omega
            have HI0 := hid (show FcR es w5 w5 w2.heap.size w1.heap.size (w2.heap.size + 1 + 1 + 1) m l S [] from ⟨(HB5.out.block _ hBlW).trans hM.out.box, by rw [List.map_nil, List.append_nil]; exact hM.out.own.on HB5.out, by rw [List.append_nil]; exact hM.out.map.on HB5.out, Kept.refl _ _⟩)
            have HBa := hM.out.own.lt
            clear hw5 hb4 hKc hKe hKm hst g0 g1 g2 hcl hfl hml hg4 hcl4
            refine rangeFunc_movesB (n := 6) rfl (by omega) (gf := 133) (lb := #[.pointer (some ⟨w4.heap.size + 1, 0, none⟩), .pointer (some ⟨w4.heap.size + 1 + 1, 0, none⟩)]) rfl trivial (enters_of Try.func133 (by kernel_rfl) rfl) (A := w5.heap.size + 2) rfl
              (walk_movesX 4 (w5.heap.size + 2) (w4.heap.size + 1) (w4.heap.size + 1 + 1) 150 Kc #[.pointer (some ⟨w2.heap.size + 1, 0, none⟩), .pointer (some ⟨w2.heap.size + 1 + 1, 0, none⟩)] st (fun i => i ≠ w2.heap.size ∧ i ≠ w1.heap.size ∧ i ≠ w2.heap.size + 1 + 1 + 1) w5 (by omega) (by omega) (by omega) ⟨by omega, by omega, by omega⟩ ⟨by omega, by omega, by omega⟩ hK0' HKe.out HKi.out HSt.out HFn.out (enters_of Try.func150 (by kernel_rfl) rfl)
                (fun j hj W' hW' => by
                  have hk : ∀ k, k < W.heap.size → k ≠ w2.heap.size → k ≠ w1.heap.size → k ≠ w2.heap.size + 1 + 1 + 1 → W'.heap[k]? = W.heap[k]? := fun k h1 h2 h3 h4 => (hW'.same k ⟨by omega, h2, h3, h4⟩ (by omega)).trans (HB5.out.block k h1)
                  have hk0 : ∀ k, k < w.heap.size → W'.heap[k]? = w.heap[k]? := fun k h1 => (hk k (by omega) (by omega) (by omega) (by omega)).trans (HW0.out k h1)
                  have hk3 : ∀ k, k < w3.heap.size → k ≠ w2.heap.size → k ≠ w1.heap.size → k ≠ w2.heap.size + 1 + 1 + 1 → W'.heap[k]? = w3.heap[k]? := fun k h1 h2 h3 h4 => (hk k (by omega) h2 h3 h4).trans (hM.out.kept.same k ⟨h1, h2, h3, h4⟩ h1)
                  have e1 := hk3 (w2.heap.size + 1) (by omega) (by omega) (by omega) (by omega)
                  have e2 := hk3 (w2.heap.size + 1 + 1) (by omega) (by omega) (by omega) (by omega)
                  obtain ⟨d, hd⟩ : ∃ d, itN nx k j = d := ⟨_, rfl⟩
                  have hdm : d < m := by rw [← hd]; exact it_lt HP.out hkm j
                  have hst1 : st (j + 1) = dirT es (nxD es xs d) := by rw [HStj.out, HNx.out, ← hd]; rfl
                  rw [HStj.out, hst1, hd]
                  have hdn : d < 2 * n := by have := HMm.out; omega
                  obtain ⟨V, hV⟩ : ∃ V : Nat, toD es d = V := ⟨_, (Int.toNat_of_nonneg (toD_in G.out (d := d) (by rw [Hn.out]; exact hdn)).1.1).symm⟩
                  have hG3 := HG3.out.same e1
                  have h := iAroundF_any N d (d / 2) V (w2.heap.size + 1) (w2.heap.size + 1 + 1) b off n c xb xo xc (frD es d) es xs W' Hn.out (Hr.out.keep (hk0 b hbl)) G.out Hx.out.1 Hx.out.2 (Hrx.out.keep (hk0 xb hxl)) hG3.1 hG3.2 ((World.cell?_of_block (w := w3) (a := ⟨w2.heap.size + 1 + 1, 0, none⟩) e2).trans HP3.out) hdn rfl rfl hV _ _ rfl rfl
                  have hfr : frD es (nxD es xs d) = (V : Int) := by
                    obtain ⟨_, _, _, _, _, _, _, h6, _⟩ := nxD_at (xs := xs) G.out (d := d) (by rw [Hn.out]; exact hdn)
                    rw [h6, hV]
                  show Calls _ _ (#[dirV (((d / 2 : Nat) : Int)) (frD es d) (toD es d)] ++ _) _ fun r w' => r = .returned (dirV ((((nxD es xs d) / 2 : Nat) : Int)) (frD es (nxD es xs d)) (toD es (nxD es xs d))) ∧ _
                  rw [hV, hfr]
                  exact h))
              (fun h k => h.trans k) (fun W' lo o o' h1 h2 hl ho => ⟨rfl, rfl, rfl, by simp [World.putObj], fun i hp hi => World.putObj_heap_other (by rcases hp with hp | hp <;> omega)⟩)
              (fun Y Z i o h h1 h2 ho => (h.same i (by omega) (Array.getElem?_eq_some_iff.1 ho).1).trans ho) (fun Y Z h => h.size) (fun x W' lo o o' h _ _ hl ho => h) (Below.refl _ _) (fun _ => rfl)
              (fun (pre : List DirT) W' => FcR es w5 W' w2.heap.size w1.heap.size (w2.heap.size + 1 + 1 + 1) m l S pre)
              (fun _ _ _ => False)
              (FcR.from es w5 w2.heap.size w1.heap.size (w2.heap.size + 1 + 1 + 1) m l S (by omega))
              (fun _ _ _ _ _ hs _ _ => hs)
              (fun s Y Z h hm => h.moved hm (by omega) (by omega) (by omega) (by omega))
              (fun _ _ _ _ h _ => h)
              HI0.out (fun v => .cells #[.int .i64 v.1, .int .i64 v.2.1, .int .i64 v.2.2] 127) (fun W' o => (Kept.refl _ W').callD (on_alloc W' o)) (fun _ _ _ h => h)
              (fun v B => { tmps := #[.agg #[.int .i64 N, .slice (some ⟨b, off, none⟩) n c], .slice (some ⟨xb, xo, none⟩) N xc, .pointer (some ⟨w.heap.size, 0, none⟩), undef, .slice none 0 0, .slice q K0 cap, .pointer (some ⟨w2.heap.size, 0, none⟩), .func (.func 150) #[] #[.pointer (some ⟨w2.heap.size + 1, 0, none⟩), .pointer (some ⟨w2.heap.size + 1 + 1, 0, none⟩)], .pointer (some ⟨w2.heap.size + 1 + 1 + 1 + 1, 0, none⟩), .int .i64 i, .int .i64 t, .pointer (some ⟨w4.heap.size, 0, none⟩), .int .i64 l, .pointer (some ⟨B, 0, none⟩), .pointer (some ⟨w.heap.size, 1, none⟩), .slice (some ⟨b, off, none⟩) n c, .int .i64 n, .int .i64 m, .slice (some ⟨w1.heap.size, 0, none⟩) 0 m, .agg #[.int .i64 N, .slice (some ⟨b, off, none⟩) n c], .slice (some ⟨xb, xo, none⟩) N xc, .func (.func 150) #[] #[.pointer (some ⟨w2.heap.size + 1, 0, none⟩), .pointer (some ⟨w2.heap.size + 1 + 1, 0, none⟩)], .map (some (w2.heap.size + 1 + 1 + 1)), .pointer (some ⟨w.heap.size, 1, none⟩), .slice (some ⟨b, off, none⟩) n c, .int .i64 n, .int .i64 i, .bool true, .int .i64 i, .int .i64 t, .bool true, .int .i64 t, .agg #[.int .i64 N, .slice (some ⟨b, off, none⟩) n c], .int .i64 i, .int .i64 t, dirV x y z, .map (some (w2.heap.size + 1 + 1 + 1)), dirV x y z, .bool false, .slice (some ⟨w1.heap.size, 0, none⟩) l m, .int .i64 l, dirV x y z, .func (.func 150) #[] #[.pointer (some ⟨w2.heap.size + 1, 0, none⟩), .pointer (some ⟨w2.heap.size + 1 + 1, 0, none⟩)], .func (.func 133) #[] #[.pointer (some ⟨w4.heap.size + 1, 0, none⟩), .pointer (some ⟨w4.heap.size + 1 + 1, 0, none⟩)], dirV v.1 v.2.1 v.2.2, u45, u46, u47, u48, u49, u50, u51, u52, u53, u54, u55, u56, u57, u58, u59, u60, u61, u62, u63, undef], defers := [] }) ?assign ?body ?done ?stop
            case assign =>
              intro lo v W' K hK
              gi_wp2
              exact hK
            case body =>
              rintro lo pre v B W' hI hX hBA hBx hlen
              obtain ⟨vx, vy, vz⟩ := v
              obtain ⟨jj, hjj, hvj⟩ := hX
              have hvw := dirT_wf G.out (d := itN nx k jj) (by rw [Hn.out, HMm.out]; exact it_lt HP.out hkm jj)
              rw [← HStj.out, ← hvj] at hvw
              obtain ⟨v1, v2, v3⟩ := hvw
              dsimp only at v1 v2 v3 hBx
              have hszK := hI.kept.size
              have HI := hid hI
              have hc3 : W'.cell? ⟨w2.heap.size + 1 + 1 + 1 + 1, 0, none⟩ = some (.map (some (w2.heap.size + 1 + 1 + 1))) := (World.cell?_of_block (w := W) (a := ⟨w2.heap.size + 1 + 1 + 1 + 1, 0, none⟩) ((hI.kept.same (w2.heap.size + 1 + 1 + 1 + 1) ⟨by omega, by omega, by omega, by omega⟩ (by omega)).trans (HB5.out.block (w2.heap.size + 1 + 1 + 1 + 1) (by omega)))).trans HGo.out
              have hb0 : W'.cell? ⟨B, 0, none⟩ = some (.int .i64 vx) := cell_of_row W' B 0 _ _ _ hBx
              have hb1 : W'.cell? ⟨B, 1, none⟩ = some (.int .i64 vy) := cell_of_row W' B 1 _ _ _ hBx
              have hb2 : W'.cell? ⟨B, 2, none⟩ = some (.int .i64 vz) := cell_of_row W' B 2 _ _ _ hBx
              have hBB : B < W'.heap.size := (Array.getElem?_eq_some_iff.1 hBx).1
              have hBl' : w2.heap.size < W'.heap.size := (Array.getElem?_eq_some_iff.1 hI.box).1
              have hZl : w2.heap.size + 1 + 1 + 1 + 1 < W'.heap.size := by omega
              obtain ⟨w7, hput, hM7, hg7⟩ := hI.map.put Try.underlying122 (by unfold maxLen; omega) v1 v2 v3
              have hs7 := hg7.size
              have hk7 : ∀ k, k < W'.heap.size → k ≠ w2.heap.size + 1 + 1 + 1 → w7.heap[k]? = W'.heap[k]? := fun k h1 h2 => hg7.block k h1 (fun e => h2 (Option.some.inj e))
              have HBox7 := hid ((hk7 (w2.heap.size) hBl' (by omega)).trans hI.box)
              have HOwn7 := hid (hI.own.keep (hk7 (w1.heap.size) hI.own.lt (by omega)))
              have HM7 := hid hM7
              have HK7 := hid hk7
              have HG7 := hid hg7
              have hc2 : w7.cell? ⟨B, 0, none⟩ = some (.int .i64 vx) := cell_of_row w7 B 0 _ _ _ ((hk7 B hBB (by omega)).trans hBx)
              have HLen := hid (show ((S.map fun x => ((x / 2 : Nat) : Int)) ++ pre.map fun x => x.1).length = l + pre.length by rw [List.length_append, List.length_map, List.length_map, hM.out.len])
              obtain ⟨L, hL⟩ : ∃ L, l + pre.length = L := ⟨_, rfl⟩
              have hLm : L + 1 ≤ m := by omega
              rw [hL] at HBox7 HLen HM7
              have hc1 : w7.cell? ⟨w2.heap.size, 0, none⟩ = some (.slice (some ⟨w1.heap.size, 0, none⟩) L m) := cell_of_row w7 _ 0 _ _ _ HBox7.out
              have HL := hid hL
              have hBB7 : B < w7.heap.size := by omega
              have hBl7 : w2.heap.size < w7.heap.size := by omega
              have HVj := hid hvj
              clear hI hBx hL hk7 hg7 hM7 v1 v2 v3 hvj
              gi_wp2_with (gi_at_builtin; go_must (refine wpListIn_append_fits _ rfl (.tmp 47) (.tmp 50) 25 rfl 0 2 j0 1 Try.underlying25 Hj.out hy1 w1.heap.size L m (intVals ((S.map fun x => ((x / 2 : Nat) : Int)) ++ pre.map fun x => x.1)) rfl ((OwnI.row HOwn7.out HLen.out (Nat.zero_le _)).alloc _) ⟨w7.heap.size, 0, none⟩ 1 1 [.int .i64 vx] rfl rfl (cell_one_new _ _ _) (by simp [Value.oneCell']) hLm ?_); intro w8 hown8 hgrow8; have hb8 : w8.heap[w2.heap.size]? = some (.cells #[.slice (some ⟨w1.heap.size, 0, none⟩) L m] 25 (0, 0)) := (hgrow8.block w2.heap.size (by rw [World.size_alloc]; omega) (fun e => by have := Option.some.inj e; omega)).trans ((Below.heap_alloc w7 _ _ hBl7).trans HBox7.out); have hd8 : w8.cell? ⟨w2.heap.size, 0, none⟩ = some (.slice (some ⟨w1.heap.size, 0, none⟩) L m) := cell_of_row w8 _ 0 _ _ _ hb8; have hf8 : w8.frozen? ⟨w2.heap.size, 0, none⟩ = false := frozen_of_row w8 _ 0 _ _ hb8; have hs8 := hgrow8.size)
              rw [World.size_alloc] at hs8
              have hkeep7 : ∀ k, k < w7.heap.size → k ≠ w2.heap.size → k ≠ w1.heap.size → (w8.setCell ⟨w2.heap.size, 0, none⟩ (.slice (some ⟨w1.heap.size, 0, none⟩) (L + 1) m)).heap[k]? = w7.heap[k]? := fun k h1 h2 h3 =>
                (heap_setCell_other w8 ⟨w2.heap.size, 0, none⟩ k _ h2).trans ((hgrow8.block k (by rw [World.size_alloc]; omega) (fun e => h3 (Option.some.inj e))).trans (Below.heap_alloc w7 _ _ h1))
              have hkeep : ∀ k, k < W'.heap.size → k ≠ w2.heap.size → k ≠ w1.heap.size → k ≠ w2.heap.size + 1 + 1 + 1 → (w8.setCell ⟨w2.heap.size, 0, none⟩ (.slice (some ⟨w1.heap.size, 0, none⟩) (L + 1) m)).heap[k]? = W'.heap[k]? := fun k h1 h2 h3 h4 => (hkeep7 k (by omega) h2 h3).trans (HK7.out k h1 h4)
              have hsz8 : (w8.setCell ⟨w2.heap.size, 0, none⟩ (.slice (some ⟨w1.heap.size, 0, none⟩) (L + 1) m)).heap.size = w8.heap.size := by simp [World.setCell]
              have ho8 : (w8.setCell ⟨w2.heap.size, 0, none⟩ (.slice (some ⟨w1.heap.size, 0, none⟩) (L + 1) m)).os = W'.os := hgrow8.os.trans HG7.out.os
              have ht8 : (w8.setCell ⟨w2.heap.size, 0, none⟩ (.slice (some ⟨w1.heap.size, 0, none⟩) (L + 1) m)).tape = W'.tape := hgrow8.tape.trans HG7.out.tape
              have hu8 : (w8.setCell ⟨w2.heap.size, 0, none⟩ (.slice (some ⟨w1.heap.size, 0, none⟩) (L + 1) m)).output = W'.output := hgrow8.output.trans HG7.out.output
              refine ⟨⟨by rw [hsz8]; omega, fun k o hk ho hcs => (hkeep k (Array.getElem?_eq_some_iff.1 ho).1 (by omega) (by omega) (by omega)).trans ho⟩, ⟨ho8, ht8, hu8, by rw [hsz8]; omega, fun k hk hl => hkeep k hl (by rcases hk with hk | hk; exact hk.2.1; omega) (by rcases hk with hk | hk; exact hk.2.2.1; omega) (by rcases hk with hk | hk; exact hk.2.2.2; omega)⟩, ⟨?_, ?_, ?_, ?_⟩⟩
              · rw [List.length_append, ← Nat.add_assoc, HL.out]
                exact heap_setCell_same _ _ _ _ _ _ hb8
              · rw [List.map_append, ← List.append_assoc]
                have h := (OwnI.of_row (xs := ((S.map fun x => ((x / 2 : Nat) : Int)) ++ pre.map fun x => x.1) ++ [vx]) (n := L + 1) (by rw [intVals_append]; exact hown8) (by rw [List.length_append, HLen.out]; rfl)).1
                exact h.far (by show w1.heap.size ≠ w2.heap.size; omega) _
              · rw [List.length_append, ← Nat.add_assoc, HL.out, ← List.append_assoc]
                exact HM7.out.same (hkeep7 (w2.heap.size + 1 + 1 + 1) (by omega) (by omega) (by omega))
              · exact HI.out.kept.trans ⟨ho8, ht8, hu8, by rw [hsz8]; omega, fun k hk hl => hkeep k hl hk.2.1 hk.2.2.1 hk.2.2.2⟩
            case done =>
              rintro D ys W' hD hS hI hK
              subst hS
              have hszK := hI.kept.size
              have HI := hid hI
              have hbox := hI.box
              have hown := hI.own
              have hmap := hI.map
              rw [List.length_map, List.length_range] at hbox hmap
              have hfe : ((List.range Kc).map st).map (fun x => x.1) = feL nx k Kc := by
                unfold feL
                rw [List.map_map]
                apply List.map_congr_left
                intro j _
                show (st j).1 = _
                rw [HStj.out]
                rfl
              rw [hfe] at hown
              have HYf := hid (show flN nx m (k + 1) = S ++ orbN nx m k by rw [flN_yes HA.out, HS.out])
              have hor : S.map (dirT es) ++ (List.range Kc).map st = (flN nx m (k + 1)).map (dirT es) := by
                rw [HYf.out, List.map_append]
                congr 1
                unfold orbN
                rw [HKc.out, List.map_map]
                apply List.map_congr_left
                intro j _
                rw [HStj.out]
                rfl
              rw [hor] at hmap
              have hfl2 : (S.map fun x => ((x / 2 : Nat) : Int)) ++ feL nx k Kc = (flN nx m (k + 1)).map fun x => ((x / 2 : Nat) : Int) := by
                rw [HYf.out, List.map_append]
                congr 1
                unfold feL orbN
                rw [HKc.out, List.map_map]
                rfl
              rw [hfl2] at hown
              obtain ⟨L, hL⟩ : ∃ L, l + Kc = L := ⟨_, rfl⟩
              rw [hL] at hbox hmap
              have hc1 : W'.cell? ⟨w2.heap.size, 0, none⟩ = some (.slice (some ⟨w1.heap.size, 0, none⟩) L m) := cell_of_row W' _ 0 _ _ _ hbox
              have hBl' : w2.heap.size < W'.heap.size := (Array.getElem?_eq_some_iff.1 hbox).1
              have hsl : ∀ w', (Instr.slice 25 (.slice (some ⟨w1.heap.size, 0, none⟩) L m) (some (.int .i64 l)) (some (.int .i64 L)) (some (.int .i64 L))).run Try.prog w' = .ok (.slice (some ⟨w1.heap.size, l, none⟩) Kc Kc) w' := fun w' => run_three w' w1.heap.size l L m Kc hL hK0' (by omega)
              have HBox := hid hbox
              have HOwn := hid hown
              have HMap := hid hmap
              have HKd := hid hK
              have HL := hid hL
              have hDz : D < W'.heap.size := (Array.getElem?_eq_some_iff.1 hK).1
              have HR6 := hid (show W'.ownsRow w3.heap.size 25 1 (.slice q K0 cap) K0 (rowsV w1.heap.size LS) from ownsRow_keep hR.out (fun k h1 h2 => (hI.kept.same k ⟨by omega, by omega, by omega, by omega⟩ (by omega)).trans (HB5.out.block k h2)))
              clear hI hbox hown hmap hK hL hfe hor hfl2
              gi_wp2_with (gi_at_builtin; go_must (refine wpListIn_append_own _ rfl (.tmp 52) (.tmp 60) 41 rfl w3.heap.size 25 s0 (.slice none 0 0) 1 24 Try.underlying41 Hs.out hs0 hs1 hs2 rfl (by decide) (.slice q K0 cap) K0 (rowsV w1.heap.size LS) rfl (HR6.out.alloc _) ⟨W'.heap.size, 0, none⟩ 1 1 [.slice (some ⟨w1.heap.size, l, none⟩) Kc Kc] rfl rfl (cell_one_new _ _ _) (by simp [Value.oneCell']) (by unfold maxLen; omega) (by omega) (by simp; omega) ?_); intro v' w9 hown9 hgrow9 _; obtain ⟨g9, cap9, rfl⟩ := ownsRow_succ hown9)
              have HYes := hid (show faceL nx m (k + 1) = LS ++ [feL nx k Kc] by rw [faceL_yes HA.out, HLS.out, HKc.out])
              have HYl := hid (show (faceL nx m (k + 1)).length = K0 + 1 by rw [HYes.out, List.length_append, HK0.out]; rfl)
              have HYn := hid (show (flN nx m (k + 1)).length = L by rw [HYf.out, List.length_append, orbN_len, HKc.out, hM.out.len, HL.out])
              have hLSf : LS.flatten.length = l := by rw [← HLS.out, face_flat, HS.out, List.length_map, hM.out.len]
              have hrow9 : ∀ j, (Value.slice q K0 cap).ownBlock = some j → w3.heap.size ≤ j ∧ j < W'.heap.size := HR6.out.lt
              have hk9 : ∀ k, k < W'.heap.size → some k ≠ (Value.slice q K0 cap).ownBlock → w9.heap[k]? = W'.heap[k]? := fun k h1 h2 => (hgrow9.block k (by rw [World.size_alloc]; omega) h2).trans (Below.heap_alloc W' _ _ h1)
              have hs9 : W'.heap.size + 1 ≤ w9.heap.size := by have := hgrow9.size; rwa [World.size_alloc] at this
              have hk9' : ∀ k, k < w3.heap.size → w9.heap[k]? = W'.heap[k]? := fun k h1 => hk9 k (by omega) (fun e => by have := (hrow9 k e.symm).1; omega)
              have hnoD : ∀ D' o, W'.heap[D']? = some o → o.isCells = false → some D' ≠ (Value.slice q K0 cap).ownBlock := fun D' o h1 h2 e => by
                rcases HR6.out.2 with ⟨h3, _⟩ | ⟨g, c', cur, h3, _, h4, _⟩
                · rw [h3] at e; cases e
                · rw [h3] at e
                  have e2 : D' = g := Option.some.inj e
                  subst e2
                  rw [h4] at h1
                  have := Option.some.inj h1
                  subst this
                  cases h2
              have hDs : ∀ D', D' ∈ Ds → D' < W.heap.size := fun D' h => (Array.getElem?_eq_some_iff.1 (hM.out.col D' h).1).1
              have hk1 : 2 * i + (t + 1) = k + 1 := by have := HK.out; omega
              have HW9 := hid (show FcW es w3 w9 w3.heap.size w2.heap.size w1.heap.size (w2.heap.size + 1 + 1 + 1) m (D :: Ds) (flN nx m (k + 1)) L by
                refine ⟨(hk9' _ (by omega)).trans HBox.out, HOwn.out.keep (hk9' _ (by omega)), HMap.out.same (hk9' _ (by omega)), HYn.out, ?_, ?_, ?_⟩
                · refine ⟨?_, ?_, ?_, by omega, fun k hk hl => ?_⟩
                  · exact hgrow9.os.trans (HI.out.kept.os.trans (HB5.out.os.trans hM.out.kept.os))
                  · exact hgrow9.tape.trans (HI.out.kept.tape.trans (HB5.out.tape.trans hM.out.kept.tape))
                  · exact hgrow9.output.trans (HI.out.kept.output.trans (HB5.out.output.trans hM.out.kept.output))
                  · exact (hk9' k hl).trans ((HI.out.kept.same k ⟨by omega, hk.2.1, hk.2.2.1, hk.2.2.2⟩ (by omega)).trans ((HB5.out.block k (by omega)).trans (hM.out.kept.same k hk hl)))
                · refine List.nodup_cons.2 ⟨fun h => ?_, hM.out.nodup⟩
                  have := hDs D h
                  have := HB5.out.size
                  omega
                · intro D' hD'
                  have key : ∀ k, k < W'.heap.size → W'.heap[k]? = some (.deferred (some [])) → w9.heap[k]? = some (.deferred (some [])) := fun k h1 h3 => (hk9 k h1 (hnoD k _ h3 rfl)).trans h3
                  rcases List.mem_cons.1 hD' with rfl | h
                  · exact ⟨key _ hDz HKd.out, by have := HB5.out.size; omega⟩
                  · obtain ⟨h1, h2⟩ := hM.out.col D' h
                    have h3 := hDs D' h
                    have h4 := HB5.out.size
                    exact ⟨key D' (by omega) ((HI.out.kept.same D' ⟨by omega, by omega, by omega, by omega⟩ (by omega)).trans ((HB5.out.block D' h3).trans h1)), h2⟩
                )
              have HR9 := hid (show w9.ownsRow w3.heap.size 25 1 (.slice (some ⟨g9, 0, none⟩) (K0 + 1) cap9) (K0 + 1) (rowsV w1.heap.size (LS ++ [feL nx k Kc])) by
                rw [rowsV_push, hLSf, feL_len]
                exact hown9)
              refine ⟨⟨t + 1, cap9, some ⟨g9, 0, none⟩, D :: Ds, _, _, _, _, _, _, _, _, _, _, _, _, _, _, _, _, _, _, _, _, _, _, _, _, _, _, _, _, _, _, _, _, _, _, _, _, _, _, by rw [hk1, HYl.out]; rfl, by omega, by rw [hk1, HYn.out]; exact HW9, by rw [hk1, HYl.out, HYes.out]; exact HR9⟩, ?_⟩
              show 2 - (intOf (.int .i64 ((t : Int) + 1))).toNat < 2 - (intOf (.int .i64 (t : Int))).toNat
              simp [intOf]
              omega
            case stop =>
              rintro D c' pre W' _ _ h _
              exact h.elim
          · gi_wp2_with (refine ⟨trivial, ?_⟩; gi_at_call 106; refine (callsIn_wide.2 HAl.out).mono ?_; rintro e' w4 ⟨rfl, hb4⟩; have HB4 := hid (show Below W.heap.size W (w4.alloc (.cells #[.int .i64 x, .int .i64 y, .int .i64 z] 127)) from bfrom hb4 (on_alloc _ _)); have hml := (hM.out.map.on HB4.out).look Try.underlying122 HWf.out.1 HWf.out.2.1 HWf.out.2.2; rw [HDec.out] at hml; have hg4 := (hb4.cell (p := ⟨w2.heap.size + 1 + 1 + 1 + 1, 0, none⟩) (by show w2.heap.size + 1 + 1 + 1 + 1 < _; omega)).trans HGo.out; have hg4l : w2.heap.size + 1 + 1 + 1 + 1 < w4.heap.size := (by have := hb4.size; omega); have hcl4 := (hb4.cell (p := ⟨w2.heap.size, 0, none⟩) (by show w2.heap.size < _; omega)).trans hcl; have hcl4l : w2.heap.size < w4.heap.size := (by omega))
            have hk1 : 2 * i + (t + 1) = k + 1 := by have := HK.out; omega
            have HNo := hid (show faceL nx m (k + 1) = LS by rw [faceL_no HA.out, HLS.out])
            have HNf := hid (show flN nx m (k + 1) = S by rw [flN_no HA.out, HS.out])
            refine ⟨⟨t + 1, cap, q, Ds, _, _, _, _, _, _, _, _, _, _, _, _, _, _, _, _, _, _, _, _, _, _, _, _, _, _, _, _, _, _, _, _, _, _, _, _, _, _, by rw [hk1, HNo.out, HK0.out]; rfl, by omega, by rw [hk1, HNf.out, hM.out.len]; exact hid (hM.out.on HB4.out), by rw [hk1, HNo.out, HK0.out]; exact hid (ownsRow_keep hR.out (fun k _ hl => HB4.out.block k hl))⟩, ?_⟩
            show 2 - (intOf (.int .i64 ((t : Int) + 1))).toNat < 2 - (intOf (.int .i64 (t : Int))).toNat
            simp [intOf]
            omega
        · obtain rfl : t = 2 := by omega
          have hk2 : 2 * (i + 1) = k := by have := HK.out; omega
          gi_wp2
          refine ⟨⟨i + 1, cap, q, Ds, _, _, _, _, _, _, _, _, _, _, _, _, _, _, _, _, _, _, _, _, _, _, _, _, _, _, _, _, _, _, _, _, _, _, _, _, _, _, _, _, _, _, by rw [hk2, HLS.out, HK0.out]; rfl, by omega, by rw [hk2, HS.out, hM.out.len]; exact hM, by rw [hk2, HLS.out, HK0.out]; exact hR⟩, ?_⟩
          show n - (intOf (.int .i64 ((i : Int) + 1))).toNat < n - (intOf (.int .i64 (i : Int))).toNat
          simp [intOf]
          omega
    · have h2i : 2 * i = m := by have := HMm.out; omega
      rw [h2i] at hM hR ⊢
      have hszW := hM.out.kept.size
      have HW0 := hid (show ∀ k, k < w.heap.size → W.heap[k]? = w.heap[k]? from fun k hk => (hM.out.kept.same k ⟨by omega, by omega, by omega, by omega⟩ (by omega)).trans ((HB3.out.block k (by omega)).trans ((HB2.out.block k (by omega)).trans (HB1.out.block k hk))))
      gi_wp2
      refine leaves_colls (fun w' => results_tmp rfl _ _ _) Ds W hM.out.nodup (fun D h => (hM.out.col D h).1) (fun w' h1 h2 h3 h4 h5 => ?_)
      have hDs : ∀ D', D' ∈ Ds → w3.heap.size ≤ D' := fun D' h => (hM.out.col D' h).2
      refine ⟨q, cap, w1.heap.size, rfl, ?_, ?_, by omega, ?_⟩
      · have h := ownsRow_leave hR.out (w' := w') (fun k cur t fr hk hc => h5 k (fun hin => by
          have hd := (hM.out.col k hin).1
          rw [hd] at hc
          cases hc))
        exact row_lessD h (by omega)
      · rw [face_flat]
        exact hM.out.own.keep (h5 _ (fun hin => by have := hDs _ hin; omega))
      · refine ⟨h1.trans (hM.out.kept.os.trans (HB3.out.os.trans (HB2.out.os.trans HB1.out.os))), h2.trans (hM.out.kept.tape.trans (HB3.out.tape.trans (HB2.out.tape.trans HB1.out.tape))), h3.trans (hM.out.kept.output.trans (HB3.out.output.trans (HB2.out.output.trans HB1.out.output))), by rw [h4]; omega, fun k hk => (h5 k (fun hin => by have := hDs _ hin; omega)).trans (HW0.out k hk)⟩

end Go.Proofs.Ytpadnliebimceaa
