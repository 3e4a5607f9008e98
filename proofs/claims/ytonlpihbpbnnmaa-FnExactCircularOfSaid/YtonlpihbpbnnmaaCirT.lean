/- The search for circular colourings in the model: l08Circular. -/
import Derived.Test.YtonlpihbpbnnmaaCirU
import Derived.Test.YtonlpihbpbnnmaaSrcA
import Derived.Test.YtonlpihbpbnnmaaOwnS
namespace Go.Proofs.Ytonlpihbpbnnmaa
open Go.RowKit

/-- What the model's search hands back. -/
def CiP (B : Nat) (S : Option (List Int)) (n : Nat) (q : Option Addr) (l c : Nat) (fnd : Bool) (w w' : World) : Prop :=
  Below w.heap.size w w' ∧
    ((fnd = true ∧ l = n ∧ ∃ g zs, q = some ⟨g, 0, none⟩ ∧ S = some zs ∧ OwnI w' g c zs ∧ zs.length = n ∧ B ≤ g) ∨
     (fnd = false ∧ (q = none ∧ l = 0 ∧ c = 0) ∧ S = none))
def CiPost (B : Nat) (S : Option (List Int)) (n : Nat) (w : World) (e : Ending) (w' : World) : Prop :=
  ∃ q l c fnd, e = .returned (.tuple #[.slice q l c, .bool fnd]) ∧ CiP B S n q l c fnd w w'
/-- The number x fits the first f ones. -/
def fitU (k d : Int) (M : Nat → Nat → Bool) (xs : List Int) (p : Nat) (x : Int) (f : Nat) : Bool := decide (∀ j, j < f → M p j = true → apartB k d x (eI xs j) = true)
theorem fitU_more {k d : Int} {M : Nat → Nat → Bool} {xs : List Int} {p : Nat} {x : Int} {f g : Nat} (h : f ≤ g) (hf : fitU k d M xs p x f = false) : fitU k d M xs p x g = false := by
  unfold fitU at *
  exact decide_eq_false fun h1 => of_decide_eq_false hf fun j hj hM => h1 j (by omega) hM
theorem fitU_succ {k d : Int} {M : Nat → Nat → Bool} {xs : List Int} {p : Nat} {x : Int} {f : Nat} (hf : fitU k d M xs p x f = true) : fitU k d M xs p x (f + 1) = (!M p f || apartB k d x (eI xs f)) := by
  unfold fitU at *
  rw [Bool.eq_iff_iff, Bool.or_eq_true, decide_eq_true_eq]
  constructor
  · intro h
    cases hM : M p f
    · exact .inl rfl
    · exact .inr (h f (by omega) hM)
  · intro h j hj hM
    rcases Nat.lt_or_ge j f with h1 | h1
    · exact of_decide_eq_true hf j h1 hM
    · have e : j = f := by omega
      subst e
      rw [hM] at h
      rcases h with h | h
      · cases h
      · exact h

set_option maxRecDepth 100000 in
set_option maxHeartbeats 16000000 in
theorem sCirc_any (s : Int) (b off n c0 B : Nat) (k : Nat) (d : Int) (es : List (Int × Int)) (w0 : World) (hn : es.length = n) (hn30 : n ≤ 30) (hr : ReadsE w0 b off es) (hk : 1 ≤ k ∧ k ≤ 60) (hd : 0 ≤ d ∧ d ≤ 1000) :
    ∀ (r : Nat) (xs : List Int) (p gl cl : Nat) (w : World), xs.length = p → p + r = n → suitP k d (nearB es) xs → Below w0.heap.size w0 w → OwnI w gl cl xs → B ≤ gl → B ≤ w.heap.size →
    Calls Try.prog 80 #[.agg #[.int .i64 s, .slice (some ⟨b, off, none⟩) n c0], .int .i64 k, .int .i64 d, .slice (some ⟨gl, 0, none⟩) p cl] w (CiPost B (srch k d (nearB es) r xs) n w) := by
  intro r
  induction r with
  | zero =>
    intro xs p gl cl w hl hp hs hB hO hgl hBw
    obtain rfl : p = n := by omega
    have HP := hid (show CiP B (srch k d (nearB es) 0 xs) p (some ⟨gl, 0, none⟩) p cl true w (w.alloc (.cells #[.int .i64 s, .slice (some ⟨b, off, none⟩) p c0] 30)) from ⟨on_alloc _ _, .inl ⟨rfl, rfl, gl, xs, rfl, rfl, hO.alloc _, hl, hgl⟩⟩)
    clear hl hp hs hB hO hn hr
    go_enter Try.func80, Try.ntmps80
    go_wp2
    go_ret2
    exact ⟨_, _, _, _, rfl, HP.out⟩
  | succ r ih =>
    intro xs p gl cl w hl hp hs hB hO hgl hBw
    have hpn : ((p : Int) == (n : Int)) = false := by simp; omega
    have hpn2 : p < n := by omega
    have Hn := hid hn
    have Hr := hid (hr.on hB)
    have IH := hid ih
    have HL := hid hl
    have HS := hid hs
    have HB := hid hB
    have HO := hid hO
    have HSR := hid (suit_fit.1 hs).1
    have hglw : gl < w.heap.size := hO.lt
    have HX := hid (Box.new w s (some ⟨b, off, none⟩) n c0 30)
    have HB1 := hid (on_alloc w (.cells #[.int .i64 s, .slice (some ⟨b, off, none⟩) n c0] 30))
    obtain ⟨S, hS⟩ : ∃ S, srch k d (nearB es) (r + 1) xs = S := ⟨_, rfl⟩
    have HSS := hid hS
    rw [hS]
    clear ih hl hs hB hO hn hr hS
    go_enter Try.func80, Try.ntmps80
    go_wp2
    obtain ⟨w1, hw1⟩ : ∃ w1, w1 = w.alloc (.cells #[.int .i64 s, .slice (some ⟨b, off, none⟩) n c0] 30) := ⟨_, rfl⟩
    rw [← hw1] at HX HB1 ⊢
    clear hw1
    go_loopw [11] (fun i wr => ∃ x : Nat, x ≤ k ∧ i = .int .i64 x ∧ Hid (∀ y : Nat, y < x → fitB k d (nearB es) xs p y = true → srch k d (nearB es) r (xs ++ [(y : Int)]) = none) ∧ Hid (Below w1.heap.size w1 wr)) (fun i _ => k - (intOf i).toNat)
    case atStart => exact ⟨0, Nat.zero_le _, rfl, hid (fun y hy => absurd hy (by omega)), hid (Below.refl _ _)⟩
    case round =>
      obtain ⟨x, hx, rfl, hnone, hBr⟩ := hrel
      by_cases hlt : x < k
      · have hlt' : (x : Int) < (k : Int) := by omega
        go_wp2
        go_loopw [12, 13] (fun u i wx => ∃ f : Nat, f ≤ p ∧ i = .int .i64 f ∧ u = .bool (fitU k d (nearB es) xs p x f) ∧ Hid (Below w1.heap.size w1 wx)) (fun u i _ => p - (intOf i).toNat)
        case atStart => exact ⟨0, Nat.zero_le _, rfl, by rw [show fitU k d (nearB es) xs p x 0 = true from decide_eq_true (fun j hj => absurd hj (by omega))], hBr⟩
        case round =>
          obtain ⟨f, hf, rfl, rfl, hBx⟩ := hrel
          have HBw := hid (bfrom HB1.out hBx.out)
          have HXr := hid (HX.out.on hBx.out)
          have hxr := HXr.out.1
          have hyr := HXr.out.2
          have hzr := HXr.out.lt
          have hBs := HBw.out.size
          obtain ⟨wo, rfl⟩ : ∃ wo : World, wo = wr := ⟨_, rfl⟩
          have HCr := hid (HO.out.on HBw.out)
          by_cases hcond : f < p ∧ fitU k d (nearB es) xs p x f = true
          · obtain ⟨hfp, hfu⟩ := hcond
            have hfp' : (f : Int) < (p : Int) := by omega
            have hsu := fitU_succ hfu
            rw [hfu]
            have HSU := hid hsu
            have k1 := HCr.out.reads f (by rw [HL.out]; exact hfp)
            rw [Nat.zero_add] at k1
            obtain ⟨y, hy⟩ : ∃ y, eI xs f = y := ⟨_, rfl⟩
            rw [hy] at k1
            have hy2 := HSR.out f (by rw [HL.out]; exact hfp)
            rw [hy] at hy2
            have HY := hid hy
            have hglo : gl < wo.heap.size := by omega
            have HK1 := hid k1
            clear hsu hy hfu
            cases g1 : nearB es p f
            · have HV := hid (show true = fitU k d (nearB es) xs p x (f + 1) by rw [HSU.out, g1]; rfl)
              go_wp2_with fail
              refine (sNear_any s b off n c0 p f es _ Hn.out hn30 (Hr.out.on HBw.out) hpn2 (by omega)).mono ?_
              rw [g1]
              rintro e' w5 ⟨rfl, hb5⟩
              have HB5 := hid (bfrom hBx.out hb5)
              clear hb5
              go_wp2
              go_roundw
              case rel => exact ⟨f + 1, by omega, by go_num, by rw [← HV.out], HB5⟩
              case measure => simp [intOf]; omega
            · have HV := hid (show apartB k d x y = fitU k d (nearB es) xs p x (f + 1) by rw [HSU.out, g1, HY.out]; rfl)
              go_wp2_with fail
              refine (sNear_any s b off n c0 p f es _ Hn.out hn30 (Hr.out.on HBw.out) hpn2 (by omega)).mono ?_
              rw [g1]
              rintro e' w5 ⟨rfl, hb5⟩
              have q1 := (hb5.cell (p := ⟨gl, f, none⟩) hglo).trans HK1.out
              have hgl5 : gl < w5.heap.size := by have := hb5.size; omega
              have HB5 := hid (bfrom hBx.out hb5)
              clear hb5 k1
              go_wp2_with fail
              refine (sApart_any k d x y _ (by omega) hd (by omega) (by omega)).mono ?_
              rw [HV.out]
              rintro e' w' ⟨rfl, rfl⟩
              go_wp2
              go_roundw
              case rel => exact ⟨f + 1, by omega, by go_num, rfl, HB5⟩
              case measure => simp [intOf]; omega
          · have HV := hid (show fitU k d (nearB es) xs p x f = fitB k d (nearB es) xs p x by
              by_cases hfp : f < p
              · have h1 : fitU k d (nearB es) xs p x f = false := by
                  cases e : fitU k d (nearB es) xs p x f
                  · rfl
                  · exact absurd ⟨hfp, e⟩ hcond
                rw [h1]
                exact (fitU_more (Nat.le_of_lt hfp) h1).symm
              · have e : f = p := by omega
                rw [e]; rfl)
            rw [HV.out]
            cases hfb : fitB k d (nearB es) xs p x
            · by_cases hfp : (f : Int) < (p : Int)
              all_goals
                go_wp2
                go_roundw
                case rel =>
                  refine ⟨x + 1, by omega, by go_num, hid (fun y hy hf => ?_), hBx⟩
                  rcases Nat.lt_or_ge y x with h | h
                  · exact hnone.out y h hf
                  · obtain rfl : y = x := by omega
                    rw [hfb] at hf
                    cases hf
                case measure => simp [intOf]; omega
            · have hfp : ¬ (f : Int) < (p : Int) := fun h => hcond ⟨by omega, HV.out.trans hfb⟩
              have HFB := hid hfb
              have hBo : B ≤ wo.heap.size := by omega
              have hglo : gl < wo.heap.size := by omega
              clear hfb hcond
              go_wp2
              first
                | (go_region_law (first
                    | (go_simp; go_at_call 130; refine (sOwnI_any gl 0 p cl xs _ HL.out (by omega) (HCr.out.on (by first | exact (Below.refl _ _).drew | exact bfrom (Below.refl _ _).drew (on_alloc _ _) | exact (on_alloc _ _).drew)).reads (by simp; omega)).mono ?_; rintro e' w6 ⟨g6, cap6, rfl, hg6, ho6, hb6⟩; have hB6 : Below wo.heap.size wo w6 := bfrom (by first | exact (Below.refl _ _).drew | exact bfrom (Below.refl _ _).drew (on_alloc _ _) | exact (on_alloc _ _).drew) hb6; have hz6 := hB6.size; have hx6 := ((bcells hB6).1 _ _ hzr).trans hxr; have hy6 := ((bcells hB6).1 _ _ hzr).trans hyr; have hg6' : wo.heap.size ≤ g6 := (by simp at hg6; omega); have hzr6 : w.heap.size < w6.heap.size := (by omega); (first | (have hnews : w6.cell? ⟨wo.heap.size, 0, none⟩ = some (.int .i64 (x : Int)) := ((bcells hb6).1 wo.heap.size 0 (new_lt wo _)).trans (new_at wo _ 2)) | skip))
                    | ((first | (refine step_copy_push (by rfl) (.tmp 60) (.tmp 62) (by rfl) g6 cap6 p wo.heap.size wo.heap.size x xs (by rfl) (by rfl) ho6 HL.out hg6' hz6 (by omega) hnews ?_) | (refine step_copy_push (by rfl) (.tmp 60) (.tmp 62) (by rfl) g6 cap6 p w6.heap.size wo.heap.size x xs (by rfl) (by rfl) (ho6.alloc _) HL.out hg6' (by simp; omega) (by omega) (by simp) ?_)); intro g7 cap7 w7 ho7 hb7 hg7; have hB7 : Below wo.heap.size wo w7 := (by first | exact hB6.trans hb7 | exact (hB6.alloc hz6 _).trans hb7); have hx7 := ((bcells hB7).1 _ _ hzr).trans hxr; have hy7 := ((bcells hB7).1 _ _ hzr).trans hyr; have hzr7 : w.heap.size < w7.heap.size := (by have := hB7.size; omega))
                    | (go_simp; go_at_call 80; refine (IH.out (xs ++ [(x : Int)]) (p + 1) g7 cap7 _ (by rw [List.length_append, HL.out]; rfl) (by omega) (suit_app HS.out (by omega) (by rw [HL.out]; exact HFB.out)) (HB.out.trans ((bfrom HBw.out (by first | exact hB7 | exact hB7.drew)).mono HB.out.size)) (by first | exact ho7 | exact ho7.keep rfl) (by omega) (by first | (have := hB7.size; omega) | (have := hB7.size; simp; omega))).mono ?_; rintro e' w8 ⟨q, l, c, fnd, rfl, h8⟩; have H8 := hid (show CiP B (srch k d (nearB es) r (xs ++ [(x : Int)])) n q l c fnd wo w8 from ⟨bfrom (by first | exact hB7 | exact hB7.drew) h8.1, h8.2⟩); clear h8; dsimp only)))
                | fail
              all_goals
                have HB8 := hid (bfrom HBw.out H8.out.1)
                cases fnd
                · rcases H8.out.2 with ⟨h, _⟩ | ⟨_, ⟨rfl, rfl, rfl⟩, hno⟩
                  · cases h
                  have HNo := hid hno
                  have HBr8 := hid (bfrom hBx.out H8.out.1)
                  clear hno
                  by_cases hp0 : p = 0
                  · subst hp0
                    have HP := hid (show S = none by
                      rw [← HSS.out]
                      refine srch_tried (t := 1) (n := n) HS.out (.inr (.inl ⟨List.eq_nil_of_length_eq_zero HL.out, rfl, hk.1⟩)) (by rw [HL.out]; omega) fun y hy hf => ?_
                      by_cases hx0 : x = 0
                      · have e : y = x := by omega
                        rw [e]; exact HNo.out
                      · exact hnone.out y (by omega) (by rw [← HL.out]; exact hf))
                    go_wp2
                    go_ret2
                    exact ⟨_, _, _, _, rfl, by first | exact HB8.out | exact bdn.mpr HB8.out, .inr ⟨rfl, ⟨rfl, rfl, rfl⟩, HP.out⟩⟩
                  · have hp0' : ((p : Int) == 0) = false := by simpa using hp0
                    go_wp2
                    go_roundw
                    case rel =>
                      refine ⟨x + 1, by omega, by go_num, hid (fun y hy hf => ?_), by first | exact HBr8 | exact hid (bdn.mpr HBr8.out)⟩
                      rcases Nat.lt_or_ge y x with h | h
                      · exact hnone.out y h hf
                      · have e : y = x := by omega
                        rw [e]; exact HNo.out
                    case measure => simp [intOf]; omega
                · rcases H8.out.2 with ⟨_, e1, g', zs, rfl, hz, hO8, hzl, hg8⟩ | ⟨h, _⟩
                  rotate_left
                  · cases h
                  obtain rfl := e1.symm
                  have HP := hid (show S = some zs by
                    rw [← HSS.out]
                    exact firstS_some (x := x) (fun y hy => by
                      by_cases hf : fitB k d (nearB es) xs xs.length y = true
                      · rw [if_pos hf]; exact hnone.out y hy (by rw [← HL.out]; exact hf)
                      · rw [if_neg hf]) (by rw [if_pos (by rw [HL.out]; exact HFB.out)]; exact hz) hlt)
                  have HQ := hid (show OwnI w8 g' c zs ∧ zs.length = n ∧ B ≤ g' from ⟨hO8, hzl, hg8⟩)
                  clear hz hO8 hzl hg8
                  go_wp2
                  go_ret2
                  exact ⟨_, _, _, _, rfl, by first | exact HB8.out | exact bdn.mpr HB8.out, .inl ⟨rfl, rfl, g', zs, rfl, HP.out, by first | exact HQ.out.1 | exact HQ.out.1.keep rfl, HQ.out.2⟩⟩
      · have hxk := hid (show x = k by omega)
        have HP := hid (show S = none by
          rw [← HSS.out]
          exact firstS_none.2 fun y hy => by
            by_cases hf : fitB k d (nearB es) xs xs.length y = true
            · rw [if_pos hf]; exact hnone.out y (by rw [hxk.out]; exact hy) (by rw [← HL.out]; exact hf)
            · rw [if_neg hf])
        go_wp2
        go_ret2
        exact ⟨_, _, _, _, rfl, bfrom HB1.out hBr.out, .inr ⟨rfl, ⟨rfl, rfl, rfl⟩, HP.out⟩⟩

end Go.Proofs.Ytonlpihbpbnnmaa
