/- Chains in the program: chainOf. -/
import Derived.Test.YtjkemganbfldpaaEdgeWith
import Derived.Test.YtjkemganbfldpaaSortI
import Derived.Test.YtjkemganbfldpaaOwnMore
import Derived.Deep.AppendLies
import Derived.Deep.DeepMust
import Derived.StillTailTactics
import Derived.BigQuiet
import Derived.Deep.RegionWith
import Derived.Deep.DeepCutAuto
import Derived.WalkMore
import Derived.ScopeJumps
namespace Go.Proofs.Ytjkemganbfldpaa
open Go.RowKit

def lenOf : Value → Nat | .slice _ n _ => n | _ => 0
theorem chW_succ (es : List (Int × Int)) (cs : List Int) (d : Int) (e k : Nat) : chW es cs d e (k + 1) = chW es cs d e k ++ [((chS es cs d e k).1 : Int)] := by
  unfold chW
  rw [List.range_succ, List.map_append]
  rfl
theorem wp_skip_seq {P : Program} {c : Code} {a : Act} {w : World} {Q : Exit → Act → World → Prop} (h : c.wp P Q a w) : (Code.skip.seq c).wp P Q a w := wp_seq (wp_skip h)
theorem chW_len (es : List (Int × Int)) (cs : List Int) (d : Int) (e k : Nat) : (chW es cs d e k).length = k := by simp [chW]

set_option maxRecDepth 100000 in
set_option maxHeartbeats 16000000 in
theorem iChain_any (s : Int) (b off n c cb co m f0 E : Nat) (B : Int) (es : List (Int × Int)) (cs : List Int) (w : World) (hn : es.length = n) (hr : ReadsE w b off es) (hl : cs.length = m) (hrc : ReadsI w cb co cs) (hnm : m = n) (G0 : ChG s es cs (eI cs E + B) E) :
    Calls Try.prog 31 #[.agg #[.int .i64 s, .slice (some ⟨b, off, none⟩) n c], .slice (some ⟨cb, co, none⟩) m f0, .int .i64 E, .int .i64 B] w fun e' w' => ∃ q cap, e' = .returned (.slice q (chU es cs (eI cs E + B) E n).length cap) ∧ FreshI w.heap.size w' q (chU es cs (eI cs E + B) E n).length cap (chU es cs (eI cs E + B) E n) ∧ Below w.heap.size w w' := by
  subst hnm
  have hn30 : m ≤ 30 := by have := isG_len G0.g; omega
  have Hn := hid hn
  have Hr := hid hr
  have Hl := hid hl
  have Hrc := hid hrc
  have G := hid G0
  have hEm : E < m := by have := G0.he; omega
  have hEm' : (E : Int) < (m : Int) := by omega
  have hcb : cb < w.heap.size := hrc.lt (by omega)
  have hbb : b < w.heap.size := reads_lt hr (by have := G0.he; omega)
  obtain ⟨K, hK, hKe, hmin⟩ := ch_end G0
  have HK := hid (And.intro hK (And.intro hKe hmin))
  have hKm : K ≤ m := by have := ch_len G0 hmin; omega
  have hcE := hrc E (by omega)
  have hc1 := (hr E (by omega)).1
  obtain ⟨D, hD⟩ : ∃ D, D = eI cs E + B := ⟨_, rfl⟩
  obtain ⟨A, hA⟩ : ∃ A, eI cs E = A := ⟨_, rfl⟩
  have hAB : (0 ≤ A ∧ A < 3) ∧ (0 ≤ B ∧ B < 3) := by have h1 := (G0.gc.2 E G0.he).1; have h2 := G0.hb; omega
  have ew : IntKind.i64.wrap (A + B) = A + B := IntWalk.i64_in _ (by omega)
  have HAE := hid hA
  have HD := hid hD
  have HDB := hid (show D = A + B by omega)
  rw [← hD] at G HK ⊢
  rw [hA] at hcE
  obtain ⟨X0, hX0⟩ : ∃ X0 : Nat, eA es E = X0 := ⟨_, (Int.toNat_of_nonneg (G0.g.1.2 E G0.he).1).symm⟩
  rw [hX0] at hc1
  have HXA := hid hX0
  obtain ⟨j0, hj, hy0, hy1, hy2⟩ := info_parts infoInt
  have Hj := hid hj
  clear hn hr hl hrc G0 hD hA hj hK hKe hmin hX0 hAB
  go_enter Try.func31, Try.ntmps31
  have HX0 := hid (Box.new w s (some ⟨b, off, none⟩) m c 31)
  have HB0 := hid (on_alloc w (.cells #[.int .i64 s, .slice (some ⟨b, off, none⟩) m c] 31))
  go_wp2
  obtain ⟨w2, hw2⟩ : ∃ w2, w2 = w.alloc (.cells #[.int .i64 s, .slice (some ⟨b, off, none⟩) m c] 31) := ⟨_, rfl⟩
  rw [← hw2] at HX0 HB0 ⊢
  clear hw2
  have hz2' := HX0.out.lt
  have hs2 := HB0.out.size
  have hc1' := (HB0.out.cell (p := ⟨b, off + E * 2, none⟩) hbb).trans hc1
  have hcE' := (HB0.out.cell (p := ⟨cb, co + E, none⟩) hcb).trans hcE
  have hcb2 : cb < w2.heap.size := by omega
  have hbb2 : b < w2.heap.size := by omega
  have hx0 := HX0.out.1
  have hy0' := HX0.out.2
  clear hc1 hcE
  obtain ⟨J, hJ⟩ : ∃ J : Act → World → Prop, J = fun a' w' => ∃ (i cap : Nat) (q : Option Addr) (V0 : Int) (u13 u14 u15 u16 u17 u18 u19 u20 u21 u22 u23 u24 u25 u26 u27 u28 u29 u30 u31 u32 u33 u34 u35 u36 u37 u38 u39 u40 u41 u42 u43 u44 u45 u46 u47 u48 : Value), a' = { tmps := #[.agg #[.int .i64 s, .slice (some ⟨b, off, none⟩) m c], .slice (some ⟨cb, co, none⟩) m f0, .int .i64 E, .int .i64 B, .pointer (some ⟨w.heap.size, 0, none⟩), undef, undef, undef, .slice none 0 0, .slice q i cap, .int .i64 (A + B), .int .i64 ((chS es cs D E i).1 : Int), .int .i64 V0, u13, u14, u15, u16, u17, u18, u19, u20, u21, u22, u23, u24, u25, u26, u27, u28, u29, u30, u31, u32, u33, u34, u35, u36, u37, u38, u39, u40, u41, u42, u43, u44, u45, u46, u47, u48], defers := [] } ∧ V0 = (chS es cs D E i).2 ∧ i < K ∧ Hid (w'.ownsRow w2.heap.size 2 1 (.slice q i cap) i (intVals (chW es cs D E i))) ∧ Hid (Below w2.heap.size w2 w') := ⟨_, rfl⟩
  have HJ := hid hJ
  clear hJ
  refine (fun (hbody : ∀ (a : Act) (wr : World), J a wr → Code.wp Try.prog _ (Exit.jump 0 (fun a' w' => J a' w' ∧ K - lenOf (a'.tmps.getD 9 undef) < K - lenOf (a.tmps.getD 9 undef)) _) a wr) => wp_scope_jumps 0 J (fun a' _ => K - lenOf (a'.tmps.getD 9 undef)) rfl ?first (fun a wr hj => wp_skip_seq (hbody a wr hj))) ?body
  case first =>
    go_wp2
    go_quiet (fail)
    go_wp2
    go_step3
    rename_i K1 hK1
    refine hK1 _ _ (wp_mono (hbody _ _ ?_) (fun e a w' h => by cases e <;> first | exact h | exact ⟨h.1, h.2.1⟩))
    rw [HJ.out]
    exact ⟨0, 0, none, _, _, _, _, _, _, _, _, _, _, _, _, _, _, _, _, _, _, _, _, _, _, _, _, _, _, _, _, _, _, _, _, _, _, _, _, _, rfl, HXA.out.symm, HK.out.1, hid (World.ownsRow_nil _ _ _ _), hid (bdn.mpr (Below.refl _ _))⟩
  case body =>
    intro a' wr hj
    rw [HJ.out] at hj
    obtain ⟨i, cap, q, V0, u13, u14, u15, u16, u17, u18, u19, u20, u21, u22, u23, u24, u25, u26, u27, u28, u29, u30, u31, u32, u33, u34, u35, u36, u37, u38, u39, u40, u41, u42, u43, u44, u45, u46, u47, u48, rfl, hV0, hiK, HO, HB⟩ := hj
    obtain ⟨F, hF⟩ : ∃ F, (chS es cs D E i).1 = F := ⟨_, rfl⟩
    obtain ⟨V, hV⟩ : ∃ V : Nat, (chS es cs D E i).2 = V := ⟨_, (Int.toNat_of_nonneg (chS_ok G.out i).rg.1).symm⟩
    rw [hF]
    rw [hV] at hV0
    subst hV0
    have HF := hid hF
    have HV := hid hV
    clear hF hV
    have hvi := chS_ok G.out i
    have hF1 := hvi.lt
    have hV1 := hvi.rg
    rw [HF.out] at hF1
    rw [HV.out] at hV1
    have hFm : F < m := by have := Hn.out; omega
    have hFm' : (F : Int) < (m : Int) := by omega
    have hVs : (V : Int) < s := hV1.2
    have hot := hvi.other G.out
    rw [HF.out] at hot
    obtain ⟨z, hz⟩ : ∃ z, eI cs F = z := ⟨_, rfl⟩
    rw [hz] at hot
    have HZ := hid hz
    obtain ⟨C, hC⟩ : ∃ C : Nat, D - z = C := ⟨_, (Int.toNat_of_nonneg hot.1).symm⟩
    have hC3 : C < 3 := by omega
    have hABz : A + B - z = C := by rw [← HDB.out]; exact hC
    have ewz : IntKind.i64.wrap (A + B - z) = C := by rw [hABz]; exact IntWalk.i64_in _ (by omega)
    have hok2 := chS_ok G.out (i + 1)
    obtain ⟨F2, hF2⟩ : ∃ F2, (chS es cs D E (i + 1)).1 = F2 := ⟨_, rfl⟩
    obtain ⟨V2, hV2⟩ : ∃ V2 : Nat, (chS es cs D E (i + 1)).2 = V2 := ⟨_, (Int.toNat_of_nonneg hok2.rg.1).symm⟩
    have HF2 := hid hF2
    have HV2 := hid hV2
    have HN1 := hid (show colAt es cs V C = F2 by rw [← hF2, ← hC, ← hz, ← HF.out, ← HV.out]; rfl)
    have HN2 := hid (show othE es V F2 = V2 by rw [← hV2, ← HN1.out, ← hC, ← hz, ← HF.out, ← HV.out]; rfl)
    clear hvi hF1 hV1 hot hz hC hABz hok2 hF2 hV2
    have HXr := hid (HX0.out.on HB.out)
    have hzr := HXr.out.lt
    have hszr := HB.out.size
    have hgr : ∀ j', (Value.slice q i cap).ownBlock = some j' → w2.heap.size ≤ j' ∧ j' < wr.heap.size := HO.out.lt
    have HRow := hid (World.ownsRow.alloc HO.out (.cells #[.int .i64 F] 2))
    have hi31 : i ≤ 30 := by omega
    go_wp2_with (at_builtin; go_must (refine wpList_append_lies _ rfl (.tmp 26) (.tmp 28) 25 rfl w2.heap.size 2 j0 (.int .i64 0) 1 8 Try.underlying25 Hj.out hy0 hy1 hy2 rfl (by decide) (.slice q i cap) i _ rfl HRow.out ⟨wr.heap.size, 0, none⟩ 1 1 [.int .i64 F] rfl rfl (World.news_of_block (cs := #[.int .i64 F]) (t := 2) (fr := (0, 0)) (heap_alloc_new _ _)) (by simp [Value.oneCell']) (by decide) (by unfold maxLen; omega) (by omega) (by first | omega | (rw [World.size_alloc]; omega) | (simp; omega)) (wr.heap.size + 1) (by first | rfl | (rw [World.size_alloc]) | simp) ?_); intro g7 cap7 w7 hown7 hgrow7 hlie7 hg7; have Hown := hid hown7; have Hgrow := hid hgrow7; have hB7 : Below w2.heap.size w2 w7 := (HB.out.alloc hszr (.cells #[.int .i64 F] 2)).grown hgrow7 (by rw [World.size_alloc]; omega) (fun j' e => (hgr j' e).1); have HB7 := hid hB7; have hX7 := HX0.out.on hB7; have hx7 := hX7.1; have hy7 := hX7.2; have hz7 := hX7.lt; have hcF7 := (Hrc.out.on (bfrom HB0.out hB7)) F (by have := Hl.out; omega); have hcb7 : cb < w7.heap.size := by have := hB7.size; omega)
    rw [HZ.out] at hcF7
    have HEW := hid (show ∀ wq, Below w7.heap.size w7 wq → Calls Try.prog 43 #[.agg #[.int .i64 s, .slice (some ⟨b, off, none⟩) m c], .slice (some ⟨cb, co, none⟩) m f0, .int .i64 V, .int .i64 C] wq fun e' w' => e' = .returned (.tuple #[.int .i64 F2, .int .i64 V2]) ∧ Below w7.heap.size w7 w' from fun wq hq => by
      refine (iEdgeWith_any s b off m c cb co m f0 V C es cs wq Hn.out (Hr.out.on (bfrom HB0.out (bfrom HB7.out hq))) Hl.out (Hrc.out.on (bfrom HB0.out (bfrom HB7.out hq))) rfl G.out.g G.out.gc hVs hC3).mono ?_
      rw [HN1.out, HN2.out]
      rintro e' w8 ⟨rfl, hb8⟩
      exact ⟨rfl, bfrom hq hb8⟩)
    clear hown7 hgrow7 hlie7 hX7 hB7
    go_wp2
    go_cut [11, 12] (fun u v wx => u = .int .i64 F2 ∧ v = .int .i64 V2 ∧ Hid (Below w7.heap.size w7 wx))
    case first =>
      go_region_with (go_at_call 43; refine (HEW.out _ (by first | exact (Below.refl _ _).drew | exact Below.refl _ _)).mono ?_; rintro e' w8 ⟨rfl, hb8⟩)
      all_goals
        go_wp2_with fail
        go_meet
        exact ⟨rfl, rfl, hid hb8⟩
    case rest =>
    obtain ⟨rfl, rfl, hcb⟩ := hcut
    obtain ⟨w8, rfl⟩ : ∃ w8, w8 = wc := ⟨_, rfl⟩
    have hb8 := hcb.out
    clear hcb
    have HB8 := hid (show Below w2.heap.size w2 w8 from bfrom HB7.out hb8)
    have HO8 := hid ((show w7.ownsRow w2.heap.size 2 1 (.slice (some ⟨g7, 0, none⟩) (i + 1) cap7) (i + 1) (intVals (chW es cs D E i) ++ [.int .i64 F]) from Hown.out).kept (below_grown hb8) (Or.inr (by intro h; cases h)))
    have hch : intVals (chW es cs D E i) ++ [.int .i64 (F : Int)] = intVals (chW es cs D E (i + 1)) := by rw [chW_succ, intVals_append, HF.out]; rfl
    rw [hch] at HO8
    clear hb8 hx7 hy7 hcF7 hch
    by_cases hend : i + 1 = K
    · subst hend
      have hFE : F2 = E := by rw [← HF2.out]; exact HK.out.2.1
      have ht : ((F2 : Int) != (E : Int)) = false := by rw [hFE]; simp
      have HP := hid (chW_perm G.out HK.out.1 HK.out.2.1 HK.out.2.2)
      have HFr := hid (show FreshI w2.heap.size w8 (some ⟨g7, 0, none⟩) (i + 1) cap7 (chW es cs D E (i + 1)) from ⟨HO8.out, chW_len _ _ _ _ _⟩)
      obtain ⟨hg7b, hO7⟩ : w2.heap.size ≤ g7 ∧ OwnI w8 g7 cap7 (chW es cs D E (i + 1)) := by
        rcases HFr.out.form with ⟨h, _⟩ | ⟨g, h, h2, h3⟩
        · cases h
        · cases h; exact ⟨h2, h3⟩
      have HO7 := hid hO7
      clear hO7 hFE
      go_wp2_with fail
      refine (sortI_any g7 cap7 (i + 1) (chW es cs D E (i + 1)) _ HO7.out (chW_len _ _ _ _ _) (by omega)).mono ?_
      rw [mergeSort_eq HP.out (chU_sorted es cs D E es.length)]
      rintro e9 w9 ⟨rfl, ho9, hg9⟩
      go_wp2
      simp only [Exit.jump]
      go_ret
      have hlen : (chU es cs D E m).length = i + 1 := by have h := HP.out.length_eq; rw [chW_len] at h; rw [← Hn.out, ← h]
      rw [Hn.out] at ho9
      exact ⟨some ⟨g7, 0, none⟩, cap7, by rw [hlen]; rfl, FreshI.less (FreshI.of_own ho9 rfl hg7b) hs2, bfrom HB0.out (HB8.out.grown hg9 HB8.out.size (fun k e => by have := Option.some.inj e; omega))⟩
    · have hlt2 : i + 1 < K := by omega
      have hFE : F2 ≠ E := by rw [← HF2.out]; exact HK.out.2.2 (i + 1) (by omega) hlt2
      have ht : ((F2 : Int) != (E : Int)) = true := by
        have h : ¬ (F2 : Int) = (E : Int) := by omega
        simpa using h
      clear hend hFE
      go_wp2
      go_step3
      refine ⟨rfl, ?_⟩
      rw [HJ.out]
      refine ⟨⟨i + 1, cap7, some ⟨g7, 0, none⟩, _, _, _, _, _, _, _, _, _, _, _, _, _, _, _, _, _, _, _, _, _, _, _, _, _, _, _, _, _, _, _, _, _, _, _, _, _, by rw [HF2.out], HV2.out.symm, hlt2, HO8, HB8⟩, ?_⟩
      simp [lenOf]; omega
end Go.Proofs.Ytjkemganbfldpaa
