/- ExchangeChain in the model and in the program. -/
import Derived.Test.YtafiockejagapaaChnJ
import Derived.Deep.RegionHeld3
import Derived.BigRegion
import Derived.Lib.SliceRun
namespace Go.Proofs.Ytafiockejagapaa
open Go.RowKit

/-- The colour of the edge f once the chain of e is exchanged. -/
def exF (es : List (Int × Int)) (cs : List Int) (d : Int) (e f : Nat) : Int := if chB es cs d e f = true then d - eI cs f else eI cs f
def exU (es : List (Int × Int)) (cs : List Int) (d : Int) (e k : Nat) : List Int := (List.range k).map (exF es cs d e)
theorem exU_succ (es : List (Int × Int)) (cs : List Int) (d : Int) (e k : Nat) : exU es cs d e (k + 1) = exU es cs d e k ++ [exF es cs d e k] := by
  unfold exU
  rw [List.range_succ, List.map_append]
  rfl
theorem exU_len (es : List (Int × Int)) (cs : List Int) (d : Int) (e k : Nat) : (exU es cs d e k).length = k := by simp [exU]
theorem exU_at {es : List (Int × Int)} {cs : List Int} {d : Int} {e k f : Nat} (hf : f < k) : eI (exU es cs d e k) f = exF es cs d e f := by
  rw [eI_lt (by rw [exU_len]; exact hf)]
  simp [exU]
theorem chU_mem {es : List (Int × Int)} {cs : List Int} {d : Int} {e k f : Nat} : (f : Int) ∈ chU es cs d e k ↔ f < k ∧ chB es cs d e f = true := by
  unfold chU
  simp only [List.mem_map, List.mem_filter, List.mem_range]
  constructor
  · rintro ⟨i, h, hi⟩
    have : i = f := by omega
    subst this
    exact h
  · intro h
    exact ⟨f, h, rfl⟩
theorem chU_rng {es : List (Int × Int)} {cs : List Int} {d : Int} {e k i : Nat} (hi : i < (chU es cs d e k).length) : ∃ f : Nat, eI (chU es cs d e k) i = f ∧ f < k := by
  have h := eI_mem hi
  obtain ⟨f, hf, hx⟩ := List.mem_map.1 h
  exact ⟨f, hx.symm, List.mem_range.1 (List.mem_filter.1 hf).1⟩
def fExchangeChain (s : Int) (es : List (Int × Int)) (cs : List Int) (e b : Int) : List Int × Int := if chainCode s es cs e b = 0 then (exU es cs (eI cs e.toNat + b) e.toNat es.length, 0) else ([], chainCode s es cs e b)
theorem fExchangeChain_len (s : Int) (es : List (Int × Int)) (cs : List Int) (e b : Int) (h : es.length ≤ 1048576) (_ : cs.length ≤ 1048576) : (fExchangeChain s es cs e b).1.length ≤ 1048576 := by
  unfold fExchangeChain
  split
  · dsimp only
    rw [exU_len]
    exact h
  · simp

set_option maxRecDepth 100000 in
set_option maxHeartbeats 8000000 in
theorem sExch_any (s : Int) (b off n c cb co m f0 E : Nat) (B : Int) (es : List (Int × Int)) (cs : List Int) (w : World) (hn : es.length = n) (hr : ReadsE w b off es) (hl : cs.length = m) (hrc : ReadsI w cb co cs) (hnm : m = n) (G0 : ChG s es cs (eI cs E + B) E) :
    Calls Try.prog 69 #[.agg #[.int .i64 s, .slice (some ⟨b, off, none⟩) n c], .slice (some ⟨cb, co, none⟩) m f0, .int .i64 E, .int .i64 B] w fun e' w' => ∃ q cap, e' = .returned (.slice q n cap) ∧ FreshI w.heap.size w' q n cap (exU es cs (eI cs E + B) E n) ∧ Below w.heap.size w w' := by
  have hn30 : n ≤ 30 := by have := isG_len G0.g; omega
  have hm30 : m ≤ 30 := by omega
  have HNM := hid hnm
  have Hn := hid hn
  have Hr := hid hr
  have Hl := hid hl
  have Hrc := hid hrc
  have G := hid G0
  have hEm : E < m := by have := G0.he; omega
  have hEm' : (E : Int) < (m : Int) := by omega
  have hcb : cb < w.heap.size := hrc.lt (by omega)
  have hAB : (0 ≤ eI cs E ∧ eI cs E < 3) ∧ (0 ≤ B ∧ B < 3) := by have h1 := (G0.gc.2 E G0.he).1; have h2 := G0.hb; omega
  obtain ⟨A, hA⟩ : ∃ A, eI cs E = A := ⟨_, rfl⟩
  have HAE := hid hA
  rw [hA] at hAB G ⊢
  obtain ⟨hA0, hB0⟩ := hAB
  have ew : IntKind.i64.wrap (A + B) = A + B := IntWalk.i64_in _ (by omega)
  obtain ⟨j0, hj, hy0, hy1, hy2⟩ := info_parts infoInt
  have Hj := hid hj
  clear hn hr hl hrc G0 hA hj hnm
  go_enter Try.func69, Try.ntmps69
  go_wp2_with fail
  refine (sChain_any s b off n c cb co m f0 E B es cs _ Hn.out (Hr.out.on (on_alloc _ _)) Hl.out (Hrc.out.on (on_alloc _ _)) HNM.out (by rw [HAE.out]; exact G.out)).mono ?_
  rw [HAE.out]
  rintro e' w4 ⟨gM, rfl, hgM, ho4, hb4⟩
  have HO := hid ho4
  have HB4 := hid (bfrom (w := w) (on_alloc _ _) hb4)
  have hs4 := HB4.out.size
  have hgz := ho4.lt
  clear ho4 hb4
  obtain ⟨w5, hw5⟩ : ∃ w5, w5 = w4.alloc (.cells #[] 2) := ⟨_, rfl⟩
  go_wp2
  rw [← hw5]
  have HB5 := hid (show Below w4.heap.size w4 w5 by rw [hw5]; exact on_alloc _ _)
  have HO5 := hid (show w5.ownsRow w4.heap.size 2 1 (.slice (some ⟨w4.heap.size, 0, none⟩) 0 0) 0 (intVals (exU es cs (A + B) E 0)) by rw [hw5]; exact World.ownsRow_made (base := w4.heap.size) (e := 2) (size := 1) w4 #[] 0 (Nat.le_refl _) (Nat.zero_le _) rfl)
  clear hw5
  go_loopw [10, 11] (fun u v wx => ∃ (j cap : Nat) (q : Option Addr), j ≤ m ∧ u = .slice q j cap ∧ v = .int .i64 j ∧ Hid (wx.ownsRow w4.heap.size 2 1 (.slice q j cap) j (intVals (exU es cs (A + B) E j))) ∧ Hid (Below w4.heap.size w4 wx)) (fun _ v _ => m - (intOf v).toNat)
  case atStart => exact ⟨0, 0, _, Nat.zero_le _, rfl, rfl, HO5, HB5⟩
  case round =>
    obtain ⟨j, capj, qj, hj, rfl, rfl, hOj, hBj⟩ := hrel
    clear HO5 HB5
    have hBs := hBj.out.size
    by_cases hltj : j < m
    · have hltj' : (j : Int) < (m : Int) := by omega
      have hltn' : (j : Int) < (n : Int) := by have := HNM.out; omega
      have HOl := hid (HO.out.on hBj.out)
      have hcj := HOl.out.cell (i := j) (by rw [chM_len]; have := Hn.out; have := HNM.out; omega)
      rw [chM_at (by have := Hn.out; have := HNM.out; omega)] at hcj
      have hgj := HOl.out.lt
      have HBx := hid (bfrom HB4.out hBj.out)
      have hcF := Hrc.out.on HBx.out j (by have := Hl.out; omega)
      have hcE := Hrc.out.on HBx.out E (by have := Hl.out; omega)
      have hcbr : cb < wr.heap.size := by have := HBx.out.size; omega
      rw [HAE.out] at hcE
      obtain ⟨z, hz⟩ : ∃ z, eI cs j = z := ⟨_, rfl⟩
      have hz3 := (G.out.gc.2 j (by have := Hn.out; have := HNM.out; omega)).1
      rw [hz] at hcF hz3
      obtain ⟨hz3, hz4⟩ := hz3
      have ewz : IntKind.i64.wrap (A + B - z) = A + B - z := IntWalk.i64_in _ (by omega)
      obtain ⟨y, hy⟩ : ∃ y, chB es cs (A + B) E j = y := ⟨_, rfl⟩
      rw [hy] at hcj
      have HV := hid (show exF es cs (A + B) E j = if y = true then A + B - z else z by unfold exF; rw [hy, hz])
      clear hy hz
      have hl31 : j + 1 ≤ 31 := by omega
      obtain ⟨wi, rfl⟩ : ∃ wi : World, wi = wr := ⟨_, rfl⟩
      have hrow : ∀ j', (Value.slice qj j capj).ownBlock = some j' → w4.heap.size ≤ j' ∧ j' < wi.heap.size := hOj.out.lt
      have ac : (Value.slice qj j capj).ownBlock ≠ some cb := fun h => by have := (hrow _ h).1; have := HB4.out.size; omega
      have hcbs : cb < wi.heap.size := hcbr
      cases y
      · have hval : exF es cs (A + B) E j = z := by rw [HV.out]; rfl
        have HVal := hid hval
        clear hval
        have HRow := hid (World.ownsRow.alloc hOj.out (.cells #[.int .i64 z] 2))
        go_wp2_with (at_builtin; go_must (refine wpList_append_lies _ rfl (.tmp 42) (.tmp 47) 36 rfl w4.heap.size 2 j0 (.int .i64 0) 1 8 Try.underlying36 Hj.out hy0 hy1 hy2 rfl (by decide) (.slice qj j capj) j _ rfl HRow.out ⟨wi.heap.size, 0, none⟩ 1 1 [.int .i64 z] rfl rfl (World.news_of_block (cs := #[.int .i64 z]) (t := 2) (fr := (0, 0)) (heap_alloc_new _ _)) (by simp [Value.oneCell']) (by decide) (by unfold maxLen; omega) (by omega) (by rw [World.size_alloc]; omega) (wi.heap.size + 1) (by rw [World.size_alloc]) ?_); intro g7 cap7 w7 hown7 hgrow7 hlie7 hg7; have Hown := hid hown7; have Hgrow := hid hgrow7; clear hown7 hgrow7 hlie7)
        go_roundw
        case rel =>
          refine ⟨j + 1, cap7, some ⟨g7, 0, none⟩, by omega, rfl, by go_num, hid ?_, hid ?_⟩
          · rw [exU_succ, intVals_append, HVal.out]; exact Hown.out
          · exact (hBj.out.alloc hBs (.cells #[.int .i64 z] 2)).grown Hgrow.out (by rw [World.size_alloc]; omega) (fun j' e => (hrow j' e).1)
        case measure => simp [intOf]; omega
      · have hval : exF es cs (A + B) E j = A + B - z := by rw [HV.out]; rfl
        have HVal := hid hval
        clear hval
        go_wp2
        go_region_held3 (fun w' => w'.cell? ⟨cb, co + E, none⟩ = some (.int .i64 A) ∧ w'.cell? ⟨cb, co + j, none⟩ = some (.int .i64 z))
          (first
            | go_keep
            | (go_split_ands
               refine ⟨?_, ?_⟩
               · (rw [hgrow.cell_far _ (by simp; omega) (Ne.symm ac)]; assumption)
               · (rw [hgrow.cell_far _ (by simp; omega) (Ne.symm ac)]; assumption)))
          ((refine step_append_lies _ (by rfl) _ _ _ (by rfl) w4.heap.size 2 j0 _ 1 8 Try.underlying36 Hj.out hy0 hy1 hy2 rfl (by decide) (.slice qj j capj) j _ (by rfl) ((hOj.out.alloc _).drew)
              ⟨wi.heap.size, 0, none⟩ 1 1 [.int .i64 (A + B - z)] (by rfl) (by rfl) (World.news_of_block (cs := #[.int .i64 (A + B - z)]) (t := 2) (fr := (0, 0)) (heap_alloc_new wi _)) (by simp [Value.oneCell'])
              (by decide) (by unfold maxLen; omega) (by omega) (by simp; omega) (wi.heap.size + 1) (by simp) ?_; intro gg cap' w1 hown1 hgrow hat hlt'))
        go_wp2
        go_roundw
        case rel =>
          refine ⟨j + 1, cap', some ⟨gg, 0, none⟩, by omega, rfl, by go_num, hid ?_, hid ?_⟩
          · rw [exU_succ, intVals_append, HVal.out]; exact hown1
          · exact ((hBj.out.alloc hBs _).drew).grown hgrow (by simp; omega) (fun j' e => (hrow j' e).1)
        case measure => simp [intOf]; omega
    · have hjn := hid (show j = n by have := HNM.out; omega)
      have HF := hid (show FreshI w4.heap.size wr qj n capj (exU es cs (A + B) E n) from ⟨by have h := hOj.out; rw [hjn.out] at h; exact h, exU_len _ _ _ _ _⟩)
      go_wp2
      go_ret
      exact ⟨qj, capj, by rw [hjn.out]; rfl, FreshI.less HF.out hs4, bfrom HB4.out hBj.out⟩

end Go.Proofs.Ytafiockejagapaa
