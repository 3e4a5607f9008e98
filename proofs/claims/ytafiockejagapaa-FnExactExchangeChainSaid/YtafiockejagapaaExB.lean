/- ExchangeChain: the program's exchanged, and both functions. -/
import Derived.Test.YtafiockejagapaaExA
namespace Go.Proofs.Ytafiockejagapaa
open Go.RowKit

set_option maxHeartbeats 2000000 in
set_option maxRecDepth 100000 in
theorem cloneI_row (b off n c : Nat) (xs : List Int) (w : World) (hn : xs.length = n) (hm : n ≤ 1048576) (hr : ReadsI w b off xs) :
    Calls Try.prog 83 #[.slice (some ⟨b, off, none⟩) n c] w fun e w' => ∃ q cap, e = .returned (.slice q n cap) ∧ FreshI w.heap.size w' q n cap xs ∧ Below w.heap.size w w' := by
  obtain ⟨i0, hi, hz0, hz1, hz2⟩ := info_parts infoInt
  have Hr := hid hr
  have Hn := hid hn
  clear hr hn
  have q27 : ∀ (w : World) (a : Option Addr) (n c n' c' : Nat), (binOp .eql 36 (.slice a n c) (.slice none n' c')).run Try.prog w = .ok (.bool a.isNone) w := fun w a n c n' c' => Lib.run_eql_slice_nil w _ _ a n c n' c' Try.underlying36
  have u27 : ∀ w, Sem.run Try.prog (underlying 36) w = .ok (TypeDesc.slice 2) w := run_underlying Try.underlying36
  go_enter Try.func83, Try.ntmps83
  go_wp2_with (at_builtin; refine wpList_append_own _ rfl _ _ 36 rfl w.heap.size 2 i0 (.int .i64 0) 1 8 Try.underlying36 hi hz0 hz1 hz2 rfl (by decide) _ _ _ rfl (World.ownsRow_made w #[] 0 (Nat.le_refl _) (Nat.zero_le _) rfl) ⟨b, off, none⟩ n c (intVals xs) rfl ?qc1 ?qc2 ?qc3 ?qc4 ?qc5 ?qc6 ?_)
  case qc1 => rw [show (intVals xs).length = xs.length by simp [intVals], Hn.out, Nat.mul_one]
  case qc2 =>
    intro j u hj
    rw [Addr.add_lit]
    have hjl : j < xs.length := by
      have := (List.getElem?_eq_some_iff.1 hj).1
      simpa [intVals] using this
    have hu : u = .int .i64 (eI xs j) := by
      unfold intVals at hj
      rw [List.getElem?_map, List.getElem?_eq_getElem hjl] at hj
      rw [eI_lt hjl]
      exact (Option.some.inj hj).symm
    rw [hu]
    exact Lib.cell?_alloc_some _ (Hr.out j hjl)
  case qc3 =>
    intro u hu
    obtain ⟨x, _, rfl⟩ := List.mem_map.1 hu
    rfl
  case qc4 => unfold maxLen; omega
  case qc5 => omega
  case qc6 => simp
  intro v' w1 hown hgrow hnil
  go_wp2
  go_ret
  have hB : Below w.heap.size w w1 := ((Below.refl _ w).alloc (Nat.le_refl _) _).grown hgrow (by simp) (by intro k hk; simp [Value.ownBlock] at hk; omega)
  have ho : w1.ownsRow w.heap.size 2 1 v' n (intVals xs) := by simpa using hown
  rcases ho.2 with ⟨rfl, h0⟩ | ⟨g, cap, cur, rfl, _⟩
  · exact ⟨none, 0, by rw [h0]; rfl, ⟨by rw [h0] at ho ⊢; exact ho, by rw [Hn.out]⟩, hB⟩
  · exact ⟨_, _, rfl, ⟨ho, by rw [Hn.out]⟩, hB⟩

theorem eI_ext {xs ys : List Int} (hl : xs.length = ys.length) (h : ∀ f, f < xs.length → eI xs f = eI ys f) : xs = ys := by
  refine List.ext_getElem hl fun i h1 h2 => ?_
  have := h i h1
  rwa [eI_lt h1, eI_lt h2] at this

set_option maxRecDepth 100000 in
set_option maxHeartbeats 8000000 in
theorem iExch_any (cb co n f0 l c2 E : Nat) (q2 : Option Addr) (A B : Int) (es : List (Int × Int)) (cs : List Int) (w : World) (hn : es.length = n) (hn30 : n ≤ 30) (hl : cs.length = n) (hrc : ReadsI w cb co cs) (hc3 : ∀ f, f < n → 0 ≤ eI cs f ∧ eI cs f < 3) (hA : 0 ≤ A ∧ A < 3) (hB : 0 ≤ B ∧ B < 3) (hE : E < n) (hlen : (chU es cs (A + B) E n).length = l) (hs : SeesI w q2 (chU es cs (A + B) E n)) :
    Calls Try.prog 70 #[.slice (some ⟨cb, co, none⟩) n f0, .slice q2 l c2, .int .i64 A, .int .i64 B] w fun e' w' => ∃ q cap, e' = .returned (.slice q n cap) ∧ FreshI w.heap.size w' q n cap (exU es cs (A + B) E n) ∧ Below w.heap.size w w' := by
  have Hn := hid hn
  have Hl := hid hl
  have Hrc := hid hrc
  have HC3 := hid hc3
  have HLen := hid hlen
  have HS := hid hs
  have hl30 : l ≤ 30 := by have := chU_len es cs (A + B) E n; omega
  have ew : IntKind.i64.wrap (A + B) = A + B := IntWalk.i64_in _ (by omega)
  have hcbl : cb < w.heap.size := hrc.lt (by omega)
  have h0n : 0 < n := by omega
  have HAB := hid (And.intro hA hB)
  clear hn hl hrc hc3 hlen hs hA hB
  go_enter Try.func70, Try.ntmps70
  go_wp2_with fail
  refine (cloneI_row cb co n f0 cs _ Hl.out (by omega) Hrc.out).mono ?_
  rintro e' w3 ⟨q3, cap3, rfl, hf3, hb3⟩
  obtain ⟨g3, rfl, hg3, ho3⟩ : ∃ g, q3 = some ⟨g, 0, none⟩ ∧ w.heap.size ≤ g ∧ OwnI w3 g cap3 cs := by
    rcases hf3.form with ⟨_, h, _⟩ | h
    · omega
    · exact h
  have HB3 := hid hb3
  have HO3 := hid ho3
  clear hf3 hb3 ho3
  go_wp2
  go_loopw [16] (fun ee wr => ∃ (i : Nat) (ys : List Int), i ≤ l ∧ ee = .int .i64 i ∧ Hid (ys.length = n ∧ OwnI wr g3 cap3 ys ∧ ∀ f, f < n → eI ys f = if (f : Int) ∈ (chU es cs (A + B) E n).take i then A + B - eI cs f else eI cs f) ∧ Hid (Below w.heap.size w wr)) (fun ee _ => l - (intOf ee).toNat)
  case atStart => exact ⟨0, cs, Nat.zero_le _, rfl, hid ⟨Hl.out, HO3.out, fun f hf => by simp⟩, HB3⟩
  case round =>
    obtain ⟨i, ys, hi, rfl, hC, hB⟩ := hrel
    clear HO3
    by_cases hlt : i < l
    · obtain ⟨sb, so, rfl, hrd⟩ : ∃ sb so, q2 = some ⟨sb, so, none⟩ ∧ ReadsI w sb so (chU es cs (A + B) E n) := by
        rcases HS.out with h | h
        · have h2 := HLen.out; rw [h] at h2; simp at h2; omega
        · exact h
      have hce := hrd.on hB.out i (by have := HLen.out; omega)
      have hsbl : sb < wr.heap.size := (hrd.on hB.out).lt (by have := HLen.out; omega)
      obtain ⟨F, hF, hFn⟩ := chU_rng (es := es) (cs := cs) (d := A + B) (e := E) (k := n) (i := i) (by have := HLen.out; omega)
      rw [hF] at hce
      have HF := hid hF
      have hFn' : (F : Int) < (n : Int) := by omega
      have hcF := Hrc.out.on hB.out F (by have := Hl.out; omega)
      have hcbr : cb < wr.heap.size := by have := hB.out.size; omega
      obtain ⟨z, hz⟩ : ∃ z, eI cs F = z := ⟨_, rfl⟩
      have hz3 := HC3.out F hFn
      rw [hz] at hcF hz3
      have HZ := hid hz
      have hAB := HAB.out
      have ewz : IntKind.i64.wrap (A + B - z) = A + B - z := IntWalk.i64_in _ (by omega)
      have hyF := hC.out.2.1.reads F (by have := hC.out.1; omega)
      rw [Nat.zero_add] at hyF
      have hfF := hC.out.2.1.free F
      have hgz := hC.out.2.1.lt
      clear hrd hF hz hz3 hAB
      go_wp2
      go_roundw
      case rel =>
        refine ⟨i + 1, ys.set F (A + B - z), by omega, by go_num, hid ⟨by rw [List.length_set]; exact hC.out.1, OwnI.set hC.out.2.1 (by have := hC.out.1; omega) _, fun f hf => ?_⟩, hid (hB.out.setCell (p := ⟨g3, F, none⟩) (by show w.heap.size ≤ g3; omega) _)⟩
        have hil : i < (chU es cs (A + B) E n).length := by have := HLen.out; omega
        rw [eI_set' (by have := hC.out.1; omega), List.take_add_one, List.getElem?_eq_getElem hil]
        have hFi : (chU es cs (A + B) E n)[i] = (F : Int) := by rw [← eI_lt hil]; exact HF.out
        simp only [hFi, Option.toList_some, List.mem_append, List.mem_singleton]
        by_cases e1 : f = F
        · subst e1
          rw [if_pos rfl, if_pos (.inr rfl), HZ.out]
        · rw [if_neg e1, hC.out.2.2 f hf]
          have e2 : ¬ (f : Int) = (F : Int) := by omega
          by_cases e3 : (f : Int) ∈ (chU es cs (A + B) E n).take i
          · rw [if_pos e3, if_pos (.inl e3)]
          · rw [if_neg e3, if_neg (fun h => h.elim e3 e2)]
      case measure => simp [intOf]; omega
    · have hil := hid (show i = l by omega)
      have hys : ys = exU es cs (A + B) E n := by
        refine eI_ext (by rw [exU_len]; exact hC.out.1) fun f hf => ?_
        rw [hC.out.1] at hf
        rw [exU_at hf, hC.out.2.2 f hf, List.take_of_length_le (by have := HLen.out; have := hil.out; omega)]
        unfold exF
        by_cases hb : chB es cs (A + B) E f = true
        · rw [if_pos (chU_mem.2 ⟨hf, hb⟩), if_pos hb]
        · rw [if_neg (fun h => hb (chU_mem.1 h).2), if_neg hb]
      have HYS := hid hys
      clear hys
      go_wp2
      go_ret
      exact ⟨_, _, rfl, FreshI.of_own (by rw [← HYS.out]; exact hC.out.2.1) (exU_len _ _ _ _ _) hg3, hB.out⟩

end Go.Proofs.Ytafiockejagapaa
