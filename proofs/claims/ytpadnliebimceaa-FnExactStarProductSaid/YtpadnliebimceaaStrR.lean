/- StarProduct at any arguments, both sides. -/
import Derived.Test.YtpadnliebimceaaStrC
import Derived.Test.YtpadnliebimceaaStrQ
namespace Go.Proofs.Ytpadnliebimceaa
open Go.RowKit

def fStarProduct (s : Int) (es : List (Int × Int)) (v : Int) (t : Int) (fs : List (Int × Int)) (x : Int) : Int × List (Int × Int) × Int :=
  if IsG s es ∧ IsG t fs then (if (0 ≤ v ∧ v < s) ∧ (0 ≤ x ∧ x < t) then (if s = 2 ∨ t = 2 then (0, [], 5) else (if 22 < s + t then (0, [], 3) else (s + t - 2, sortE (starM s es v fs x), 0))) else (0, [], 2)) else (0, [], 1)
theorem fStarProduct_len (s : Int) (es : List (Int × Int)) (v : Int) (t : Int) (fs : List (Int × Int)) (x : Int) (h1 : es.length ≤ 1048576) (h2 : fs.length ≤ 1048576) : (fStarProduct s es v t fs x).2.1.length ≤ 1048576 := by
  unfold fStarProduct
  split
  · rename_i g
    split
    · split
      · exact Nat.zero_le _
      · split
        · exact Nat.zero_le _
        · show (sortE (starM s es v fs x)).length ≤ _
          rw [sortE_length]
          unfold starM
          rw [List.length_append, List.length_append, List.length_map, List.length_range]
          have a := mdU_len 0 es [v] es.length
          have b := mdU_len (s - 1) fs [x] fs.length
          have c := isG_len g.1
          have d := isG_len g.2
          omega
    · exact Nat.zero_le _
  · exact Nat.zero_le _

theorem sStarProduct_any (s : Int) (p : Option Addr) (n c : Nat) (es : List (Int × Int)) (v : Int) (t : Int) (q : Option Addr) (m d : Nat) (fs : List (Int × Int)) (x : Int) (w : World) (hm : n ≤ 1048576) (hn : es.length = n) (hr : SeesE w p es) (hm2 : m ≤ 1048576) (hn2 : fs.length = m) (hr2 : SeesE w q fs) :
    Calls Try.prog 30 #[.agg #[.int .i64 s, .slice p n c], .int .i64 v, .agg #[.int .i64 t, .slice q m d], .int .i64 x] w fun e' w' => ∃ q0 cap, e' = .returned (.tuple #[.agg #[.int .i64 (fStarProduct s es v t fs x).1, .slice q0 (fStarProduct s es v t fs x).2.1.length cap], .int .i64 (fStarProduct s es v t fs x).2.2]) ∧ FreshE w.heap.size w' q0 (fStarProduct s es v t fs x).2.1.length cap (fStarProduct s es v t fs x).2.1 ∧ Below w.heap.size w w' := by
  unfold fStarProduct
  by_cases g1 : IsG s es
  · by_cases g2 : IsG t fs
    · rw [if_pos ⟨g1, g2⟩]
      by_cases hv : 0 ≤ v ∧ v < s
      · by_cases hx : 0 ≤ x ∧ x < t
        · rw [if_pos ⟨hv, hx⟩]
          have k1 := g1.1.1
          have k2 := g2.1.1
          unfold okSize at k1 k2
          by_cases h1 : s = 2
          · rw [if_pos (.inl h1)]
            exact (sSp_two1 s v p n c es t x q m d fs w hm hn hr hm2 hn2 hr2 g1 g2 hv hx (by rw [h1]; rfl)).mono fun e' w' ⟨he, hb⟩ => ⟨none, 0, he, FreshE.nil _ _, hb⟩
          · have hb1 : (s == 2) = false := by rw [beq_eq_false_iff_ne]; exact h1
            by_cases h2 : t = 2
            · rw [if_pos (.inr h2)]
              exact (sSp_two2 s v p n c es t x q m d fs w hm hn hr hm2 hn2 hr2 g1 g2 hv hx hb1 (by rw [h2]; rfl)).mono fun e' w' ⟨he, hb⟩ => ⟨none, 0, he, FreshE.nil _ _, hb⟩
            · have hb2 : (t == 2) = false := by rw [beq_eq_false_iff_ne]; exact h2
              rw [if_neg (by rintro (h | h); exact h1 h; exact h2 h)]
              by_cases h3 : 22 < s + t
              · rw [if_pos h3]
                exact (sSp_big s v p n c es t x q m d fs w hm hn hr hm2 hn2 hr2 g1 g2 hv hx hb1 hb2 (decide_eq_true (by omega))).mono fun e' w' ⟨he, hb⟩ => ⟨none, 0, he, FreshE.nil _ _, hb⟩
              · rw [if_neg h3]
                obtain ⟨b, off, rfl, rd⟩ := isG_sees g1 hr
                obtain ⟨b2, o2, rfl, rd2⟩ := isG_sees g2 hr2
                dsimp only
                rw [sortE_length]
                exact sSp_yes b off n c b2 o2 m d s t v x es fs w hn rd hn2 rd2 g1 g2 hv hx (by omega) (by omega) (by omega)
        · rw [if_neg (fun h => hx h.2)]
          exact (sSp_x s v p n c es t x q m d fs w hm hn hr hm2 hn2 hr2 g1 g2 hv hx).mono fun e' w' ⟨he, hb⟩ => ⟨none, 0, he, FreshE.nil _ _, hb⟩
      · rw [if_neg (fun h => hv h.1)]
        exact (sSp_v s v p n c es t x q m d fs w hm hn hr hm2 hn2 hr2 g1 g2 hv).mono fun e' w' ⟨he, hb⟩ => ⟨none, 0, he, FreshE.nil _ _, hb⟩
    · rw [if_neg (fun h => g2 h.2)]
      exact (sSp_h s v p n c es t x q m d fs w hm hn hr hm2 hn2 hr2 g1 g2).mono fun e' w' ⟨he, hb⟩ => ⟨none, 0, he, FreshE.nil _ _, hb⟩
  · rw [if_neg (fun h => g1 h.1)]
    exact (sSp_g s v p n c es t x q m d fs w hm hn hr hm2 hn2 hr2 g1).mono fun e' w' ⟨he, hb⟩ => ⟨none, 0, he, FreshE.nil _ _, hb⟩

theorem iStarProduct_any (s : Int) (p : Option Addr) (n c : Nat) (es : List (Int × Int)) (v : Int) (t : Int) (q : Option Addr) (m d : Nat) (fs : List (Int × Int)) (x : Int) (w : World) (hm : n ≤ 1048576) (hn : es.length = n) (hr : SeesE w p es) (hm2 : m ≤ 1048576) (hn2 : fs.length = m) (hr2 : SeesE w q fs) :
    Calls Try.prog 31 #[.agg #[.int .i64 s, .slice p n c], .int .i64 v, .agg #[.int .i64 t, .slice q m d], .int .i64 x] w fun e' w' => ∃ q0 cap, e' = .returned (.tuple #[.agg #[.int .i64 (fStarProduct s es v t fs x).1, .slice q0 (fStarProduct s es v t fs x).2.1.length cap], .int .i64 (fStarProduct s es v t fs x).2.2]) ∧ FreshE w.heap.size w' q0 (fStarProduct s es v t fs x).2.1.length cap (fStarProduct s es v t fs x).2.1 ∧ Below w.heap.size w w' := by
  unfold fStarProduct
  by_cases g1 : IsG s es
  · by_cases g2 : IsG t fs
    · rw [if_pos ⟨g1, g2⟩]
      by_cases hv : 0 ≤ v ∧ v < s
      · by_cases hx : 0 ≤ x ∧ x < t
        · rw [if_pos ⟨hv, hx⟩]
          have k1 := g1.1.1
          have k2 := g2.1.1
          unfold okSize at k1 k2
          by_cases h1 : s = 2
          · rw [if_pos (.inl h1)]
            exact (iSp_two1 s v p n c es t x q m d fs w hm hn hr hm2 hn2 hr2 g1 g2 hv hx (by rw [h1]; rfl)).mono fun e' w' ⟨he, hb⟩ => ⟨none, 0, he, FreshE.nil _ _, hb⟩
          · have hb1 : (s == 2) = false := by rw [beq_eq_false_iff_ne]; exact h1
            by_cases h2 : t = 2
            · rw [if_pos (.inr h2)]
              exact (iSp_two2 s v p n c es t x q m d fs w hm hn hr hm2 hn2 hr2 g1 g2 hv hx hb1 (by rw [h2]; rfl)).mono fun e' w' ⟨he, hb⟩ => ⟨none, 0, he, FreshE.nil _ _, hb⟩
            · have hb2 : (t == 2) = false := by rw [beq_eq_false_iff_ne]; exact h2
              rw [if_neg (by rintro (h | h); exact h1 h; exact h2 h)]
              by_cases h3 : 22 < s + t
              · rw [if_pos h3]
                exact (iSp_big s v p n c es t x q m d fs w hm hn hr hm2 hn2 hr2 g1 g2 hv hx hb1 hb2 (decide_eq_true (by omega))).mono fun e' w' ⟨he, hb⟩ => ⟨none, 0, he, FreshE.nil _ _, hb⟩
              · rw [if_neg h3]
                obtain ⟨b, off, rfl, rd⟩ := isG_sees g1 hr
                obtain ⟨b2, o2, rfl, rd2⟩ := isG_sees g2 hr2
                dsimp only
                rw [sortE_length]
                exact iSp_yes b off n c b2 o2 m d s t v x es fs w hn rd hn2 rd2 g1 g2 hv hx (by omega) (by omega) (by omega)
        · rw [if_neg (fun h => hx h.2)]
          exact (iSp_x s v p n c es t x q m d fs w hm hn hr hm2 hn2 hr2 g1 g2 hv hx).mono fun e' w' ⟨he, hb⟩ => ⟨none, 0, he, FreshE.nil _ _, hb⟩
      · rw [if_neg (fun h => hv h.1)]
        exact (iSp_v s v p n c es t x q m d fs w hm hn hr hm2 hn2 hr2 g1 g2 hv).mono fun e' w' ⟨he, hb⟩ => ⟨none, 0, he, FreshE.nil _ _, hb⟩
    · rw [if_neg (fun h => g2 h.2)]
      exact (iSp_h s v p n c es t x q m d fs w hm hn hr hm2 hn2 hr2 g1 g2).mono fun e' w' ⟨he, hb⟩ => ⟨none, 0, he, FreshE.nil _ _, hb⟩
  · rw [if_neg (fun h => g1 h.1)]
    exact (iSp_g s v p n c es t x q m d fs w hm hn hr hm2 hn2 hr2 g1).mono fun e' w' ⟨he, hb⟩ => ⟨none, 0, he, FreshE.nil _ _, hb⟩

end Go.Proofs.Ytpadnliebimceaa
