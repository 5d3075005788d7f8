/- plan's small ones: within, isCount, isNode, mayPlace, isClosed. -/
import Derived.Test.YtpihogkhfmijcaaLongF
namespace Go.Proofs.Ytpihogkhfmijcaa
open Go.RowKit Go.Maps Go.Shelf
theorem within_i (x a b : Int) (w : World) : Calls Try.prog 30 #[.int .i64 x, .int .i64 a, .int .i64 b] w fun e w' => e = .returned (.bool (decide (a ≤ x) && decide (x ≤ b))) ∧ w' = w := by
  by_cases h1 : a ≤ x <;> by_cases h2 : x ≤ b
  all_goals go_enter Try.func30, Try.ntmps30
  all_goals go_wp2
  all_goals go_ret
  all_goals exact ⟨by simp_all, rfl⟩
theorem within_u (x a b : Int) (w : World) : Calls Try.prog 45 #[.int .u64 x, .int .u64 a, .int .u64 b] w fun e w' => e = .returned (.bool (decide (a ≤ x) && decide (x ≤ b))) ∧ w' = w := by
  by_cases h1 : a ≤ x <;> by_cases h2 : x ≤ b
  all_goals go_enter Try.func45, Try.ntmps45
  all_goals go_wp2
  all_goals go_ret
  all_goals exact ⟨by simp_all, rfl⟩
theorem isCount_any (x : Int) (w : World) : Calls Try.prog 29 #[.int .u64 x] w fun e w' => e = .returned (.bool (decide (1 ≤ x) && decide (x ≤ 4611686018427387903))) ∧ w' = w := by
  have HW := Lib.hid (within_u x 1 4611686018427387903 w)
  obtain ⟨b, hb⟩ : ∃ b, (decide (1 ≤ x) && decide (x ≤ 4611686018427387903)) = b := ⟨_, rfl⟩
  rw [hb] at HW ⊢
  clear hb
  go_enter Try.func29, Try.ntmps29
  go_wp2_with fail
  refine HW.out.mono ?_
  rintro e w1 ⟨rfl, rfl⟩
  go_wp2
  go_ret
  exact ⟨rfl, rfl⟩
theorem isNode_any (x : Int) (w : World) : Calls Try.prog 69 #[.int .i64 x] w fun e w' => e = .returned (.bool (decide (1 ≤ x) && decide (x ≤ 15))) ∧ w' = w := by
  have HW := Lib.hid (within_i x 1 15 w)
  obtain ⟨b, hb⟩ : ∃ b, (decide (1 ≤ x) && decide (x ≤ 15)) = b := ⟨_, rfl⟩
  rw [hb] at HW ⊢
  clear hb
  go_enter Try.func69, Try.ntmps69
  go_wp2_with fail
  refine HW.out.mono ?_
  rintro e w1 ⟨rfl, rfl⟩
  go_wp2
  go_ret
  exact ⟨rfl, rfl⟩
theorem PL.may_eq (p : PL) : p.may = ((decide (1 ≤ p.n) && decide (p.n ≤ 15)) && (decide (1 ≤ p.s) && decide (p.s ≤ 4611686018427387903))) := rfl
theorem planPlace_any (p : PL) (w : World) : Calls Try.prog 60 #[p.val] w fun e w' => e = .returned (.bool p.may) ∧ Below w.heap.size w w' := by
  rw [p.may_eq]
  obtain ⟨n, s⟩ := p
  have HB := Lib.hid (Go.Joins.below_alloc1 w (.cells #[.int .i64 n, .int .u64 s] 38))
  have HN := Lib.hid (isNode_any n (w.alloc (.cells #[.int .i64 n, .int .u64 s] 38)))
  have HC := Lib.hid (isCount_any s (w.alloc (.cells #[.int .i64 n, .int .u64 s] 38)))
  dsimp only
  obtain ⟨b, hb⟩ : ∃ b, (decide (1 ≤ n) && decide (n ≤ 15)) = b := ⟨_, rfl⟩
  obtain ⟨b2, hb2⟩ : ∃ b, (decide (1 ≤ s) && decide (s ≤ 4611686018427387903)) = b := ⟨_, rfl⟩
  rw [hb] at HN ⊢
  rw [hb2] at HC ⊢
  clear hb hb2
  cases b
  · go_enter Try.func60, Try.ntmps60
    go_wp2_with fail
    refine HN.out.mono ?_
    rintro e w1 ⟨rfl, rfl⟩
    go_wp2
    go_ret
    exact ⟨rfl, HB.out⟩
  · go_enter Try.func60, Try.ntmps60
    go_wp2_with fail
    refine HN.out.mono ?_
    rintro e w1 ⟨rfl, rfl⟩
    go_wp2_with fail
    refine HC.out.mono ?_
    rintro e w1 ⟨rfl, rfl⟩
    go_wp2
    go_ret
    exact ⟨rfl, HB.out⟩
theorem isClosed_any (l : LgV) (w : World) : Calls Try.prog 32 #[l.val] w fun e w' => e = .returned (.bool (l.cl == 1)) ∧ Below w.heap.size w w' := by
  obtain ⟨i, W, A, a, c, fs, cl, last⟩ := l
  obtain ⟨N, hN⟩ : ∃ N, fs.length = N := ⟨_, rfl⟩
  have HB := Lib.hid (Go.Joins.below_alloc1 w (.cells #[.int .u64 i, .int .i64 W, .int .i64 A, .slice a N c, .int .i64 cl, .int .u64 last] 25))
  simp only [LgV.val, LgV.arr]
  rw [hN]
  clear hN
  go_enter Try.func32, Try.ntmps32
  go_wp2
  go_ret
  exact ⟨rfl, HB.out⟩
end Go.Proofs.Ytpihogkhfmijcaa
