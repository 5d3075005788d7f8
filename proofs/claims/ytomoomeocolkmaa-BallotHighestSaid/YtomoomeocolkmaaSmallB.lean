/- The document's Life, May, Cmp; Puts, Of, and the document's Of; Majority; == of ballots. -/
import Derived.Test.YtomoomeocolkmaaSmall
import Derived.Laws.StructEq
import Derived.Deep.MidRow
namespace Go.Proofs.Ytomoomeocolkmaa
open Go.RowKit
theorem info24 : (Try.prog.info? 24).isSome = true := by kernel_rfl
theorem eqIn24 (a b : BV) (d : Nat) (w : World) : (Op.equalIn (d + 1 + 1) 24 a.val b.val).run Try.prog w = .ok (decide (a = b)) w := by
  have u3 := Try.underlying3
  have a3 := Try.isAgg3
  have z3 := Try.sizeOf3
  have u22 := Try.underlying22
  have a22 := Try.isAgg22
  have z22 := Try.sizeOf22
  have hS : Try.prog.underlying 24 = some (.struct (Try.prog.fieldsOf 24)) := by kernel_rfl
  have hp : Try.prog.stoodInHeld 24 = false := by kernel_rfl
  obtain ⟨r, n, i⟩ := a
  obtain ⟨s, m, j⟩ := b
  have e : (decide ((⟨r, n, i⟩ : BV) = ⟨s, m, j⟩)) = (r == s && n == m && i == j) := by
    rw [Bool.eq_iff_iff]
    simp only [decide_eq_true_eq, Bool.and_eq_true, beq_iff_eq]
    exact ⟨fun h => by injection h with h1 h2 h3; exact ⟨⟨h1, h2⟩, h3⟩, fun h => BV.ext' h.1.1 h.1.2 h.2⟩
  rw [e, run_equalIn_agg w (d + 1) 24 _ _ hS hp]
  simp only [Program.fieldsOf, Try.underlying24]
  go_simp
  by_cases h1 : r = s <;> by_cases h2 : n = m <;> by_cases h3 : i = j <;> simp [h1, h2, h3]
theorem eql24 (a b : BV) (w : World) : (binOp .eql 24 a.val b.val).run Try.prog w = .ok (.bool (decide (a = b))) w := by
  rw [run_eql_struct, show (10000 : Nat) = 9998 + 1 + 1 from rfl, eqIn24]; rfl
theorem neq24 (a b : BV) (w : World) : (binOp .neq 24 a.val b.val).run Try.prog w = .ok (.bool (!decide (a = b))) w := by
  rw [run_neq_struct, show (10000 : Nat) = 9998 + 1 + 1 from rfl, eqIn24]; rfl
theorem guard24 : Try.prog.eqGuardType Try.prog.depth 24 = false := by kernel_rfl
theorem rlife_any (n i : Int) (w : World) : Calls Try.prog 29 #[.int .i64 n, .int .u64 i] w fun e w' => e = .returned (.bool (life n i)) ∧ w' = w := by
  unfold life count
  rcases (show n < 1 ∨ 15 < n ∨ (1 ≤ n ∧ n ≤ 15 ∧ i < 1) ∨ (1 ≤ n ∧ n ≤ 15 ∧ 1 ≤ i) by omega) with h | h | ⟨h1, h2, h3⟩ | ⟨h1, h2, h3⟩
  · have : ¬ 0 < n := by omega
    go_enter Try.func29, Try.ntmps29
    go_wp2
    go_ret
    exact ⟨by simp; omega, rfl⟩
  · have : 0 < n := by omega
    have : ¬ n ≤ 15 := by omega
    go_enter Try.func29, Try.ntmps29
    go_wp2
    go_ret
    exact ⟨by simp; omega, rfl⟩
  · have : 0 < n := by omega
    have : ¬ 0 < i := by omega
    go_enter Try.func29, Try.ntmps29
    go_wp2
    go_ret
    exact ⟨by simp; omega, rfl⟩
  · have : 0 < n := by omega
    have : 0 < i := by omega
    go_enter Try.func29, Try.ntmps29
    go_wp2
    all_goals go_ret
    all_goals refine ⟨?_, rfl⟩
    all_goals simp_all
    all_goals omega
theorem rmay_any (q : BV) (w : World) : Calls Try.prog 15 #[q.val] w fun e w' => e = .returned (.bool q.may) ∧ Below w.heap.size w w' := by
  obtain ⟨r, n, i⟩ := q
  simp only [BV.may]
  obtain ⟨L, hL⟩ : ∃ L, life n i = L := ⟨_, rfl⟩
  have HL : Hid (∀ w, Calls Try.prog 29 #[.int .i64 n, .int .u64 i] w fun e w' => e = .returned (.bool L) ∧ w' = w) := fun w => hL ▸ rlife_any n i w
  rw [hL]
  clear hL
  unfold count
  have HB := Lib.hid (Go.Joins.below_alloc1 w (.cells #[.int .u64 r, .int .i64 n, .int .u64 i] 24))
  rcases (show r < 1 ∨ (1 ≤ r ∧ 4611686018427387903 < r) ∨ (1 ≤ r ∧ r ≤ 4611686018427387903) by omega) with h | ⟨h1, h2⟩ | ⟨h1, h2⟩
  · have hk : decide (0 < r) = false := by simp; omega
    have : (decide (1 ≤ r) && decide (r ≤ 4611686018427387903)) = false := by simp; omega
    rw [this]
    clear this h
    go_enter Try.func15, Try.ntmps15
    go_wp2_with (go_at_call 29; refine (HL.out _).mono ?_; rintro e w1 ⟨rfl, rfl⟩)
    go_ret
    exact ⟨rfl, HB.out⟩
  · have hk : decide (0 < r) = true := by simp; omega
    have hk2 : decide (r ≤ 4611686018427387903) = false := by simp; omega
    have : (decide (1 ≤ r) && decide (r ≤ 4611686018427387903)) = false := by simp; omega
    rw [this]
    clear this h1 h2
    go_enter Try.func15, Try.ntmps15
    go_wp2_with (go_at_call 29; refine (HL.out _).mono ?_; rintro e w1 ⟨rfl, rfl⟩)
    go_ret
    exact ⟨rfl, HB.out⟩
  · have hk : decide (0 < r) = true := by simp; omega
    have hk2 : decide (r ≤ 4611686018427387903) = true := by simp; omega
    have : (decide (1 ≤ r) && decide (r ≤ 4611686018427387903)) = true := by simp; omega
    rw [this]
    clear this h1 h2
    go_enter Try.func15, Try.ntmps15
    go_wp2_with (go_at_call 29; refine (HL.out _).mono ?_; rintro e w1 ⟨rfl, rfl⟩)
    go_ret
    exact ⟨rfl, HB.out⟩
theorem rcmp_any (a b : BV) (w : World) : Calls Try.prog 17 #[a.val, b.val] w fun e w' => e = .returned (.int .i64 (a.cmp b)) ∧ Below w.heap.size w w' := by
  obtain ⟨r, n, i⟩ := a
  obtain ⟨s, m, j⟩ := b
  obtain ⟨R, hR⟩ : ∃ R, R = (⟨r, n, i⟩ : BV).cmp ⟨s, m, j⟩ := ⟨_, rfl⟩
  rw [← hR]
  simp only [BV.cmp, or3, c3] at hR
  have HB : Hid (Below w.heap.size w ((w.alloc (.cells #[.int .u64 r, .int .i64 n, .int .u64 i] 24)).alloc (.cells #[.int .u64 s, .int .i64 m, .int .u64 j] 24))) := by
    exact ((Below.refl _ w).alloc (Nat.le_refl _) _).alloc (by simp [World.size_alloc]) _
  rcases Int.lt_trichotomy r s with h | rfl | h
  · have h1 : (r != s) = true := by simp; omega
    replace hR := Lib.hid (show R = -1 by rw [hR]; simp [h])
    go_enter Try.func17, Try.ntmps17
    go_wp2
    go_ret
    exact ⟨by rw [hR.out]; rfl, HB.out⟩
  · rcases Int.lt_trichotomy n m with h | rfl | h
    · have h1 : (n != m) = true := by simp; omega
      replace hR := Lib.hid (show R = -1 by rw [hR]; simp [h])
      go_enter Try.func17, Try.ntmps17
      go_wp2
      go_ret
      exact ⟨by rw [hR.out]; rfl, HB.out⟩
    · rcases Int.lt_trichotomy i j with h | rfl | h
      · have h1 : (i != j) = true := by simp; omega
        replace hR := Lib.hid (show R = -1 by rw [hR]; simp [h])
        go_enter Try.func17, Try.ntmps17
        go_wp2
        go_ret
        exact ⟨by rw [hR.out]; rfl, HB.out⟩
      · replace hR := Lib.hid (show R = 0 by rw [hR]; simp)
        go_enter Try.func17, Try.ntmps17
        go_wp2
        go_ret
        exact ⟨by rw [hR.out]; rfl, HB.out⟩
      · have h1 : (i != j) = true := by simp; omega
        have h2 : ¬ i < j := by omega
        replace hR := Lib.hid (show R = 1 by rw [hR]; simp [h, h2])
        go_enter Try.func17, Try.ntmps17
        go_wp2
        go_ret
        exact ⟨by rw [hR.out]; rfl, HB.out⟩
    · have h1 : (n != m) = true := by simp; omega
      have h2 : ¬ n < m := by omega
      replace hR := Lib.hid (show R = 1 by rw [hR]; simp [h, h2])
      go_enter Try.func17, Try.ntmps17
      go_wp2
      go_ret
      exact ⟨by rw [hR.out]; rfl, HB.out⟩
  · have h1 : (r != s) = true := by simp; omega
    have h2 : ¬ r < s := by omega
    replace hR := Lib.hid (show R = 1 by rw [hR]; simp [h, h2])
    go_enter Try.func17, Try.ntmps17
    go_wp2
    go_ret
    exact ⟨by rw [hR.out]; rfl, HB.out⟩
/-- how many of n are a majority -/
def half (n : Int) : Int := if n < 1 then 0 else n / 2 + 1
theorem half_any (n : Int) (h : n ≤ 9223372036854775807) (w : World) : Calls Try.prog 20 #[.int .i64 n] w fun e w' => e = .returned (.int .i64 (half n)) ∧ w' = w := by
  unfold half
  by_cases h1 : n < 1
  · go_enter Try.func20, Try.ntmps20
    go_wp2
    go_ret
    exact ⟨by simp_all, rfl⟩
  · have hq : n.tdiv 2 = n / 2 := Int.tdiv_eq_ediv_of_nonneg (by omega)
    have hw : wrap64 (n / 2 + 1) = n / 2 + 1 := by unfold wrap64; omega
    have hw2 : wrap64 (n / 2) = n / 2 := by unfold wrap64; omega
    rw [if_neg h1]
    obtain ⟨N, rfl⟩ : ∃ N : Nat, n = N := ⟨n.toNat, by omega⟩
    go_enter Try.func20, Try.ntmps20
    go_wp2
    all_goals go_ret
    all_goals exact ⟨by simp_all, rfl⟩
end Go.Proofs.Ytomoomeocolkmaa
