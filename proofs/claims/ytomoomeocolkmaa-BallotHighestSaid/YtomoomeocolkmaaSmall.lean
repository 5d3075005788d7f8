/- Ballots; counts, May, compare, Or, Cmp; the document's Life, May, Cmp. -/
import Derived.Test.YtomoomeocolkmaaBase
import Derived.StillTailTactics
import Derived.Deep.RegionHeld3
namespace Go.Proofs.Ytomoomeocolkmaa
open Go.RowKit
/-- a ballot -/
structure BV where
  r : Int
  n : Int
  i : Int
instance : Inhabited BV := ⟨⟨0, 0, 0⟩⟩
theorem BV.ext' {a b : BV} (h1 : a.r = b.r) (h2 : a.n = b.n) (h3 : a.i = b.i) : a = b := by
  cases a; cases b; simp at h1 h2 h3; subst h1 h2 h3; rfl
instance : DecidableEq BV := fun a b =>
  if h : a.r = b.r ∧ a.n = b.n ∧ a.i = b.i then .isTrue (BV.ext' h.1 h.2.1 h.2.2) else .isFalse fun e => h (by subst e; exact ⟨rfl, rfl, rfl⟩)
def BV.zero : BV := ⟨0, 0, 0⟩
def BV.ok (q : BV) : Prop := (0 ≤ q.r ∧ q.r ≤ 18446744073709551615) ∧ (-9223372036854775808 ≤ q.n ∧ q.n ≤ 9223372036854775807) ∧ (0 ≤ q.i ∧ q.i ≤ 18446744073709551615)
/-- a ballot's cells -/
def BV.cells (q : BV) : List Value := [.int .u64 q.r, .int .i64 q.n, .int .u64 q.i]
abbrev BV.val (q : BV) : Value := .agg #[.int .u64 q.r, .int .i64 q.n, .int .u64 q.i]
def count (z : Int) : Bool := decide (1 ≤ z) && decide (z ≤ 4611686018427387903)
def life (n i : Int) : Bool := decide (1 ≤ n) && decide (n ≤ 15) && count i
def BV.may (q : BV) : Bool := count q.r && life q.n q.i
def c3 (a b : Int) : Int := if a < b then -1 else if b < a then 1 else 0
def or3 (a b c : Int) : Int := if a ≠ 0 then a else if b ≠ 0 then b else c
def BV.cmp (a b : BV) : Int := or3 (c3 a.r b.r) (c3 a.n b.n) (c3 a.i b.i)
theorem count_any (z : Int) (w : World) : Calls Try.prog 28 #[.int .u64 z] w fun e w' => e = .returned (.bool (count z)) ∧ w' = w := by
  unfold count
  go_enter Try.func28, Try.ntmps28
  go_wp2
  all_goals go_ret
  all_goals refine ⟨?_, rfl⟩
  all_goals simp_all
  all_goals omega
theorem nan_u (z : Int) (w : World) : Calls Try.prog 45 #[.int .u64 z] w fun e w' => e = .returned (.bool false) ∧ w' = w := by
  go_enter Try.func45, Try.ntmps45
  go_wp2
  all_goals go_ret
  all_goals exact ⟨by simp_all, rfl⟩
theorem nan_i (z : Int) (w : World) : Calls Try.prog 46 #[.int .i64 z] w fun e w' => e = .returned (.bool false) ∧ w' = w := by
  go_enter Try.func46, Try.ntmps46
  go_wp2
  all_goals go_ret
  all_goals exact ⟨by simp_all, rfl⟩
theorem cmp_u (a b : Int) (w : World) : Calls Try.prog 31 #[.int .u64 a, .int .u64 b] w fun e w' => e = .returned (.int .i64 (c3 a b)) ∧ w' = w := by
  unfold c3
  by_cases h1 : a < b
  · go_enter Try.func31, Try.ntmps31
    go_wp2_with (go_at_call 45; refine (nan_u _ _).mono ?_; rintro e w1 ⟨rfl, rfl⟩)
    go_ret
    exact ⟨by simp_all, rfl⟩
  · by_cases h2 : b < a
    · go_enter Try.func31, Try.ntmps31
      go_wp2_with (go_at_call 45; refine (nan_u _ _).mono ?_; rintro e w1 ⟨rfl, rfl⟩)
      go_ret
      exact ⟨by simp_all, rfl⟩
    · go_enter Try.func31, Try.ntmps31
      go_wp2_with (go_at_call 45; refine (nan_u _ _).mono ?_; rintro e w1 ⟨rfl, rfl⟩)
      go_ret
      exact ⟨by simp_all, rfl⟩
theorem cmp_i (a b : Int) (w : World) : Calls Try.prog 32 #[.int .i64 a, .int .i64 b] w fun e w' => e = .returned (.int .i64 (c3 a b)) ∧ w' = w := by
  unfold c3
  by_cases h1 : a < b
  · go_enter Try.func32, Try.ntmps32
    go_wp2_with (go_at_call 46; refine (nan_i _ _).mono ?_; rintro e w1 ⟨rfl, rfl⟩)
    go_ret
    exact ⟨by simp_all, rfl⟩
  · by_cases h2 : b < a
    · go_enter Try.func32, Try.ntmps32
      go_wp2_with (go_at_call 46; refine (nan_i _ _).mono ?_; rintro e w1 ⟨rfl, rfl⟩)
      go_ret
      exact ⟨by simp_all, rfl⟩
    · go_enter Try.func32, Try.ntmps32
      go_wp2_with (go_at_call 46; refine (nan_i _ _).mono ?_; rintro e w1 ⟨rfl, rfl⟩)
      go_ret
      exact ⟨by simp_all, rfl⟩
theorem or_any (b : Nat) (x y z : Int) (w : World) (h0 : w.cell? ⟨b, 0, none⟩ = some (.int .i64 x)) (h1 : w.cell? ⟨b, 1, none⟩ = some (.int .i64 y)) (h2 : w.cell? ⟨b, 2, none⟩ = some (.int .i64 z)) :
    Calls Try.prog 30 #[.slice (some ⟨b, 0, none⟩) 3 3] w fun e w' => e = .returned (.int .i64 (or3 x y z)) ∧ w' = w := by
  obtain ⟨R, hR⟩ : ∃ R, or3 x y z = R := ⟨_, rfl⟩
  rw [hR]
  have HR := Lib.hid hR
  clear hR
  have HC : Hid (w.cell? ⟨b, 0, none⟩ = some (.int .i64 x) ∧ w.cell? ⟨b, 1, none⟩ = some (.int .i64 y) ∧ w.cell? ⟨b, 2, none⟩ = some (.int .i64 z)) := ⟨h0, h1, h2⟩
  clear h0 h1 h2
  go_enter Try.func30, Try.ntmps30
  go_wp2
  go_loopw [8] (fun i wr => wr = w ∧ ∃ k : Nat, k ≤ 3 ∧ i = .int .i64 (k : Nat) ∧ Hid ((0 < k → x = 0) ∧ (1 < k → y = 0) ∧ (2 < k → z = 0))) (fun i _ => 3 - (intOf i).toNat)
  case atStart => exact ⟨rfl, 0, by omega, rfl, ⟨by omega, by omega, by omega⟩⟩
  case round =>
    obtain ⟨rfl, k, hk, rfl, HK⟩ := hrel
    by_cases hlt : k < 3
    · obtain ⟨v, hv, hr⟩ : ∃ v, wr.cell? ⟨b, k, none⟩ = some (.int .i64 v) ∧ ((v ≠ 0 → R = v) ∧ (v = 0 → (0 < k + 1 → x = 0) ∧ (1 < k + 1 → y = 0) ∧ (2 < k + 1 → z = 0))) := by
        have := HR.out
        have hk' := HK.out
        unfold or3 at this
        rcases (show k = 0 ∨ k = 1 ∨ k = 2 by omega) with rfl | rfl | rfl
        · exact ⟨x, HC.out.1, fun h => by simp [h] at this; exact this.symm, fun h => ⟨fun _ => h, by omega, by omega⟩⟩
        · have hx := hk'.1 (by omega)
          exact ⟨y, HC.out.2.1, fun h => by simp [h, hx] at this; exact this.symm, fun h => ⟨fun _ => hx, fun _ => h, by omega⟩⟩
        · have hx := hk'.1 (by omega)
          have hy := hk'.2.1 (by omega)
          exact ⟨z, HC.out.2.2, fun h => by simp [hx, hy] at this; exact this.symm, fun h => ⟨fun _ => hx, fun _ => hy, fun _ => h⟩⟩
      have HV := Lib.hid hr
      clear hr HC HR HK
      have hltz : (k : Int) < 3 := by omega
      by_cases hz : v = 0
      · subst hz
        go_wp2
        go_roundw
        case measure => simp [intOf]; omega
        case rel => exact ⟨trivial, k + 1, by omega, by go_num, HV.out.2 rfl⟩
      · have hzb : (v == 0) = false := by simp [hz]
        go_wp2
        go_ret
        exact ⟨by rw [HV.out.1 hz]; rfl, rfl⟩
    · obtain rfl : k = 3 := by omega
      have HR0 : Hid (R = 0) := by
        have := HR.out
        have hk' := HK.out
        unfold or3 at this
        rw [if_neg (by simp [hk'.1 (by omega)]), if_neg (by simp [hk'.2.1 (by omega)]), hk'.2.2 (by omega)] at this
        exact this.symm
      clear HC HR HK
      go_wp2
      go_ret
      exact ⟨by rw [HR0.out]; rfl, rfl⟩
theorem may_any (q : BV) (w : World) : Calls Try.prog 14 #[q.val] w fun e w' => e = .returned (.bool q.may) ∧ Below w.heap.size w w' := by
  obtain ⟨r, n, i⟩ := q
  simp only [BV.may, life]
  have HB := Lib.hid (Go.Joins.below_alloc1 w (.cells #[.int .u64 r, .int .i64 n, .int .u64 i] 24))
  cases hr : count r <;> rcases (show (1 ≤ n ∧ n ≤ 15) ∨ (n < 1 ∧ n ≤ 15) ∨ (1 ≤ n ∧ 15 < n) by omega) with ⟨h1, h2⟩ | ⟨h1, h2⟩ | ⟨h1, h2⟩
  all_goals have HR := Lib.hid hr
  all_goals clear hr
  all_goals go_enter Try.func14, Try.ntmps14
  all_goals go_wp2_with (first | (go_at_call 28; refine (count_any _ _).mono ?_; rw [HR.out]; rintro e w1 ⟨rfl, rfl⟩) | (go_at_call 28; refine (count_any _ _).mono ?_; rintro e w1 ⟨rfl, rfl⟩))
  all_goals go_ret
  all_goals refine ⟨?_, HB.out⟩
  all_goals simp_all
  all_goals (intros; omega)
theorem or_new (W : World) (x y z : Int) :
    Calls Try.prog 30 #[.slice (some ⟨W.heap.size, 0, none⟩) 3 3] (W.alloc (.cells #[.int .i64 x, .int .i64 y, .int .i64 z] 3)).drew fun e w' => e = .returned (.int .i64 (or3 x y z)) ∧ w' = (W.alloc (.cells #[.int .i64 x, .int .i64 y, .int .i64 z] 3)).drew :=
  or_any _ _ _ _ _ (by rw [World.cell?_drew, World.cell?_alloc_new]; rfl) (by rw [World.cell?_drew, World.cell?_alloc_new]; rfl) (by rw [World.cell?_drew, World.cell?_alloc_new]; rfl)
set_option maxRecDepth 100000 in
theorem cmp_any (a b : BV) (w : World) : Calls Try.prog 16 #[a.val, b.val] w fun e w' => e = .returned (.int .i64 (a.cmp b)) ∧ Below w.heap.size w w' := by
  obtain ⟨r, n, i⟩ := a
  obtain ⟨s, m, j⟩ := b
  simp only [BV.cmp]
  obtain ⟨W, hW⟩ : ∃ W, W = (w.alloc (.cells #[.int .u64 r, .int .i64 n, .int .u64 i] 24)).alloc (.cells #[.int .u64 s, .int .i64 m, .int .u64 j] 24) := ⟨_, rfl⟩
  have HB : Hid (Below w.heap.size w W) := by
    rw [hW]
    exact ((Below.refl _ w).alloc (Nat.le_refl _) _).alloc (by simp [World.size_alloc]) _
  have a0 : W.cell? ⟨w.heap.size, 0, none⟩ = some (.int .u64 r) := by rw [hW, World.cell?_alloc_lt _ _ _ (by simp [World.size_alloc]), World.cell?_alloc_new]; rfl
  have a1 : W.cell? ⟨w.heap.size, 1, none⟩ = some (.int .i64 n) := by rw [hW, World.cell?_alloc_lt _ _ _ (by simp [World.size_alloc]), World.cell?_alloc_new]; rfl
  have a2 : W.cell? ⟨w.heap.size, 2, none⟩ = some (.int .u64 i) := by rw [hW, World.cell?_alloc_lt _ _ _ (by simp [World.size_alloc]), World.cell?_alloc_new]; rfl
  have b0 : W.cell? ⟨w.heap.size + 1, 0, none⟩ = some (.int .u64 s) := by rw [hW, show w.heap.size + 1 = (w.alloc (.cells #[.int .u64 r, .int .i64 n, .int .u64 i] 24)).heap.size by simp [World.size_alloc], World.cell?_alloc_new]; rfl
  have b1 : W.cell? ⟨w.heap.size + 1, 1, none⟩ = some (.int .i64 m) := by rw [hW, show w.heap.size + 1 = (w.alloc (.cells #[.int .u64 r, .int .i64 n, .int .u64 i] 24)).heap.size by simp [World.size_alloc], World.cell?_alloc_new]; rfl
  have b2 : W.cell? ⟨w.heap.size + 1, 2, none⟩ = some (.int .u64 j) := by rw [hW, show w.heap.size + 1 = (w.alloc (.cells #[.int .u64 r, .int .i64 n, .int .u64 i] 24)).heap.size by simp [World.size_alloc], World.cell?_alloc_new]; rfl
  go_enter Try.func16, Try.ntmps16
  go_wp2
  rw [← hW]
  clear hW
  go_region_held (fun W' => W'.cell? ⟨w.heap.size, 0, none⟩ = some (.int .u64 r) ∧ W'.cell? ⟨w.heap.size, 1, none⟩ = some (.int .i64 n) ∧ W'.cell? ⟨w.heap.size, 2, none⟩ = some (.int .u64 i) ∧ W'.cell? ⟨w.heap.size + 1, 0, none⟩ = some (.int .u64 s) ∧ W'.cell? ⟨w.heap.size + 1, 1, none⟩ = some (.int .i64 m) ∧ W'.cell? ⟨w.heap.size + 1, 2, none⟩ = some (.int .u64 j)) (go_keep) (first
    | (go_at_call 31; refine (cmp_u _ _ _).mono ?_; rintro e w2 ⟨rfl, rfl⟩)
    | (go_at_call 32; refine (cmp_i _ _ _).mono ?_; rintro e w2 ⟨rfl, rfl⟩)
    | (go_at_call 30; refine (or_new _ _ _ _).mono ?_; rintro e w2 ⟨rfl, rfl⟩))
  all_goals go_wp2
  all_goals go_ret
  all_goals exact ⟨rfl, ((HB.out).alloc (HB.out).size _).drew⟩
end Go.Proofs.Ytomoomeocolkmaa
