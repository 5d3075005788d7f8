/- plan's MayLedger, of any ledger. -/
import Derived.Test.YtpihogkhfmijcaaGreatPMay
namespace Go.Proofs.YtpihogkhfmijcaaGreat
open Go.RowKit Go.Maps Go.Shelf
set_option linter.unusedSimpArgs false in
set_option maxRecDepth 100000 in
set_option maxHeartbeats 4000000 in
theorem planLedger_any (l : LgV) (w : World) (h : FsAt w (.slice l.a l.fs.length l.c) l.fs) :
    Calls Tryz.prog 22 #[l.val] w fun e w' => LgPost l w e w' := by
  have HCL := Lib.hid (fun W => isClosed_any l W)
  obtain ⟨i, W, A, a, c, fs, cl, last⟩ := l
  dsimp only at h
  have HDEF := Lib.hid (show LgV.May ⟨i, W, A, a, c, fs, cl, last⟩ ↔ (1 ≤ i ∧ i ≤ 4611686018427387903) ∧ (1 ≤ A ∧ A ≤ W ∧ W ≤ 5) ∧ MayFr W fs ∧ ((cl = 0 ∧ last = 0) ∨ (cl = 1 ∧ last ≤ 8)) from Iff.rfl)
  have HB := Lib.hid (Go.Joins.below_alloc1 w (.cells #[.int .u64 i, .int .i64 W, .int .i64 A, .slice a fs.length c, .int .i64 cl, .int .u64 last] 25))
  have HBX := Lib.hid (BoxC.new w 25 #[.int .u64 i, .int .i64 W, .int .i64 A, .slice a fs.length c, .int .i64 cl, .int .u64 last])
  have HM := Lib.hid (planFrags_any W a c fs _ (h.below HB.out))
  have HW1 := Lib.hid (fun w => isCount_any i w)
  obtain ⟨b1, hb1⟩ : ∃ b, (decide (1 ≤ i) && decide (i ≤ 4611686018427387903)) = b := ⟨_, rfl⟩
  have H1 := Lib.hid (show b1 = true ↔ 1 ≤ i ∧ i ≤ 4611686018427387903 by rw [← hb1]; simp)
  rw [hb1] at HW1
  have HW2 := Lib.hid (fun w => within_i W 1 5 w)
  obtain ⟨b2, hb2⟩ : ∃ b, (decide (1 ≤ W) && decide (W ≤ 5)) = b := ⟨_, rfl⟩
  have H2 := Lib.hid (show b2 = true ↔ 1 ≤ W ∧ W ≤ 5 by rw [← hb2]; simp)
  rw [hb2] at HW2
  have HW3 := Lib.hid (fun w => within_i A 1 W w)
  obtain ⟨b3, hb3⟩ : ∃ b, (decide (1 ≤ A) && decide (A ≤ W)) = b := ⟨_, rfl⟩
  have H3 := Lib.hid (show b3 = true ↔ 1 ≤ A ∧ A ≤ W by rw [← hb3]; simp)
  rw [hb3] at HW3
  have HW4 := Lib.hid (fun w => within_i cl 0 1 w)
  obtain ⟨b4, hb4⟩ : ∃ b, (decide (0 ≤ cl) && decide (cl ≤ 1)) = b := ⟨_, rfl⟩
  have H4 := Lib.hid (show b4 = true ↔ 0 ≤ cl ∧ cl ≤ 1 by rw [← hb4]; simp)
  rw [hb4] at HW4
  obtain ⟨k, hk⟩ : ∃ b, (cl == 1) = b := ⟨_, rfl⟩
  have H5 := Lib.hid (show k = true ↔ cl = 1 by rw [← hk]; simp)
  simp only [LgV.val, LgV.arr] at HCL ⊢
  rw [hk] at HCL
  obtain ⟨N, hN⟩ : ∃ N, fs.length = N := ⟨_, rfl⟩
  rw [hN] at HB HBX HM HCL ⊢
  clear h hb1 hb2 hb3 hb4 hk hN
  cases b1
  · have HF := Lib.hid (show ¬ LgV.May ⟨i, W, A, a, c, fs, cl, last⟩ from fun h => by have := H1.out.2 (HDEF.out.1 h).1; cases this)
    go_enter Tryz.func22, Tryz.ntmps22
    go_wp2_with fail
    refine (HW1.out _).mono ?_
    rintro e w1 ⟨rfl, rfl⟩
    go_wp2
    go_ret
    exact ⟨false, rfl, by simpa using HF.out, HB.out⟩
  cases b2
  · have HF := Lib.hid (show ¬ LgV.May ⟨i, W, A, a, c, fs, cl, last⟩ from fun h => by have h1 := (HDEF.out.1 h).2.1; have := H2.out.2 (by omega); cases this)
    go_enter Tryz.func22, Tryz.ntmps22
    go_wp2_with fail
    refine (HW1.out _).mono ?_
    rintro e w1 ⟨rfl, rfl⟩
    go_wp2_with fail
    refine (HW2.out _).mono ?_
    rintro e w1 ⟨rfl, rfl⟩
    go_wp2
    go_ret
    exact ⟨false, rfl, by simpa using HF.out, HB.out⟩
  cases b3
  · have HF := Lib.hid (show ¬ LgV.May ⟨i, W, A, a, c, fs, cl, last⟩ from fun h => by have h1 := (HDEF.out.1 h).2.1; have := H3.out.2 (by omega); cases this)
    go_enter Tryz.func22, Tryz.ntmps22
    go_wp2_with fail
    refine (HW1.out _).mono ?_
    rintro e w1 ⟨rfl, rfl⟩
    go_wp2_with fail
    refine (HW2.out _).mono ?_
    rintro e w1 ⟨rfl, rfl⟩
    go_wp2_with fail
    refine (HW3.out _).mono ?_
    rintro e w1 ⟨rfl, rfl⟩
    go_wp2
    go_ret
    exact ⟨false, rfl, by simpa using HF.out, HB.out⟩
  have H123 := Lib.hid (show (1 ≤ i ∧ i ≤ 4611686018427387903) ∧ (1 ≤ A ∧ A ≤ W ∧ W ≤ 5) from ⟨H1.out.1 rfl, by have := H2.out.1 rfl; have := H3.out.1 rfl; omega⟩)
  go_enter Tryz.func22, Tryz.ntmps22
  go_wp2_with fail
  refine (HW1.out _).mono ?_
  rintro e w1 ⟨rfl, rfl⟩
  go_wp2_with fail
  refine (HW2.out _).mono ?_
  rintro e w1 ⟨rfl, rfl⟩
  go_wp2_with fail
  refine (HW3.out _).mono ?_
  rintro e w1 ⟨rfl, rfl⟩
  go_wp2_with fail
  refine HM.out.mono ?_
  rintro e w3 ⟨R, rfl, hR, hb3⟩
  have HB3 := Lib.hid (HB.out.trans (hb3.mono HB.out.size))
  have hx := (HBX.out.below hb3).cell
  have x0 := hx 0
  have x1 := hx 1
  have x2 := hx 2
  have x3 := hx 3
  have x4 := hx 4
  have x5 := hx 5
  simp only [List.getElem?_toArray, List.getElem?_cons_succ, List.getElem?_cons_zero] at x0 x1 x2 x3 x4 x5
  cases R
  · have HF := Lib.hid (show ¬ LgV.May ⟨i, W, A, a, c, fs, cl, last⟩ from fun h => by have := hR.2 (HDEF.out.1 h).2.2.1; cases this)
    clear hR hb3 hx
    go_wp2
    go_ret
    exact ⟨false, rfl, by simpa using HF.out, HB3.out⟩
  have HMF := Lib.hid (hR.1 rfl)
  clear hR hb3 hx
  cases b4
  · have HF := Lib.hid (show ¬ LgV.May ⟨i, W, A, a, c, fs, cl, last⟩ from fun h => by have h1 := (HDEF.out.1 h).2.2.2; have := H4.out.2 (by omega); cases this)
    go_wp2_with fail
    refine (HW4.out _).mono ?_
    rintro e w1 ⟨rfl, rfl⟩
    go_wp2
    go_ret
    exact ⟨false, rfl, by simpa using HF.out, HB3.out⟩
  by_cases l8 : last ≤ 8
  · have d8 : decide (last ≤ 8) = true := by simpa using l8
    have HC2 := Lib.hid (HCL.out w3)
    go_wp2_with fail
    refine (HW4.out _).mono ?_
    rintro e w1 ⟨rfl, rfl⟩
    go_wp2_with fail
    refine HC2.out.mono ?_
    rintro e w4 ⟨rfl, hb4⟩
    have HB4 := Lib.hid (HB3.out.trans (hb4.mono HB3.out.size))
    have hlt3 : w.heap.size < w1.heap.size := World.block_lt_of_cell? w1 _ x5
    have y5 : w4.cell? ⟨w.heap.size, 5, none⟩ = some (.int .u64 last) := (hb4.cell (p := ⟨w.heap.size, 5, none⟩) hlt3).trans x5
    clear hb4 hlt3
    cases k
    · by_cases l0 : last = 0
      · have d0 : (last == 0) = true := by simpa using l0
        have HT := Lib.hid (show LgV.May ⟨i, W, A, a, c, fs, cl, last⟩ from HDEF.out.2 ⟨H123.out.1, H123.out.2, HMF.out, .inl ⟨by have h1 := H4.out.1 (by trivial); have h2 := H5.out; have h3 : ¬ cl = 1 := fun e => (by have := h2.2 e; simp at this); omega, l0⟩⟩)
        go_wp2
        go_ret
        exact ⟨true, rfl, by simpa using HT.out, HB4.out⟩
      · have d0 : (last == 0) = false := by simpa using l0
        have HF := Lib.hid (show ¬ LgV.May ⟨i, W, A, a, c, fs, cl, last⟩ from fun h => by
          have h1 := (HDEF.out.1 h).2.2.2
          have h2 := H5.out
          have h3 : ¬ cl = 1 := fun e => by have := h2.2 e; simp at this
          omega)
        go_wp2
        go_ret
        exact ⟨false, rfl, by simpa using HF.out, HB4.out⟩
    · have HT := Lib.hid (show LgV.May ⟨i, W, A, a, c, fs, cl, last⟩ from HDEF.out.2 ⟨H123.out.1, H123.out.2, HMF.out, .inr ⟨H5.out.1 (by trivial), l8⟩⟩)
      go_wp2
      go_ret
      exact ⟨true, rfl, by simpa using HT.out, HB4.out⟩
  · have d8 : decide (last ≤ 8) = false := by simpa using l8
    have HF := Lib.hid (show ¬ LgV.May ⟨i, W, A, a, c, fs, cl, last⟩ from fun h => by have h1 := (HDEF.out.1 h).2.2.2; omega)
    go_wp2_with fail
    refine (HW4.out _).mono ?_
    rintro e w1 ⟨rfl, rfl⟩
    go_wp2
    go_ret
    exact ⟨false, rfl, by simpa using HF.out, HB3.out⟩
end Go.Proofs.YtpihogkhfmijcaaGreat
