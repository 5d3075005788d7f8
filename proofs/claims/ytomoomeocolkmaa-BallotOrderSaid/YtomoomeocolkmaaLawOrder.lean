/- BallotOrder. -/
import Derived.Test.YtomoomeocolkmaaAwake
import Derived.Test.YtomoomeocolkmaaStill
namespace Go.Proofs.Ytomoomeocolkmaa
open Go.RowKit
set_option maxRecDepth 100000 in
set_option maxHeartbeats 4000000 in
theorem order_any (x y : BV) (v : Value) (l : List Int) (w : World) (hx : x.ok) (hp : NumsAt w v l) :
    Calls Try.prog 3 #[x.val, y.val, v] w fun e w' => e = .returned (.bool true) ∧ Below w.heap.size w w' := by
  have HP := Lib.hid hp
  obtain ⟨a, cap, rfl, hlen, -⟩ := hp
  obtain ⟨L, hL⟩ : ∃ L, l.length = L := ⟨_, rfl⟩
  rw [hL] at hlen HP ⊢
  clear hL
  obtain ⟨W, hW⟩ : ∃ W, W = (w.alloc (.cells #[.int .u64 x.r, .int .i64 x.n, .int .u64 x.i] 24)).alloc (.cells #[.int .u64 y.r, .int .i64 y.n, .int .u64 y.i] 24) := ⟨_, rfl⟩
  have HB := Lib.hid (show Below w.heap.size w W ∧ Box3 W w.heap.size x ∧ Box3 W (w.heap.size + 1) y from by
    rw [hW]
    have h2 := Box3.new (w.alloc (.cells #[.int .u64 x.r, .int .i64 x.n, .int .u64 x.i] 24)) y
    rw [World.size_alloc] at h2
    exact ⟨Go.Joins.below_alloc2 w _ _, (Box3.new w x).below (Go.Joins.below_alloc1 _ _) (by simp [World.size_alloc]), h2⟩)
  by_cases h1 : 100 < L
  · have hd : decide ((100 : Int) < L) = true := by simp; omega
    clear hx
    go_enter Try.func3, Try.ntmps3
    go_wp2_with fail
    rw [← hW]
    clear hW
    go_wp2_with (go_at_call 10; refine (awake_any _).mono ?_; rintro e wz ⟨rfl, hb⟩; have HF := Lib.hid (HB.out.1.trans (hb.mono HB.out.1.size)); clear hb)
    go_ret
    exact ⟨rfl, HF.out⟩
  · have hd2 : decide ((100 : Int) < L) = false := by simp; omega
    have hd := hd2
    have HPX := Lib.hid (fun W => puts_any x hx W)
    have HPU : True := trivial
    have HMX := Lib.hid (may_any x)
    have HMR := Lib.hid (rmay_any x)
    have HCX := Lib.hid (cmp_any x y)
    have HCR := Lib.hid (rcmp_any x y)
    have zg := guard24
    obtain ⟨h0, hn1, h2⟩ := hx
    clear h0 h2
    generalize x.may = F at HMX HMR
    generalize x.cmp y = C at HCX HCR
    by_cases hn : 0 ≤ x.n
    · have e : max x.n 0 = x.n := Int.max_eq_left hn
      have e3 : x.n % 18446744073709551616 = x.n := by omega
      clear hn1
      clear h1 hd2 HPU
      go_enter Try.func3, Try.ntmps3
      go_wp2_with fail
      rw [← hW]
      clear hW
      refine (HPX.out W).mono ?_
      rintro e w1 ⟨g, rfl, _, hn1, hb1⟩
      obtain ⟨b2, off2, cap2, r2, n2, i2, hl2, hv2, _, _, _, _, f0, f1, f2⟩ := hn1.three rfl
      cases hv2
      cases hl2
      rw [e] at f1
      have HC := Lib.hid (show ∀ W', On w1 W' → (W'.cell? ⟨w.heap.size, 0, none⟩ = some (.int .u64 x.r) ∧ W'.cell? ⟨w.heap.size, 1, none⟩ = some (.int .i64 x.n) ∧ W'.cell? ⟨w.heap.size, 2, none⟩ = some (.int .u64 x.i)) ∧ (W'.cell? ⟨g, 0, none⟩ = some (.int .u64 x.r) ∧ W'.cell? ⟨g, 1, none⟩ = some (.int .u64 x.n) ∧ W'.cell? ⟨g, 2, none⟩ = some (.int .u64 x.i)) from fun W' hb => by
        have hk : ∀ (p : Addr) u, w1.cell? p = some u → W'.cell? p = some u := fun p u h => by rw [Below.cell hb (World.block_lt_of_cell? w1 p h)]; exact h
        have hx := (HB.out.2.1.below hb1 HB.out.2.1.lt).below hb (Nat.lt_of_lt_of_le HB.out.2.1.lt hb1.size)
        exact ⟨⟨hx.c0, hx.c1, hx.c2⟩, hk _ _ f0, by simpa using hk _ _ f1, by simpa using hk _ _ f2⟩)
      have B1 := Lib.hid hb1
      clear hn1 hb1 f0 f1 f2
      go_wp2_with fail
      refine region_on (by kernel_rfl) (by kernel_rfl) w1 (Below.refl _ _) ?_
      repeat (first
        | go_big_quiet_skip
        | (go_big_quiet_want; go_big_quiet_op; (first
          | go_big_quiet_on
          | (apply Exists.intro; refine ⟨fun _ hC => ?_, ?_⟩; with_reducible (first
              | exact rfl
              | (have hcell := HC.out _ hC; simp only [hcell, Result.andThen]; (first | exact rfl | exact ⟨rfl, rfl⟩ | exact ⟨trivial, rfl⟩))); go_big_quiet_on))))
      refine wpQuiet_nil ?_
      intro w2 hO2
      have B2 := Lib.hid (show On W w2 from On.step B1.out hO2)
      have B2w := Lib.hid (HB.out.1.trans (B2.out.mono HB.out.1.size))
      clear hO2
      go_wp2_with fail
      refine (of_any _ _ _ (HP.out.below B2w.out)).mono ?_
      rintro e w3 ⟨rfl, hb3⟩
      have HR := Lib.hid (fun W hb => rof_any _ l W (HP.out.below hb))
      generalize (ofNums l).1 = z at HR ⊢
      generalize (ofNums l).2 = kk at HR ⊢
      have B3 := Lib.hid (On.step B2.out hb3)
      have B3a := Lib.hid (On.step B3.out (Go.Joins.below_alloc1 w3 (.cells #[.int .u64 z.r, .int .i64 z.n, .int .u64 z.i] 24)))
      have Z3 := Lib.hid (Box3.new w3 z)
      clear hb3
      go_wp2_with fail
      refine (HR.out _ (HB.out.1.trans (Below.mono B3a.out HB.out.1.size))).mono ?_
      rintro e w4 ⟨rfl, hb4⟩
      have B4 := Lib.hid (On.step B3a.out hb4)
      have Z4 := Lib.hid (Z3.out.below hb4 Z3.out.lt)
      obtain ⟨W5, hW5⟩ : ∃ W5, W5 = w4.alloc (.cells #[.int .u64 z.r, .int .i64 z.n, .int .u64 z.i] 24) := ⟨_, rfl⟩
      have HZ := Lib.hid (show On W W5 ∧ Box3 W5 w3.heap.size z ∧ Box3 W5 w4.heap.size z from by
        rw [hW5]
        exact ⟨On.step B4.out (Go.Joins.below_alloc1 w4 _), Z4.out.below (Go.Joins.below_alloc1 w4 _) Z4.out.lt, Box3.new w4 z⟩)
      have HC := Lib.hid (show ∀ W', On W5 W' → (W'.cell? ⟨w.heap.size, 0, none⟩ = some (.int .u64 x.r) ∧ W'.cell? ⟨w.heap.size, 1, none⟩ = some (.int .i64 x.n) ∧ W'.cell? ⟨w.heap.size, 2, none⟩ = some (.int .u64 x.i)) ∧ (W'.cell? ⟨w.heap.size + 1, 0, none⟩ = some (.int .u64 y.r) ∧ W'.cell? ⟨w.heap.size + 1, 1, none⟩ = some (.int .i64 y.n) ∧ W'.cell? ⟨w.heap.size + 1, 2, none⟩ = some (.int .u64 y.i)) ∧ (W'.cell? ⟨w3.heap.size, 0, none⟩ = some (.int .u64 z.r) ∧ W'.cell? ⟨w3.heap.size, 1, none⟩ = some (.int .i64 z.n) ∧ W'.cell? ⟨w3.heap.size, 2, none⟩ = some (.int .u64 z.i)) ∧ (W'.cell? ⟨w4.heap.size, 0, none⟩ = some (.int .u64 z.r) ∧ W'.cell? ⟨w4.heap.size, 1, none⟩ = some (.int .i64 z.n) ∧ W'.cell? ⟨w4.heap.size, 2, none⟩ = some (.int .u64 z.i)) from fun W' hb => by
        obtain ⟨h0, h3, h4⟩ := HZ.out
        have hx := HB.out.2.1.below (On.step h0 hb) HB.out.2.1.lt
        have hy := HB.out.2.2.below (On.step h0 hb) HB.out.2.2.lt
        have h3 := h3.below hb h3.lt
        have h4 := h4.below hb h4.lt
        exact ⟨⟨hx.c0, hx.c1, hx.c2⟩, ⟨hy.c0, hy.c1, hy.c2⟩, ⟨h3.c0, h3.c1, h3.c2⟩, h4.c0, h4.c1, h4.c2⟩)
      have zz := fun w => eql24 z z w
      rw [decide_eq_true (rfl : z = z)] at zz
      dsimp only [BV.val] at zz
      clear hb4
      go_wp2_with fail
      rw [← hW5]
      clear hW5
      refine region_on (by kernel_rfl) (by kernel_rfl) W5 (Below.refl _ _) ?_
      repeat (first
        | go_big_quiet_skip
        | (go_big_quiet_want; go_big_quiet_op; (first
          | go_big_quiet_on
          | (apply Exists.intro; refine ⟨fun _ hC => ?_, ?_⟩; with_reducible (first
              | exact rfl
              | exact calls_on hC (HMX.out _)
              | exact calls_on hC (HMR.out _)
              | exact calls_on hC (HCX.out _)
              | exact calls_on hC (HCR.out _)
              | exact calls_on hC (awake_any _)
              | (have hcell := HC.out _ hC; simp only [hcell, Result.andThen]; (first | exact rfl | exact ⟨rfl, rfl⟩ | exact ⟨trivial, rfl⟩))); go_big_quiet_on))))
      refine wpQuiet_nil ?_
      intro wn hO
      go_wp2
      go_ret
      exact ⟨rfl, HB.out.1.trans (Below.mono (On.step HZ.out.1 hO) HB.out.1.size)⟩
    · have e : max x.n 0 = 0 := Int.max_eq_right (by omega)
      clear hn1
      clear h1 hd2 HPU
      go_enter Try.func3, Try.ntmps3
      go_wp2_with fail
      rw [← hW]
      clear hW
      refine (HPX.out W).mono ?_
      rintro e w1 ⟨g, rfl, _, hn1, hb1⟩
      obtain ⟨b2, off2, cap2, r2, n2, i2, hl2, hv2, _, _, _, _, f0, f1, f2⟩ := hn1.three rfl
      cases hv2
      cases hl2
      rw [e] at f1
      have HC := Lib.hid (show ∀ W', On w1 W' → (W'.cell? ⟨w.heap.size, 0, none⟩ = some (.int .u64 x.r) ∧ W'.cell? ⟨w.heap.size, 1, none⟩ = some (.int .i64 x.n) ∧ W'.cell? ⟨w.heap.size, 2, none⟩ = some (.int .u64 x.i)) ∧ (W'.cell? ⟨g, 0, none⟩ = some (.int .u64 x.r) ∧ W'.cell? ⟨g, 1, none⟩ = some (.int .u64 0) ∧ W'.cell? ⟨g, 2, none⟩ = some (.int .u64 x.i)) from fun W' hb => by
        have hk : ∀ (p : Addr) u, w1.cell? p = some u → W'.cell? p = some u := fun p u h => by rw [Below.cell hb (World.block_lt_of_cell? w1 p h)]; exact h
        have hx := (HB.out.2.1.below hb1 HB.out.2.1.lt).below hb (Nat.lt_of_lt_of_le HB.out.2.1.lt hb1.size)
        exact ⟨⟨hx.c0, hx.c1, hx.c2⟩, hk _ _ f0, by simpa using hk _ _ f1, by simpa using hk _ _ f2⟩)
      have B1 := Lib.hid hb1
      clear hn1 hb1 f0 f1 f2
      go_wp2_with fail
      refine region_on (by kernel_rfl) (by kernel_rfl) w1 (Below.refl _ _) ?_
      repeat (first
        | go_big_quiet_skip
        | (go_big_quiet_want; go_big_quiet_op; (first
          | go_big_quiet_on
          | (apply Exists.intro; refine ⟨fun _ hC => ?_, ?_⟩; with_reducible (first
              | exact rfl
              | (have hcell := HC.out _ hC; simp only [hcell, Result.andThen]; (first | exact rfl | exact ⟨rfl, rfl⟩ | exact ⟨trivial, rfl⟩))); go_big_quiet_on))))
      refine wpQuiet_nil ?_
      intro w2 hO2
      have B2 := Lib.hid (show On W w2 from On.step B1.out hO2)
      have B2w := Lib.hid (HB.out.1.trans (B2.out.mono HB.out.1.size))
      clear hO2
      go_wp2_with fail
      refine (of_any _ _ _ (HP.out.below B2w.out)).mono ?_
      rintro e w3 ⟨rfl, hb3⟩
      have HR := Lib.hid (fun W hb => rof_any _ l W (HP.out.below hb))
      generalize (ofNums l).1 = z at HR ⊢
      generalize (ofNums l).2 = kk at HR ⊢
      have B3 := Lib.hid (On.step B2.out hb3)
      have B3a := Lib.hid (On.step B3.out (Go.Joins.below_alloc1 w3 (.cells #[.int .u64 z.r, .int .i64 z.n, .int .u64 z.i] 24)))
      have Z3 := Lib.hid (Box3.new w3 z)
      clear hb3
      go_wp2_with fail
      refine (HR.out _ (HB.out.1.trans (Below.mono B3a.out HB.out.1.size))).mono ?_
      rintro e w4 ⟨rfl, hb4⟩
      have B4 := Lib.hid (On.step B3a.out hb4)
      have Z4 := Lib.hid (Z3.out.below hb4 Z3.out.lt)
      obtain ⟨W5, hW5⟩ : ∃ W5, W5 = w4.alloc (.cells #[.int .u64 z.r, .int .i64 z.n, .int .u64 z.i] 24) := ⟨_, rfl⟩
      have HZ := Lib.hid (show On W W5 ∧ Box3 W5 w3.heap.size z ∧ Box3 W5 w4.heap.size z from by
        rw [hW5]
        exact ⟨On.step B4.out (Go.Joins.below_alloc1 w4 _), Z4.out.below (Go.Joins.below_alloc1 w4 _) Z4.out.lt, Box3.new w4 z⟩)
      have HC := Lib.hid (show ∀ W', On W5 W' → (W'.cell? ⟨w.heap.size, 0, none⟩ = some (.int .u64 x.r) ∧ W'.cell? ⟨w.heap.size, 1, none⟩ = some (.int .i64 x.n) ∧ W'.cell? ⟨w.heap.size, 2, none⟩ = some (.int .u64 x.i)) ∧ (W'.cell? ⟨w.heap.size + 1, 0, none⟩ = some (.int .u64 y.r) ∧ W'.cell? ⟨w.heap.size + 1, 1, none⟩ = some (.int .i64 y.n) ∧ W'.cell? ⟨w.heap.size + 1, 2, none⟩ = some (.int .u64 y.i)) ∧ (W'.cell? ⟨w3.heap.size, 0, none⟩ = some (.int .u64 z.r) ∧ W'.cell? ⟨w3.heap.size, 1, none⟩ = some (.int .i64 z.n) ∧ W'.cell? ⟨w3.heap.size, 2, none⟩ = some (.int .u64 z.i)) ∧ (W'.cell? ⟨w4.heap.size, 0, none⟩ = some (.int .u64 z.r) ∧ W'.cell? ⟨w4.heap.size, 1, none⟩ = some (.int .i64 z.n) ∧ W'.cell? ⟨w4.heap.size, 2, none⟩ = some (.int .u64 z.i)) from fun W' hb => by
        obtain ⟨h0, h3, h4⟩ := HZ.out
        have hx := HB.out.2.1.below (On.step h0 hb) HB.out.2.1.lt
        have hy := HB.out.2.2.below (On.step h0 hb) HB.out.2.2.lt
        have h3 := h3.below hb h3.lt
        have h4 := h4.below hb h4.lt
        exact ⟨⟨hx.c0, hx.c1, hx.c2⟩, ⟨hy.c0, hy.c1, hy.c2⟩, ⟨h3.c0, h3.c1, h3.c2⟩, h4.c0, h4.c1, h4.c2⟩)
      have zz := fun w => eql24 z z w
      rw [decide_eq_true (rfl : z = z)] at zz
      dsimp only [BV.val] at zz
      clear hb4
      go_wp2_with fail
      rw [← hW5]
      clear hW5
      refine region_on (by kernel_rfl) (by kernel_rfl) W5 (Below.refl _ _) ?_
      repeat (first
        | go_big_quiet_skip
        | (go_big_quiet_want; go_big_quiet_op; (first
          | go_big_quiet_on
          | (apply Exists.intro; refine ⟨fun _ hC => ?_, ?_⟩; with_reducible (first
              | exact rfl
              | exact calls_on hC (HMX.out _)
              | exact calls_on hC (HMR.out _)
              | exact calls_on hC (HCX.out _)
              | exact calls_on hC (HCR.out _)
              | exact calls_on hC (awake_any _)
              | (have hcell := HC.out _ hC; simp only [hcell, Result.andThen]; (first | exact rfl | exact ⟨rfl, rfl⟩ | exact ⟨trivial, rfl⟩))); go_big_quiet_on))))
      refine wpQuiet_nil ?_
      intro wn hO
      go_wp2
      go_ret
      exact ⟨rfl, HB.out.1.trans (Below.mono (On.step HZ.out.1 hO) HB.out.1.size)⟩
end Go.Proofs.Ytomoomeocolkmaa
