/- BallotBack. -/
import Derived.Test.YtomoomeocolkmaaAwake
import Derived.Test.YtomoomeocolkmaaStill
namespace Go.Proofs.Ytomoomeocolkmaa
open Go.RowKit
theorem of_puts {x : BV} (h : x.fine = true) : ofNums x.puts = (x, true) := by
  have hn : 0 ≤ x.n ∧ x.n ≤ 15 := by
    simp only [BV.fine, BV.may, life, Bool.or_eq_true, Bool.and_eq_true, decide_eq_true_eq] at h
    rcases h with h | rfl
    · omega
    · simp [BV.zero]
  obtain ⟨r, n, i⟩ := x
  have e : max n 0 = n := Int.max_eq_left hn.1
  simp only [BV.puts, ofNums, e]
  rw [if_pos hn.2, if_pos h]
theorem of_cases (l : List Int) : ((ofNums l).2 = false ∧ (ofNums l).1 = BV.zero) ∨ ∃ r n i, l = [r, n, i] ∧ ofNums l = (⟨r, n, i⟩, true) ∧ n ≤ 15 := by
  by_cases h3 : l.length = 3
  · match l, h3 with
    | [r, n, i], _ =>
      simp only [ofNums]
      by_cases h1 : n ≤ 15
      · rw [if_pos h1]
        by_cases h2 : (BV.mk r n i).fine = true
        · rw [if_pos h2]; exact .inr ⟨r, n, i, rfl, rfl, h1⟩
        · rw [if_neg h2]; exact .inl ⟨rfl, rfl⟩
      · rw [if_neg h1]; exact .inl ⟨rfl, rfl⟩
  · rw [ofNums_ne l h3]; exact .inl ⟨rfl, rfl⟩
set_option maxRecDepth 100000 in
set_option maxHeartbeats 2000000 in
theorem back_any (x : BV) (v : Value) (l : List Int) (w : World) (hx : x.ok) (hp : NumsAt w v l) :
    Calls Try.prog 8 #[x.val, v] w fun e w' => e = .returned (.bool true) ∧ Below w.heap.size w w' := by
  have HP := Lib.hid hp
  have HXO := Lib.hid hx
  obtain ⟨a, cap, rfl, hlen, -⟩ := hp
  obtain ⟨L, hL⟩ : ∃ L, l.length = L := ⟨_, rfl⟩
  rw [hL] at hlen HP ⊢
  have HL := Lib.hid hL
  clear hL
  obtain ⟨W, hW⟩ : ∃ W, W = w.alloc (.cells #[.int .u64 x.r, .int .i64 x.n, .int .u64 x.i] 24) := ⟨_, rfl⟩
  have HB := Lib.hid (show Below w.heap.size w W ∧ Box3 W w.heap.size x from by rw [hW]; exact ⟨Go.Joins.below_alloc1 w _, Box3.new w x⟩)
  by_cases h1 : 100 < L
  · have hd : decide ((100 : Int) < L) = true := by simp; omega
    clear hx
    go_enter Try.func8, Try.ntmps8
    go_wp2_with fail
    rw [← hW]
    clear hW
    go_wp2_with (go_at_call 10; refine (awake_any _).mono ?_; rintro e wz ⟨rfl, hb⟩; have HF := Lib.hid (HB.out.1.trans (hb.mono HB.out.1.size)); clear hb)
    go_ret
    exact ⟨rfl, HF.out⟩
  · have hd : decide ((100 : Int) < L) = false := by simp; omega
    have HPU := Lib.hid (fun W => puts_any x hx W)
    have z1 := fun w => eql24 x ⟨0, 0, 0⟩ w
    have zg := guard24
    obtain ⟨F, hF⟩ : ∃ F, x.may = F := ⟨_, rfl⟩
    obtain ⟨Z, hZ⟩ : ∃ Z, decide (x = (⟨0, 0, 0⟩ : BV)) = Z := ⟨_, rfl⟩
    have HM := Lib.hid (fun W => (may_any x W).mono fun e w' h => (show e = .returned (.bool F) ∧ Below W.heap.size W w' from by rw [hF] at h; exact h))
    have hfine : x.fine = (F || Z) := by rw [← hF, ← hZ]; rfl
    rw [hZ] at z1
    obtain ⟨Y, K, hY⟩ : ∃ Y K, ofNums x.puts = (Y, K) := ⟨_, _, rfl⟩
    have HYK := Lib.hid (show (F || Z) = true → Y = x ∧ K = true from fun h => by
      have := of_puts (x := x) (by rw [hfine]; exact h)
      rw [hY] at this
      cases this
      exact ⟨rfl, rfl⟩)
    dsimp only [BV.val] at z1
    clear hx hfine hF hZ
    go_enter Try.func8, Try.ntmps8
    go_wp2_with fail
    rw [← hW]
    clear hW
    refine (HPU.out W).mono ?_
    rintro e w1 ⟨g, rfl, _, hn1, hb1⟩
    have hof := of_any _ _ _ hn1
    rw [hY] at hof
    have B1 := Lib.hid hb1
    clear hn1 hb1
    go_wp2_with fail
    refine hof.mono ?_
    rintro e w2 ⟨rfl, hb2⟩
    have B2 := Lib.hid (B1.out.trans (hb2.mono B1.out.size))
    clear hb2 hof
    have X2 := fun o => HB.out.2.below (Below.alloc B2.out B2.out.size o) HB.out.2.lt
    have p0 := fun o => (X2 o).c0
    have p1 := fun o => (X2 o).c1
    have p2 := fun o => (X2 o).c2
    have B3 := Lib.hid (B2.out.alloc B2.out.size (.cells #[.int .u64 Y.r, .int .i64 Y.n, .int .u64 Y.i] 24))
    have HK3 := Lib.hid (show ∀ w4, Below (w2.alloc (.cells #[.int .u64 Y.r, .int .i64 Y.n, .int .u64 Y.i] 24)).heap.size (w2.alloc (.cells #[.int .u64 Y.r, .int .i64 Y.n, .int .u64 Y.i] 24)) w4 → Box3 w4 w.heap.size x ∧ Box3 w4 w2.heap.size Y from fun w4 hb => ⟨(X2 _).below hb (X2 _).lt, (Box3.new w2 Y).below hb (Box3.new w2 Y).lt⟩)
    clear X2
    cases F
    · cases Z
      · clear HYK
        go_wp2_with (go_at_call 14; refine (HM.out _).mono ?_; rintro e w4 ⟨rfl, hb4⟩; obtain ⟨x1, x2⟩ := HK3.out w4 hb4; have y0 := x1.c0; have y1 := x1.c1; have y2 := x1.c2; have v0 := x2.c0; have v1 := x2.c1; have v2 := x2.c2; clear x1 x2)
        have B4 := Lib.hid (B3.out.trans (hb4.mono B3.out.size))
        have B4w := Lib.hid (HB.out.1.trans (B4.out.mono HB.out.1.size))
        clear hb4
        go_wp2_with fail
        refine (of_any _ _ _ (HP.out.below B4w.out)).mono ?_
        rintro e w5 ⟨rfl, hb5⟩
        have B5 := Lib.hid (B4w.out.trans (hb5.mono B4w.out.size))
        have B6 := Lib.hid (fun o => B5.out.alloc B5.out.size o)
        clear hb5
        rcases of_cases l with ⟨h1, h2⟩ | ⟨r, n, i, hl, h12, hn15⟩
        · rw [h1, h2]
          have zz := fun w => eql24 ⟨0, 0, 0⟩ ⟨0, 0, 0⟩ w
          rw [decide_eq_true (rfl : (⟨0, 0, 0⟩ : BV) = ⟨0, 0, 0⟩)] at zz
          dsimp only [BV.val] at zz
          clear h1 h2
          go_wp2_with (go_at_call 10; refine (awake_any _).mono ?_; rintro e wz ⟨rfl, hb⟩; have HF := Lib.hid ((B6.out _).trans (hb.mono (B6.out _).size)); clear hb)
          go_ret
          exact ⟨rfl, HF.out⟩
        · rw [h12]
          have h3 : l.length = 3 := by rw [hl]; rfl
          have hL3 : L = 3 := by rw [← HL.out]; exact h3
          have hok : (BV.mk r n i).ok := by
            obtain ⟨b, off, cap', r', n', i', hl', _, _, k0, k1, k2, _⟩ := HP.out.three (by rw [hl]; rfl)
            rw [hl] at hl'
            cases hl'
            exact ok3 _ _ _ ⟨k0, by omega, k2⟩
          have hn0 : 0 ≤ n := by
            obtain ⟨b, off, cap', r', n', i', hl', _, _, k0, k1, k2, _⟩ := HP.out.three (by rw [hl]; rfl)
            rw [hl] at hl'
            cases hl'
            exact k1.1
          have hpu : (BV.mk r n i).puts = [r, n, i] := by simp only [BV.puts]; rw [Int.max_eq_left hn0]
          have HPZ := Lib.hid (fun W => puts_any ⟨r, n, i⟩ hok W)
          subst hL3
          have HLL := Lib.hid hl
          clear h12 hn15 h3 hok hn0 hl
          go_wp2_with fail
          refine (HPZ.out _).mono ?_
          rintro e w7 ⟨g2, rfl, _, hn7, hb7⟩
          rw [hpu] at hn7
          have B7 := Lib.hid ((B6.out _).trans (hb7.mono (B6.out _).size))
          obtain ⟨b, off, cap', r', n', i', hl', hv, _, _, _, _, e0, e1, e2⟩ := (HP.out.below B7.out).three (by rw [HLL.out]; rfl)
          cases hv
          rw [HLL.out] at hl'
          cases hl'
          obtain ⟨b2, off2, cap2, r2, n2, i2, hl2, hv2, _, _, _, _, f0, f1, f2⟩ := hn7.three rfl
          cases hv2
          cases hl2
          have HC := Lib.hid (show ∀ W', On w7 W' → (W'.cell? ⟨b, off, none⟩ = some (.int .u64 r) ∧ W'.cell? ⟨b, off + 1, none⟩ = some (.int .u64 n) ∧ W'.cell? ⟨b, off + 2, none⟩ = some (.int .u64 i)) ∧ (W'.cell? ⟨g2, 0, none⟩ = some (.int .u64 r) ∧ W'.cell? ⟨g2, 1, none⟩ = some (.int .u64 n) ∧ W'.cell? ⟨g2, 2, none⟩ = some (.int .u64 i)) from fun W' hb => by
            have hk : ∀ (p : Addr) u, w7.cell? p = some u → W'.cell? p = some u := fun p u h => by rw [Below.cell hb (World.block_lt_of_cell? w7 p h)]; exact h
            exact ⟨⟨hk _ _ e0, hk _ _ e1, hk _ _ e2⟩, hk _ _ f0, by simpa using hk _ _ f1, by simpa using hk _ _ f2⟩)
          clear hn7 hb7 e0 e1 e2 f0 f1 f2 hpu
          go_wp2_with fail
          refine region_on (by kernel_rfl) (by kernel_rfl) w7 (Below.refl _ _) ?_
          repeat (first
            | go_big_quiet_skip
            | (go_big_quiet_want; go_big_quiet_op; (first
              | go_big_quiet_on
              | (apply Exists.intro; refine ⟨fun _ hC => ?_, ?_⟩; with_reducible (first
                  | exact rfl
                  | exact calls_on hC (awake_any _)
                  | (have hcell := HC.out _ hC; simp only [hcell, Result.andThen]; (first | exact rfl | exact ⟨rfl, rfl⟩ | exact ⟨trivial, rfl⟩))); go_big_quiet_on))))
          refine wpQuiet_nil ?_
          intro wn hO
          go_wp2
          go_ret
          exact ⟨rfl, B7.out.trans (Below.mono hO B7.out.size)⟩
      · obtain ⟨rfl, rfl⟩ := HYK.out rfl
        have zn := fun w => neq24 Y Y w
        rw [decide_eq_true (rfl : Y = Y)] at zn
        dsimp only [BV.val] at zn
        go_wp2_with (go_at_call 14; refine (HM.out _).mono ?_; rintro e w4 ⟨rfl, hb4⟩; obtain ⟨x1, x2⟩ := HK3.out w4 hb4; have y0 := x1.c0; have y1 := x1.c1; have y2 := x1.c2; have v0 := x2.c0; have v1 := x2.c1; have v2 := x2.c2; clear x1 x2)
        have B4 := Lib.hid (B3.out.trans (hb4.mono B3.out.size))
        have B4w := Lib.hid (HB.out.1.trans (B4.out.mono HB.out.1.size))
        clear hb4
        go_wp2_with fail
        refine (of_any _ _ _ (HP.out.below B4w.out)).mono ?_
        rintro e w5 ⟨rfl, hb5⟩
        have B5 := Lib.hid (B4w.out.trans (hb5.mono B4w.out.size))
        have B6 := Lib.hid (fun o => B5.out.alloc B5.out.size o)
        clear hb5
        rcases of_cases l with ⟨h1, h2⟩ | ⟨r, n, i, hl, h12, hn15⟩
        · rw [h1, h2]
          have zz := fun w => eql24 ⟨0, 0, 0⟩ ⟨0, 0, 0⟩ w
          rw [decide_eq_true (rfl : (⟨0, 0, 0⟩ : BV) = ⟨0, 0, 0⟩)] at zz
          dsimp only [BV.val] at zz
          clear h1 h2
          go_wp2_with (go_at_call 10; refine (awake_any _).mono ?_; rintro e wz ⟨rfl, hb⟩; have HF := Lib.hid ((B6.out _).trans (hb.mono (B6.out _).size)); clear hb)
          go_ret
          exact ⟨rfl, HF.out⟩
        · rw [h12]
          have h3 : l.length = 3 := by rw [hl]; rfl
          have hL3 : L = 3 := by rw [← HL.out]; exact h3
          have hok : (BV.mk r n i).ok := by
            obtain ⟨b, off, cap', r', n', i', hl', _, _, k0, k1, k2, _⟩ := HP.out.three (by rw [hl]; rfl)
            rw [hl] at hl'
            cases hl'
            exact ok3 _ _ _ ⟨k0, by omega, k2⟩
          have hn0 : 0 ≤ n := by
            obtain ⟨b, off, cap', r', n', i', hl', _, _, k0, k1, k2, _⟩ := HP.out.three (by rw [hl]; rfl)
            rw [hl] at hl'
            cases hl'
            exact k1.1
          have hpu : (BV.mk r n i).puts = [r, n, i] := by simp only [BV.puts]; rw [Int.max_eq_left hn0]
          have HPZ := Lib.hid (fun W => puts_any ⟨r, n, i⟩ hok W)
          subst hL3
          have HLL := Lib.hid hl
          clear h12 hn15 h3 hok hn0 hl
          go_wp2_with fail
          refine (HPZ.out _).mono ?_
          rintro e w7 ⟨g2, rfl, _, hn7, hb7⟩
          rw [hpu] at hn7
          have B7 := Lib.hid ((B6.out _).trans (hb7.mono (B6.out _).size))
          obtain ⟨b, off, cap', r', n', i', hl', hv, _, _, _, _, e0, e1, e2⟩ := (HP.out.below B7.out).three (by rw [HLL.out]; rfl)
          cases hv
          rw [HLL.out] at hl'
          cases hl'
          obtain ⟨b2, off2, cap2, r2, n2, i2, hl2, hv2, _, _, _, _, f0, f1, f2⟩ := hn7.three rfl
          cases hv2
          cases hl2
          have HC := Lib.hid (show ∀ W', On w7 W' → (W'.cell? ⟨b, off, none⟩ = some (.int .u64 r) ∧ W'.cell? ⟨b, off + 1, none⟩ = some (.int .u64 n) ∧ W'.cell? ⟨b, off + 2, none⟩ = some (.int .u64 i)) ∧ (W'.cell? ⟨g2, 0, none⟩ = some (.int .u64 r) ∧ W'.cell? ⟨g2, 1, none⟩ = some (.int .u64 n) ∧ W'.cell? ⟨g2, 2, none⟩ = some (.int .u64 i)) from fun W' hb => by
            have hk : ∀ (p : Addr) u, w7.cell? p = some u → W'.cell? p = some u := fun p u h => by rw [Below.cell hb (World.block_lt_of_cell? w7 p h)]; exact h
            exact ⟨⟨hk _ _ e0, hk _ _ e1, hk _ _ e2⟩, hk _ _ f0, by simpa using hk _ _ f1, by simpa using hk _ _ f2⟩)
          clear hn7 hb7 e0 e1 e2 f0 f1 f2 hpu
          go_wp2_with fail
          refine region_on (by kernel_rfl) (by kernel_rfl) w7 (Below.refl _ _) ?_
          repeat (first
            | go_big_quiet_skip
            | (go_big_quiet_want; go_big_quiet_op; (first
              | go_big_quiet_on
              | (apply Exists.intro; refine ⟨fun _ hC => ?_, ?_⟩; with_reducible (first
                  | exact rfl
                  | exact calls_on hC (awake_any _)
                  | (have hcell := HC.out _ hC; simp only [hcell, Result.andThen]; (first | exact rfl | exact ⟨rfl, rfl⟩ | exact ⟨trivial, rfl⟩))); go_big_quiet_on))))
          refine wpQuiet_nil ?_
          intro wn hO
          go_wp2
          go_ret
          exact ⟨rfl, B7.out.trans (Below.mono hO B7.out.size)⟩
    · obtain ⟨rfl, rfl⟩ := HYK.out rfl
      have zn := fun w => neq24 Y Y w
      rw [decide_eq_true (rfl : Y = Y)] at zn
      dsimp only [BV.val] at zn
      go_wp2_with (go_at_call 14; refine (HM.out _).mono ?_; rintro e w4 ⟨rfl, hb4⟩; obtain ⟨x1, x2⟩ := HK3.out w4 hb4; have y0 := x1.c0; have y1 := x1.c1; have y2 := x1.c2; have v0 := x2.c0; have v1 := x2.c1; have v2 := x2.c2; clear x1 x2)
      have B4 := Lib.hid (B3.out.trans (hb4.mono B3.out.size))
      have B4w := Lib.hid (HB.out.1.trans (B4.out.mono HB.out.1.size))
      clear hb4
      go_wp2_with fail
      refine (of_any _ _ _ (HP.out.below B4w.out)).mono ?_
      rintro e w5 ⟨rfl, hb5⟩
      have B5 := Lib.hid (B4w.out.trans (hb5.mono B4w.out.size))
      have B6 := Lib.hid (fun o => B5.out.alloc B5.out.size o)
      clear hb5
      rcases of_cases l with ⟨h1, h2⟩ | ⟨r, n, i, hl, h12, hn15⟩
      · rw [h1, h2]
        have zz := fun w => eql24 ⟨0, 0, 0⟩ ⟨0, 0, 0⟩ w
        rw [decide_eq_true (rfl : (⟨0, 0, 0⟩ : BV) = ⟨0, 0, 0⟩)] at zz
        dsimp only [BV.val] at zz
        clear h1 h2
        go_wp2_with (go_at_call 10; refine (awake_any _).mono ?_; rintro e wz ⟨rfl, hb⟩; have HF := Lib.hid ((B6.out _).trans (hb.mono (B6.out _).size)); clear hb)
        go_ret
        exact ⟨rfl, HF.out⟩
      · rw [h12]
        have h3 : l.length = 3 := by rw [hl]; rfl
        have hL3 : L = 3 := by rw [← HL.out]; exact h3
        have hok : (BV.mk r n i).ok := by
          obtain ⟨b, off, cap', r', n', i', hl', _, _, k0, k1, k2, _⟩ := HP.out.three (by rw [hl]; rfl)
          rw [hl] at hl'
          cases hl'
          exact ok3 _ _ _ ⟨k0, by omega, k2⟩
        have hn0 : 0 ≤ n := by
          obtain ⟨b, off, cap', r', n', i', hl', _, _, k0, k1, k2, _⟩ := HP.out.three (by rw [hl]; rfl)
          rw [hl] at hl'
          cases hl'
          exact k1.1
        have hpu : (BV.mk r n i).puts = [r, n, i] := by simp only [BV.puts]; rw [Int.max_eq_left hn0]
        have HPZ := Lib.hid (fun W => puts_any ⟨r, n, i⟩ hok W)
        subst hL3
        have HLL := Lib.hid hl
        clear h12 hn15 h3 hok hn0 hl
        go_wp2_with fail
        refine (HPZ.out _).mono ?_
        rintro e w7 ⟨g2, rfl, _, hn7, hb7⟩
        rw [hpu] at hn7
        have B7 := Lib.hid ((B6.out _).trans (hb7.mono (B6.out _).size))
        obtain ⟨b, off, cap', r', n', i', hl', hv, _, _, _, _, e0, e1, e2⟩ := (HP.out.below B7.out).three (by rw [HLL.out]; rfl)
        cases hv
        rw [HLL.out] at hl'
        cases hl'
        obtain ⟨b2, off2, cap2, r2, n2, i2, hl2, hv2, _, _, _, _, f0, f1, f2⟩ := hn7.three rfl
        cases hv2
        cases hl2
        have HC := Lib.hid (show ∀ W', On w7 W' → (W'.cell? ⟨b, off, none⟩ = some (.int .u64 r) ∧ W'.cell? ⟨b, off + 1, none⟩ = some (.int .u64 n) ∧ W'.cell? ⟨b, off + 2, none⟩ = some (.int .u64 i)) ∧ (W'.cell? ⟨g2, 0, none⟩ = some (.int .u64 r) ∧ W'.cell? ⟨g2, 1, none⟩ = some (.int .u64 n) ∧ W'.cell? ⟨g2, 2, none⟩ = some (.int .u64 i)) from fun W' hb => by
          have hk : ∀ (p : Addr) u, w7.cell? p = some u → W'.cell? p = some u := fun p u h => by rw [Below.cell hb (World.block_lt_of_cell? w7 p h)]; exact h
          exact ⟨⟨hk _ _ e0, hk _ _ e1, hk _ _ e2⟩, hk _ _ f0, by simpa using hk _ _ f1, by simpa using hk _ _ f2⟩)
        clear hn7 hb7 e0 e1 e2 f0 f1 f2 hpu
        go_wp2_with fail
        refine region_on (by kernel_rfl) (by kernel_rfl) w7 (Below.refl _ _) ?_
        repeat (first
          | go_big_quiet_skip
          | (go_big_quiet_want; go_big_quiet_op; (first
            | go_big_quiet_on
            | (apply Exists.intro; refine ⟨fun _ hC => ?_, ?_⟩; with_reducible (first
                | exact rfl
                | exact calls_on hC (awake_any _)
                | (have hcell := HC.out _ hC; simp only [hcell, Result.andThen]; (first | exact rfl | exact ⟨rfl, rfl⟩ | exact ⟨trivial, rfl⟩))); go_big_quiet_on))))
        refine wpQuiet_nil ?_
        intro wn hO
        go_wp2
        go_ret
        exact ⟨rfl, B7.out.trans (Below.mono hO B7.out.size)⟩
end Go.Proofs.Ytomoomeocolkmaa
