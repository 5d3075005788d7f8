/- BallotTotal. -/
import Derived.Test.YtomoomeocolkmaaLawRises
import Derived.Test.YtomoomeocolkmaaStill
namespace Go.Proofs.Ytomoomeocolkmaa
open Go.RowKit
theorem cmp_rev (a b : BV) : a.cmp b = -(b.cmp a) := by
  rcases cmp_cases a b with ⟨e, h⟩ | ⟨e, h⟩ | ⟨e, h⟩ <;> rcases cmp_cases b a with ⟨e', h'⟩ | ⟨e', h'⟩ | ⟨e', h'⟩ <;> (rw [e, e']) <;> omega
theorem cmp_eq (a b : BV) : (a.cmp b == 0) = decide (a = b) := by
  rcases cmp_cases a b with ⟨e, h⟩ | ⟨e, h1, h2, h3⟩ | ⟨e, h⟩
  · rw [e, decide_eq_false]
    · rfl
    · rintro rfl; omega
  · rw [e, decide_eq_true (BV.ext' h1 h2 h3)]; rfl
  · rw [e, decide_eq_false]
    · rfl
    · rintro rfl; omega
theorem cmp_trans (a b c : BV) (h1 : a.cmp b ≤ 0) (h2 : b.cmp c ≤ 0) : a.cmp c ≤ 0 := by
  rcases cmp_cases a b with ⟨e, h⟩ | ⟨e, h⟩ | ⟨e, h⟩ <;> rcases cmp_cases b c with ⟨e', h'⟩ | ⟨e', h'⟩ | ⟨e', h'⟩ <;> rcases cmp_cases a c with ⟨e2, h2⟩ | ⟨e2, h2⟩ | ⟨e2, h2⟩ <;> omega
theorem cmp_zero {b : BV} (h : b.may = true) : BV.cmp ⟨0, 0, 0⟩ b = -1 := by
  refine cmp_lt ?_
  simp only [BV.may, count, Bool.and_eq_true, decide_eq_true_eq] at h
  show (0 : Int) < b.r
  omega
/-- Next of three ballots that were put side by side -/
theorem next_three (n i : Int) (q x y : BV) (hq : q.ok) (hx : x.ok) (hy : y.ok) (W : World) (g : Nat) (hg : W.heap[g]? = some (.cells #[.int .u64 q.r, .int .i64 q.n, .int .u64 q.i, .int .u64 x.r, .int .i64 x.n, .int .u64 x.i, .int .u64 y.r, .int .i64 y.n, .int .u64 y.i] 24 (0, 0))) :
    Calls Try.prog 18 #[.int .i64 n, .int .u64 i, .slice (some ⟨g, 0, none⟩) 3 3] W fun e w' => e = .returned (.tuple #[(next n i [q, x, y]).1.val, .int .i64 (next n i [q, x, y]).2]) ∧ Below W.heap.size W w' :=
  next_any n i _ [q, x, y] _ (BsAt.blk (l := [q, x, y]) hg (by simp) (fun u hu => by
      simp only [List.mem_cons, List.not_mem_nil, or_false] at hu
      rcases hu with rfl | rfl | rfl
      · exact hq
      · exact hx
      · exact hy) (fun j u r hj hr => by
      have hjl := (List.getElem?_eq_some_iff.1 hj).1
      simp only [List.length_cons, List.length_nil] at hjl
      rcases (show j = 0 ∨ j = 1 ∨ j = 2 by omega) with rfl | rfl | rfl
      · simp at hj; subst hj
        rcases (show r = 0 ∨ r = 1 ∨ r = 2 by omega) with rfl | rfl | rfl <;> rfl
      · simp at hj; subst hj
        rcases (show r = 0 ∨ r = 1 ∨ r = 2 by omega) with rfl | rfl | rfl <;> rfl
      · simp at hj; subst hj
        rcases (show r = 0 ∨ r = 1 ∨ r = 2 by omega) with rfl | rfl | rfl <;> rfl))
set_option maxRecDepth 100000 in
set_option maxHeartbeats 4000000 in
theorem total_any (x y z : BV) (n i : Int) (w : World) (hx : x.ok) (hy : y.ok) (hz : z.ok) :
    Calls Try.prog 6 #[x.val, y.val, z.val, .int .i64 n, .int .u64 i] w fun e w' => e = .returned (.bool true) ∧ Below w.heap.size w w' := by
  obtain ⟨W, hW⟩ : ∃ W, W = ((w.alloc (.cells #[.int .u64 x.r, .int .i64 x.n, .int .u64 x.i] 24)).alloc (.cells #[.int .u64 y.r, .int .i64 y.n, .int .u64 y.i] 24)).alloc (.cells #[.int .u64 z.r, .int .i64 z.n, .int .u64 z.i] 24) := ⟨_, rfl⟩
  have HB := Lib.hid (show Below w.heap.size w W by rw [hW]; exact (Go.Joins.below_alloc2 w _ _).alloc (Go.Joins.below_alloc2 w _ _).size _)
  have HX := Lib.hid (show Box3 W w.heap.size x ∧ Box3 W (w.heap.size + 1) y ∧ Box3 W (w.heap.size + 1 + 1) z by
    rw [hW]
    have h1 := Box3.new w x
    have h2 := Box3.new (w.alloc (.cells #[.int .u64 x.r, .int .i64 x.n, .int .u64 x.i] 24)) y
    have h3 := Box3.new ((w.alloc (.cells #[.int .u64 x.r, .int .i64 x.n, .int .u64 x.i] 24)).alloc (.cells #[.int .u64 y.r, .int .i64 y.n, .int .u64 y.i] 24)) z
    simp only [World.size_alloc] at h2 h3
    refine ⟨?_, ?_, h3⟩
    · exact (h1.below (Go.Joins.below_alloc1 _ _) h1.lt).below (Go.Joins.below_alloc1 _ _) (by simp [World.size_alloc]; omega)
    · exact h2.below (Go.Joins.below_alloc1 _ _) (by simp [World.size_alloc]))
  have HC := Lib.hid (show ∀ W', On W W' → (W'.cell? ⟨w.heap.size, 0, none⟩ = some (.int .u64 x.r) ∧ W'.cell? ⟨w.heap.size, 1, none⟩ = some (.int .i64 x.n) ∧ W'.cell? ⟨w.heap.size, 2, none⟩ = some (.int .u64 x.i)) ∧ (W'.cell? ⟨w.heap.size + 1, 0, none⟩ = some (.int .u64 y.r) ∧ W'.cell? ⟨w.heap.size + 1, 1, none⟩ = some (.int .i64 y.n) ∧ W'.cell? ⟨w.heap.size + 1, 2, none⟩ = some (.int .u64 y.i)) ∧ (W'.cell? ⟨w.heap.size + 1 + 1, 0, none⟩ = some (.int .u64 z.r) ∧ W'.cell? ⟨w.heap.size + 1 + 1, 1, none⟩ = some (.int .i64 z.n) ∧ W'.cell? ⟨w.heap.size + 1 + 1, 2, none⟩ = some (.int .u64 z.i)) from fun W' hb => by
    obtain ⟨h1, h2, h3⟩ := HX.out
    have h1 := h1.below hb h1.lt
    have h2 := h2.below hb h2.lt
    have h3 := h3.below hb h3.lt
    exact ⟨⟨h1.c0, h1.c1, h1.c2⟩, ⟨h2.c0, h2.c1, h2.c2⟩, h3.c0, h3.c1, h3.c2⟩)
  have CXY := Lib.hid (cmp_any x y)
  have CYX := Lib.hid (cmp_any y x)
  have CYZ := Lib.hid (cmp_any y z)
  have CXZ := Lib.hid (cmp_any x z)
  have HN := Lib.hid (fun W g hg => next_three n i x y z hx hy hz W g hg)
  have hcs := next_cases n i [x, y, z] (by intro u hu; simp only [List.mem_cons, List.not_mem_nil, or_false] at hu; rcases hu with rfl | rfl | rfl; exact hx; exact hy; exact hz) (by simp)
  simp only [List.mem_cons, List.not_mem_nil, or_false, forall_eq_or_imp, forall_eq] at hcs
  obtain ⟨B, E, hBE⟩ : ∃ B E, next n i [x, y, z] = (B, E) := ⟨_, _, rfl⟩
  rw [hBE] at hcs HN
  have HCS := Lib.hid hcs
  have HB2 : True := trivial
  clear hBE hcs
  have e1 := cmp_rev x y
  have e2 := cmp_eq x y
  have e3 := cmp_trans x y z
  have q1 := eql24 x y
  have q2 := guard24
  dsimp only [BV.val] at q1
  have e4 := cmp_cases x y
  have e5 : -1 ≤ x.cmp y ∧ x.cmp y ≤ 1 := by omega
  clear e4
  generalize decide (x = y) = D at e2 q1
  generalize x.cmp y = cxy at *
  generalize y.cmp x = cyx at *
  generalize y.cmp z = cyz at *
  generalize x.cmp z = cxz at *
  have hr1 : (cxy != wrap64 (-cyx)) = false := by rw [show wrap64 (-cyx) = cxy from by unfold wrap64; omega]; simp
  clear e1 e5
  by_cases h1 : cxy ≤ 0
  · have d1 : decide (cxy ≤ 0) = true := by simp [h1]
    by_cases h2 : cyz ≤ 0
    · have d2 : decide (cyz ≤ 0) = true := by simp [h2]
      have d3 : decide (0 < cxz) = false := by have := e3 h1 h2; simp; omega
      clear h1 h2
      clear e3 HB2
      go_enter Try.func6, Try.ntmps6
      go_wp2_with fail
      rw [← hW]
      clear hW
      refine region_on (by kernel_rfl) (by kernel_rfl) W (Below.refl _ _) ?_
      repeat (first
        | go_big_quiet_skip
        | (go_big_quiet_want; go_big_quiet_op; (first
          | go_big_quiet_on
          | (apply Exists.intro; refine ⟨fun _ hC => ?_, ?_⟩; with_reducible (first
              | exact rfl
              | exact calls_on hC (CXY.out _)
              | exact calls_on hC (CYX.out _)
              | exact calls_on hC (CYZ.out _)
              | exact calls_on hC (CXZ.out _)
              | (have hcell := HC.out _ hC; simp only [hcell, Result.andThen]; (first | exact rfl | exact ⟨rfl, rfl⟩ | exact ⟨trivial, rfl⟩))); go_big_quiet_on))))
      refine wpQuiet_nil ?_
      intro wn hO
      clear q1 q2 e2 hr1 CXY CYX CYZ CXZ
      have hO := Lib.hid hO
      obtain ⟨⟨a0, a1, a2⟩, ⟨b0, b1, b2⟩, z0, z1, z2⟩ := HC.out wn hO.out
      cases hm : x.may
      · have CM := Lib.hid (fun W => (may_any x W).mono fun e w' h => (show e = .returned (.bool false) ∧ Below W.heap.size W w' from by rw [hm] at h; exact h))
        clear hm
        go_wp2_with (go_at_call 14; refine (CM.out _).mono ?_; rintro e wn ⟨rfl, hb⟩; have hO := Lib.hid (On.step hO.out hb); obtain ⟨⟨a0, a1, a2⟩, ⟨b0, b1, b2⟩, z0, z1, z2⟩ := HC.out wn hO.out; clear hb)
        refine (HN.out _ _ (heap_alloc_new wn _)).mono ?_
        rintro e wm ⟨rfl, hb⟩
        have hO2 : On W wm := On.step (On.step hO.out (Go.Joins.below_alloc1 wn _)) hb
        have hO5 := On.step hO2 (Go.Joins.below_alloc1 wm (.cells #[.int .u64 B.r, .int .i64 B.n, .int .u64 B.i] 24))
        have hN5 := Box3.new wm B
        clear hb hO2
        have HW5 := Lib.hid (And.intro hO5 hN5)
        have zq := fun w => eql24 ⟨0, 0, 0⟩ ⟨0, 0, 0⟩ w
        rw [decide_eq_true (rfl : (⟨0, 0, 0⟩ : BV) = ⟨0, 0, 0⟩)] at zq
        dsimp only [BV.val] at zq
        have zg := guard24
        rcases HCS.out with ⟨hBE, _⟩ | ⟨hBE, _⟩ | ⟨b', hBE, hn', hi', hmay, h1, h2, h3⟩
        · cases hBE
          go_wp2_with (go_at_call 10; refine (awake_any _).mono ?_; rintro e w1 ⟨rfl, hb1⟩; have hOF := Lib.hid (On.step HW5.out.1 hb1); clear hb1)
          go_ret
          exact ⟨rfl, HB.out.trans (Below.mono hOF.out HB.out.size)⟩
        · cases hBE
          go_wp2_with (go_at_call 10; refine (awake_any _).mono ?_; rintro e w1 ⟨rfl, hb1⟩; have hOF := Lib.hid (On.step HW5.out.1 hb1); clear hb1)
          go_ret
          exact ⟨rfl, HB.out.trans (Below.mono hOF.out HB.out.size)⟩
        · cases hBE
          obtain ⟨W5, hW5⟩ : ∃ W5, W5 = wm.alloc (.cells #[.int .u64 B.r, .int .i64 B.n, .int .u64 B.i] 24) := ⟨_, rfl⟩
          rw [← hW5] at HW5
          generalize hgb : wm.heap.size = gb at HW5
          have HC5 := Lib.hid (show ∀ W', On W5 W' → ((W'.cell? ⟨w.heap.size, 0, none⟩ = some (.int .u64 x.r) ∧ W'.cell? ⟨w.heap.size, 1, none⟩ = some (.int .i64 x.n) ∧ W'.cell? ⟨w.heap.size, 2, none⟩ = some (.int .u64 x.i)) ∧ (W'.cell? ⟨w.heap.size + 1, 0, none⟩ = some (.int .u64 y.r) ∧ W'.cell? ⟨w.heap.size + 1, 1, none⟩ = some (.int .i64 y.n) ∧ W'.cell? ⟨w.heap.size + 1, 2, none⟩ = some (.int .u64 y.i)) ∧ (W'.cell? ⟨w.heap.size + 1 + 1, 0, none⟩ = some (.int .u64 z.r) ∧ W'.cell? ⟨w.heap.size + 1 + 1, 1, none⟩ = some (.int .i64 z.n) ∧ W'.cell? ⟨w.heap.size + 1 + 1, 2, none⟩ = some (.int .u64 z.i))) ∧ (W'.cell? ⟨gb, 0, none⟩ = some (.int .u64 B.r) ∧ W'.cell? ⟨gb, 1, none⟩ = some (.int .i64 B.n) ∧ W'.cell? ⟨gb, 2, none⟩ = some (.int .u64 B.i)) from fun W' hb => by
            have h := HW5.out.2.below hb HW5.out.2.lt
            exact ⟨HC.out W' (On.step HW5.out.1 hb), h.c0, h.c1, h.c2⟩)
          have hq1 : (B.n == n) = true := by simp [hn']
          have hq2 : (B.i == i) = true := by simp [hi']
          have C1 := Lib.hid (fun W => (cmp_any x B W).mono fun e w' h => (show e = .returned (.int .i64 (-1)) ∧ Below W.heap.size W w' from by rw [cmp_lt h1] at h; exact h))
          have C2 := Lib.hid (fun W => (cmp_any y B W).mono fun e w' h => (show e = .returned (.int .i64 (-1)) ∧ Below W.heap.size W w' from by rw [cmp_lt h2] at h; exact h))
          have C3 := Lib.hid (fun W => (cmp_any z B W).mono fun e w' h => (show e = .returned (.int .i64 (-1)) ∧ Below W.heap.size W w' from by rw [cmp_lt h3] at h; exact h))
          have C4 := Lib.hid (fun W => (may_any B W).mono fun e w' h => (show e = .returned (.bool true) ∧ Below W.heap.size W w' from by rw [hmay] at h; exact h))
          clear h1 h2 h3 hmay hn' hi' zq
          obtain ⟨⟨⟨a0, a1, a2⟩, ⟨b0, b1, b2⟩, z0, z1, z2⟩, n0, n1, n2⟩ := HC5.out W5 (Below.refl _ _)
          have hO := Lib.hid (show On W5 W5 from Below.refl _ _)
          have K1 : True := trivial
          have K2 : True := trivial
          go_wp2_with fail
          rw [← hW5]
          clear hW5 hgb
          refine (C4.out _).mono ?_
          rintro e wn ⟨rfl, hb⟩
          have hO := Lib.hid (On.step hO.out hb)
          obtain ⟨⟨⟨a0, a1, a2⟩, ⟨b0, b1, b2⟩, z0, z1, z2⟩, n0, n1, n2⟩ := HC5.out wn hO.out
          clear hb
          go_wp2_with (first
            | (clear K1; go_at_call 16; refine (C1.out _).mono ?_; rintro e wn ⟨rfl, hb⟩; have hO := Lib.hid (On.step hO.out hb); obtain ⟨⟨⟨a0, a1, a2⟩, ⟨b0, b1, b2⟩, z0, z1, z2⟩, n0, n1, n2⟩ := HC5.out wn hO.out; clear hb)
            | (clear K2; go_at_call 16; refine (C2.out _).mono ?_; rintro e wn ⟨rfl, hb⟩; have hO := Lib.hid (On.step hO.out hb); obtain ⟨⟨⟨a0, a1, a2⟩, ⟨b0, b1, b2⟩, z0, z1, z2⟩, n0, n1, n2⟩ := HC5.out wn hO.out; clear hb)
            | (go_at_call 16; refine (C3.out _).mono ?_; rintro e wn ⟨rfl, hb⟩; have hO := Lib.hid (On.step hO.out hb); obtain ⟨⟨⟨a0, a1, a2⟩, ⟨b0, b1, b2⟩, z0, z1, z2⟩, n0, n1, n2⟩ := HC5.out wn hO.out; clear hb)
            | (go_at_call 10; refine (awake_any _).mono ?_; rintro e wn ⟨rfl, hb⟩; have hOF := Lib.hid (On.step hO.out hb); clear hb))
          go_ret
          exact ⟨rfl, HB.out.trans (Below.mono (On.step HW5.out.1 hOF.out) HB.out.size)⟩
      · have CM := Lib.hid (fun W => (may_any x W).mono fun e w' h => (show e = .returned (.bool true) ∧ Below W.heap.size W w' from by rw [hm] at h; exact h))
        have CZ := Lib.hid (fun W => (cmp_any ⟨0, 0, 0⟩ x W).mono fun e w' h => (show e = .returned (.int .i64 (-1)) ∧ Below W.heap.size W w' from by rw [cmp_zero hm] at h; exact h))
        clear hm
        go_wp2_with (first | (go_at_call 14; refine (CM.out _).mono ?_; rintro e wn ⟨rfl, hb⟩; have hO := Lib.hid (On.step hO.out hb); obtain ⟨⟨a0, a1, a2⟩, ⟨b0, b1, b2⟩, z0, z1, z2⟩ := HC.out wn hO.out; clear hb) | (go_at_call 16; refine (CZ.out _).mono ?_; rintro e wn ⟨rfl, hb⟩; have hO := Lib.hid (On.step hO.out hb); obtain ⟨⟨a0, a1, a2⟩, ⟨b0, b1, b2⟩, z0, z1, z2⟩ := HC.out wn hO.out; clear hb))
        refine (HN.out _ _ (heap_alloc_new wn _)).mono ?_
        rintro e wm ⟨rfl, hb⟩
        have hO2 : On W wm := On.step (On.step hO.out (Go.Joins.below_alloc1 wn _)) hb
        have hO5 := On.step hO2 (Go.Joins.below_alloc1 wm (.cells #[.int .u64 B.r, .int .i64 B.n, .int .u64 B.i] 24))
        have hN5 := Box3.new wm B
        clear hb hO2
        have HW5 := Lib.hid (And.intro hO5 hN5)
        have zq := fun w => eql24 ⟨0, 0, 0⟩ ⟨0, 0, 0⟩ w
        rw [decide_eq_true (rfl : (⟨0, 0, 0⟩ : BV) = ⟨0, 0, 0⟩)] at zq
        dsimp only [BV.val] at zq
        have zg := guard24
        rcases HCS.out with ⟨hBE, _⟩ | ⟨hBE, _⟩ | ⟨b', hBE, hn', hi', hmay, h1, h2, h3⟩
        · cases hBE
          go_wp2_with (go_at_call 10; refine (awake_any _).mono ?_; rintro e w1 ⟨rfl, hb1⟩; have hOF := Lib.hid (On.step HW5.out.1 hb1); clear hb1)
          go_ret
          exact ⟨rfl, HB.out.trans (Below.mono hOF.out HB.out.size)⟩
        · cases hBE
          go_wp2_with (go_at_call 10; refine (awake_any _).mono ?_; rintro e w1 ⟨rfl, hb1⟩; have hOF := Lib.hid (On.step HW5.out.1 hb1); clear hb1)
          go_ret
          exact ⟨rfl, HB.out.trans (Below.mono hOF.out HB.out.size)⟩
        · cases hBE
          obtain ⟨W5, hW5⟩ : ∃ W5, W5 = wm.alloc (.cells #[.int .u64 B.r, .int .i64 B.n, .int .u64 B.i] 24) := ⟨_, rfl⟩
          rw [← hW5] at HW5
          generalize hgb : wm.heap.size = gb at HW5
          have HC5 := Lib.hid (show ∀ W', On W5 W' → ((W'.cell? ⟨w.heap.size, 0, none⟩ = some (.int .u64 x.r) ∧ W'.cell? ⟨w.heap.size, 1, none⟩ = some (.int .i64 x.n) ∧ W'.cell? ⟨w.heap.size, 2, none⟩ = some (.int .u64 x.i)) ∧ (W'.cell? ⟨w.heap.size + 1, 0, none⟩ = some (.int .u64 y.r) ∧ W'.cell? ⟨w.heap.size + 1, 1, none⟩ = some (.int .i64 y.n) ∧ W'.cell? ⟨w.heap.size + 1, 2, none⟩ = some (.int .u64 y.i)) ∧ (W'.cell? ⟨w.heap.size + 1 + 1, 0, none⟩ = some (.int .u64 z.r) ∧ W'.cell? ⟨w.heap.size + 1 + 1, 1, none⟩ = some (.int .i64 z.n) ∧ W'.cell? ⟨w.heap.size + 1 + 1, 2, none⟩ = some (.int .u64 z.i))) ∧ (W'.cell? ⟨gb, 0, none⟩ = some (.int .u64 B.r) ∧ W'.cell? ⟨gb, 1, none⟩ = some (.int .i64 B.n) ∧ W'.cell? ⟨gb, 2, none⟩ = some (.int .u64 B.i)) from fun W' hb => by
            have h := HW5.out.2.below hb HW5.out.2.lt
            exact ⟨HC.out W' (On.step HW5.out.1 hb), h.c0, h.c1, h.c2⟩)
          have hq1 : (B.n == n) = true := by simp [hn']
          have hq2 : (B.i == i) = true := by simp [hi']
          have C1 := Lib.hid (fun W => (cmp_any x B W).mono fun e w' h => (show e = .returned (.int .i64 (-1)) ∧ Below W.heap.size W w' from by rw [cmp_lt h1] at h; exact h))
          have C2 := Lib.hid (fun W => (cmp_any y B W).mono fun e w' h => (show e = .returned (.int .i64 (-1)) ∧ Below W.heap.size W w' from by rw [cmp_lt h2] at h; exact h))
          have C3 := Lib.hid (fun W => (cmp_any z B W).mono fun e w' h => (show e = .returned (.int .i64 (-1)) ∧ Below W.heap.size W w' from by rw [cmp_lt h3] at h; exact h))
          have C4 := Lib.hid (fun W => (may_any B W).mono fun e w' h => (show e = .returned (.bool true) ∧ Below W.heap.size W w' from by rw [hmay] at h; exact h))
          clear h1 h2 h3 hmay hn' hi' zq
          obtain ⟨⟨⟨a0, a1, a2⟩, ⟨b0, b1, b2⟩, z0, z1, z2⟩, n0, n1, n2⟩ := HC5.out W5 (Below.refl _ _)
          have hO := Lib.hid (show On W5 W5 from Below.refl _ _)
          have K1 : True := trivial
          have K2 : True := trivial
          go_wp2_with fail
          rw [← hW5]
          clear hW5 hgb
          refine (C4.out _).mono ?_
          rintro e wn ⟨rfl, hb⟩
          have hO := Lib.hid (On.step hO.out hb)
          obtain ⟨⟨⟨a0, a1, a2⟩, ⟨b0, b1, b2⟩, z0, z1, z2⟩, n0, n1, n2⟩ := HC5.out wn hO.out
          clear hb
          go_wp2_with (first
            | (clear K1; go_at_call 16; refine (C1.out _).mono ?_; rintro e wn ⟨rfl, hb⟩; have hO := Lib.hid (On.step hO.out hb); obtain ⟨⟨⟨a0, a1, a2⟩, ⟨b0, b1, b2⟩, z0, z1, z2⟩, n0, n1, n2⟩ := HC5.out wn hO.out; clear hb)
            | (clear K2; go_at_call 16; refine (C2.out _).mono ?_; rintro e wn ⟨rfl, hb⟩; have hO := Lib.hid (On.step hO.out hb); obtain ⟨⟨⟨a0, a1, a2⟩, ⟨b0, b1, b2⟩, z0, z1, z2⟩, n0, n1, n2⟩ := HC5.out wn hO.out; clear hb)
            | (go_at_call 16; refine (C3.out _).mono ?_; rintro e wn ⟨rfl, hb⟩; have hO := Lib.hid (On.step hO.out hb); obtain ⟨⟨⟨a0, a1, a2⟩, ⟨b0, b1, b2⟩, z0, z1, z2⟩, n0, n1, n2⟩ := HC5.out wn hO.out; clear hb)
            | (go_at_call 10; refine (awake_any _).mono ?_; rintro e wn ⟨rfl, hb⟩; have hOF := Lib.hid (On.step hO.out hb); clear hb))
          go_ret
          exact ⟨rfl, HB.out.trans (Below.mono (On.step HW5.out.1 hOF.out) HB.out.size)⟩
    · have d2 : decide (cyz ≤ 0) = false := by simp; omega
      clear h1 h2
      clear e3 HB2
      go_enter Try.func6, Try.ntmps6
      go_wp2_with fail
      rw [← hW]
      clear hW
      refine region_on (by kernel_rfl) (by kernel_rfl) W (Below.refl _ _) ?_
      repeat (first
        | go_big_quiet_skip
        | (go_big_quiet_want; go_big_quiet_op; (first
          | go_big_quiet_on
          | (apply Exists.intro; refine ⟨fun _ hC => ?_, ?_⟩; with_reducible (first
              | exact rfl
              | exact calls_on hC (CXY.out _)
              | exact calls_on hC (CYX.out _)
              | exact calls_on hC (CYZ.out _)
              | exact calls_on hC (CXZ.out _)
              | (have hcell := HC.out _ hC; simp only [hcell, Result.andThen]; (first | exact rfl | exact ⟨rfl, rfl⟩ | exact ⟨trivial, rfl⟩))); go_big_quiet_on))))
      refine wpQuiet_nil ?_
      intro wn hO
      clear q1 q2 e2 hr1 CXY CYX CYZ CXZ
      have hO := Lib.hid hO
      obtain ⟨⟨a0, a1, a2⟩, ⟨b0, b1, b2⟩, z0, z1, z2⟩ := HC.out wn hO.out
      cases hm : x.may
      · have CM := Lib.hid (fun W => (may_any x W).mono fun e w' h => (show e = .returned (.bool false) ∧ Below W.heap.size W w' from by rw [hm] at h; exact h))
        clear hm
        go_wp2_with (go_at_call 14; refine (CM.out _).mono ?_; rintro e wn ⟨rfl, hb⟩; have hO := Lib.hid (On.step hO.out hb); obtain ⟨⟨a0, a1, a2⟩, ⟨b0, b1, b2⟩, z0, z1, z2⟩ := HC.out wn hO.out; clear hb)
        refine (HN.out _ _ (heap_alloc_new wn _)).mono ?_
        rintro e wm ⟨rfl, hb⟩
        have hO2 : On W wm := On.step (On.step hO.out (Go.Joins.below_alloc1 wn _)) hb
        have hO5 := On.step hO2 (Go.Joins.below_alloc1 wm (.cells #[.int .u64 B.r, .int .i64 B.n, .int .u64 B.i] 24))
        have hN5 := Box3.new wm B
        clear hb hO2
        have HW5 := Lib.hid (And.intro hO5 hN5)
        have zq := fun w => eql24 ⟨0, 0, 0⟩ ⟨0, 0, 0⟩ w
        rw [decide_eq_true (rfl : (⟨0, 0, 0⟩ : BV) = ⟨0, 0, 0⟩)] at zq
        dsimp only [BV.val] at zq
        have zg := guard24
        rcases HCS.out with ⟨hBE, _⟩ | ⟨hBE, _⟩ | ⟨b', hBE, hn', hi', hmay, h1, h2, h3⟩
        · cases hBE
          go_wp2_with (go_at_call 10; refine (awake_any _).mono ?_; rintro e w1 ⟨rfl, hb1⟩; have hOF := Lib.hid (On.step HW5.out.1 hb1); clear hb1)
          go_ret
          exact ⟨rfl, HB.out.trans (Below.mono hOF.out HB.out.size)⟩
        · cases hBE
          go_wp2_with (go_at_call 10; refine (awake_any _).mono ?_; rintro e w1 ⟨rfl, hb1⟩; have hOF := Lib.hid (On.step HW5.out.1 hb1); clear hb1)
          go_ret
          exact ⟨rfl, HB.out.trans (Below.mono hOF.out HB.out.size)⟩
        · cases hBE
          obtain ⟨W5, hW5⟩ : ∃ W5, W5 = wm.alloc (.cells #[.int .u64 B.r, .int .i64 B.n, .int .u64 B.i] 24) := ⟨_, rfl⟩
          rw [← hW5] at HW5
          generalize hgb : wm.heap.size = gb at HW5
          have HC5 := Lib.hid (show ∀ W', On W5 W' → ((W'.cell? ⟨w.heap.size, 0, none⟩ = some (.int .u64 x.r) ∧ W'.cell? ⟨w.heap.size, 1, none⟩ = some (.int .i64 x.n) ∧ W'.cell? ⟨w.heap.size, 2, none⟩ = some (.int .u64 x.i)) ∧ (W'.cell? ⟨w.heap.size + 1, 0, none⟩ = some (.int .u64 y.r) ∧ W'.cell? ⟨w.heap.size + 1, 1, none⟩ = some (.int .i64 y.n) ∧ W'.cell? ⟨w.heap.size + 1, 2, none⟩ = some (.int .u64 y.i)) ∧ (W'.cell? ⟨w.heap.size + 1 + 1, 0, none⟩ = some (.int .u64 z.r) ∧ W'.cell? ⟨w.heap.size + 1 + 1, 1, none⟩ = some (.int .i64 z.n) ∧ W'.cell? ⟨w.heap.size + 1 + 1, 2, none⟩ = some (.int .u64 z.i))) ∧ (W'.cell? ⟨gb, 0, none⟩ = some (.int .u64 B.r) ∧ W'.cell? ⟨gb, 1, none⟩ = some (.int .i64 B.n) ∧ W'.cell? ⟨gb, 2, none⟩ = some (.int .u64 B.i)) from fun W' hb => by
            have h := HW5.out.2.below hb HW5.out.2.lt
            exact ⟨HC.out W' (On.step HW5.out.1 hb), h.c0, h.c1, h.c2⟩)
          have hq1 : (B.n == n) = true := by simp [hn']
          have hq2 : (B.i == i) = true := by simp [hi']
          have C1 := Lib.hid (fun W => (cmp_any x B W).mono fun e w' h => (show e = .returned (.int .i64 (-1)) ∧ Below W.heap.size W w' from by rw [cmp_lt h1] at h; exact h))
          have C2 := Lib.hid (fun W => (cmp_any y B W).mono fun e w' h => (show e = .returned (.int .i64 (-1)) ∧ Below W.heap.size W w' from by rw [cmp_lt h2] at h; exact h))
          have C3 := Lib.hid (fun W => (cmp_any z B W).mono fun e w' h => (show e = .returned (.int .i64 (-1)) ∧ Below W.heap.size W w' from by rw [cmp_lt h3] at h; exact h))
          have C4 := Lib.hid (fun W => (may_any B W).mono fun e w' h => (show e = .returned (.bool true) ∧ Below W.heap.size W w' from by rw [hmay] at h; exact h))
          clear h1 h2 h3 hmay hn' hi' zq
          obtain ⟨⟨⟨a0, a1, a2⟩, ⟨b0, b1, b2⟩, z0, z1, z2⟩, n0, n1, n2⟩ := HC5.out W5 (Below.refl _ _)
          have hO := Lib.hid (show On W5 W5 from Below.refl _ _)
          have K1 : True := trivial
          have K2 : True := trivial
          go_wp2_with fail
          rw [← hW5]
          clear hW5 hgb
          refine (C4.out _).mono ?_
          rintro e wn ⟨rfl, hb⟩
          have hO := Lib.hid (On.step hO.out hb)
          obtain ⟨⟨⟨a0, a1, a2⟩, ⟨b0, b1, b2⟩, z0, z1, z2⟩, n0, n1, n2⟩ := HC5.out wn hO.out
          clear hb
          go_wp2_with (first
            | (clear K1; go_at_call 16; refine (C1.out _).mono ?_; rintro e wn ⟨rfl, hb⟩; have hO := Lib.hid (On.step hO.out hb); obtain ⟨⟨⟨a0, a1, a2⟩, ⟨b0, b1, b2⟩, z0, z1, z2⟩, n0, n1, n2⟩ := HC5.out wn hO.out; clear hb)
            | (clear K2; go_at_call 16; refine (C2.out _).mono ?_; rintro e wn ⟨rfl, hb⟩; have hO := Lib.hid (On.step hO.out hb); obtain ⟨⟨⟨a0, a1, a2⟩, ⟨b0, b1, b2⟩, z0, z1, z2⟩, n0, n1, n2⟩ := HC5.out wn hO.out; clear hb)
            | (go_at_call 16; refine (C3.out _).mono ?_; rintro e wn ⟨rfl, hb⟩; have hO := Lib.hid (On.step hO.out hb); obtain ⟨⟨⟨a0, a1, a2⟩, ⟨b0, b1, b2⟩, z0, z1, z2⟩, n0, n1, n2⟩ := HC5.out wn hO.out; clear hb)
            | (go_at_call 10; refine (awake_any _).mono ?_; rintro e wn ⟨rfl, hb⟩; have hOF := Lib.hid (On.step hO.out hb); clear hb))
          go_ret
          exact ⟨rfl, HB.out.trans (Below.mono (On.step HW5.out.1 hOF.out) HB.out.size)⟩
      · have CM := Lib.hid (fun W => (may_any x W).mono fun e w' h => (show e = .returned (.bool true) ∧ Below W.heap.size W w' from by rw [hm] at h; exact h))
        have CZ := Lib.hid (fun W => (cmp_any ⟨0, 0, 0⟩ x W).mono fun e w' h => (show e = .returned (.int .i64 (-1)) ∧ Below W.heap.size W w' from by rw [cmp_zero hm] at h; exact h))
        clear hm
        go_wp2_with (first | (go_at_call 14; refine (CM.out _).mono ?_; rintro e wn ⟨rfl, hb⟩; have hO := Lib.hid (On.step hO.out hb); obtain ⟨⟨a0, a1, a2⟩, ⟨b0, b1, b2⟩, z0, z1, z2⟩ := HC.out wn hO.out; clear hb) | (go_at_call 16; refine (CZ.out _).mono ?_; rintro e wn ⟨rfl, hb⟩; have hO := Lib.hid (On.step hO.out hb); obtain ⟨⟨a0, a1, a2⟩, ⟨b0, b1, b2⟩, z0, z1, z2⟩ := HC.out wn hO.out; clear hb))
        refine (HN.out _ _ (heap_alloc_new wn _)).mono ?_
        rintro e wm ⟨rfl, hb⟩
        have hO2 : On W wm := On.step (On.step hO.out (Go.Joins.below_alloc1 wn _)) hb
        have hO5 := On.step hO2 (Go.Joins.below_alloc1 wm (.cells #[.int .u64 B.r, .int .i64 B.n, .int .u64 B.i] 24))
        have hN5 := Box3.new wm B
        clear hb hO2
        have HW5 := Lib.hid (And.intro hO5 hN5)
        have zq := fun w => eql24 ⟨0, 0, 0⟩ ⟨0, 0, 0⟩ w
        rw [decide_eq_true (rfl : (⟨0, 0, 0⟩ : BV) = ⟨0, 0, 0⟩)] at zq
        dsimp only [BV.val] at zq
        have zg := guard24
        rcases HCS.out with ⟨hBE, _⟩ | ⟨hBE, _⟩ | ⟨b', hBE, hn', hi', hmay, h1, h2, h3⟩
        · cases hBE
          go_wp2_with (go_at_call 10; refine (awake_any _).mono ?_; rintro e w1 ⟨rfl, hb1⟩; have hOF := Lib.hid (On.step HW5.out.1 hb1); clear hb1)
          go_ret
          exact ⟨rfl, HB.out.trans (Below.mono hOF.out HB.out.size)⟩
        · cases hBE
          go_wp2_with (go_at_call 10; refine (awake_any _).mono ?_; rintro e w1 ⟨rfl, hb1⟩; have hOF := Lib.hid (On.step HW5.out.1 hb1); clear hb1)
          go_ret
          exact ⟨rfl, HB.out.trans (Below.mono hOF.out HB.out.size)⟩
        · cases hBE
          obtain ⟨W5, hW5⟩ : ∃ W5, W5 = wm.alloc (.cells #[.int .u64 B.r, .int .i64 B.n, .int .u64 B.i] 24) := ⟨_, rfl⟩
          rw [← hW5] at HW5
          generalize hgb : wm.heap.size = gb at HW5
          have HC5 := Lib.hid (show ∀ W', On W5 W' → ((W'.cell? ⟨w.heap.size, 0, none⟩ = some (.int .u64 x.r) ∧ W'.cell? ⟨w.heap.size, 1, none⟩ = some (.int .i64 x.n) ∧ W'.cell? ⟨w.heap.size, 2, none⟩ = some (.int .u64 x.i)) ∧ (W'.cell? ⟨w.heap.size + 1, 0, none⟩ = some (.int .u64 y.r) ∧ W'.cell? ⟨w.heap.size + 1, 1, none⟩ = some (.int .i64 y.n) ∧ W'.cell? ⟨w.heap.size + 1, 2, none⟩ = some (.int .u64 y.i)) ∧ (W'.cell? ⟨w.heap.size + 1 + 1, 0, none⟩ = some (.int .u64 z.r) ∧ W'.cell? ⟨w.heap.size + 1 + 1, 1, none⟩ = some (.int .i64 z.n) ∧ W'.cell? ⟨w.heap.size + 1 + 1, 2, none⟩ = some (.int .u64 z.i))) ∧ (W'.cell? ⟨gb, 0, none⟩ = some (.int .u64 B.r) ∧ W'.cell? ⟨gb, 1, none⟩ = some (.int .i64 B.n) ∧ W'.cell? ⟨gb, 2, none⟩ = some (.int .u64 B.i)) from fun W' hb => by
            have h := HW5.out.2.below hb HW5.out.2.lt
            exact ⟨HC.out W' (On.step HW5.out.1 hb), h.c0, h.c1, h.c2⟩)
          have hq1 : (B.n == n) = true := by simp [hn']
          have hq2 : (B.i == i) = true := by simp [hi']
          have C1 := Lib.hid (fun W => (cmp_any x B W).mono fun e w' h => (show e = .returned (.int .i64 (-1)) ∧ Below W.heap.size W w' from by rw [cmp_lt h1] at h; exact h))
          have C2 := Lib.hid (fun W => (cmp_any y B W).mono fun e w' h => (show e = .returned (.int .i64 (-1)) ∧ Below W.heap.size W w' from by rw [cmp_lt h2] at h; exact h))
          have C3 := Lib.hid (fun W => (cmp_any z B W).mono fun e w' h => (show e = .returned (.int .i64 (-1)) ∧ Below W.heap.size W w' from by rw [cmp_lt h3] at h; exact h))
          have C4 := Lib.hid (fun W => (may_any B W).mono fun e w' h => (show e = .returned (.bool true) ∧ Below W.heap.size W w' from by rw [hmay] at h; exact h))
          clear h1 h2 h3 hmay hn' hi' zq
          obtain ⟨⟨⟨a0, a1, a2⟩, ⟨b0, b1, b2⟩, z0, z1, z2⟩, n0, n1, n2⟩ := HC5.out W5 (Below.refl _ _)
          have hO := Lib.hid (show On W5 W5 from Below.refl _ _)
          have K1 : True := trivial
          have K2 : True := trivial
          go_wp2_with fail
          rw [← hW5]
          clear hW5 hgb
          refine (C4.out _).mono ?_
          rintro e wn ⟨rfl, hb⟩
          have hO := Lib.hid (On.step hO.out hb)
          obtain ⟨⟨⟨a0, a1, a2⟩, ⟨b0, b1, b2⟩, z0, z1, z2⟩, n0, n1, n2⟩ := HC5.out wn hO.out
          clear hb
          go_wp2_with (first
            | (clear K1; go_at_call 16; refine (C1.out _).mono ?_; rintro e wn ⟨rfl, hb⟩; have hO := Lib.hid (On.step hO.out hb); obtain ⟨⟨⟨a0, a1, a2⟩, ⟨b0, b1, b2⟩, z0, z1, z2⟩, n0, n1, n2⟩ := HC5.out wn hO.out; clear hb)
            | (clear K2; go_at_call 16; refine (C2.out _).mono ?_; rintro e wn ⟨rfl, hb⟩; have hO := Lib.hid (On.step hO.out hb); obtain ⟨⟨⟨a0, a1, a2⟩, ⟨b0, b1, b2⟩, z0, z1, z2⟩, n0, n1, n2⟩ := HC5.out wn hO.out; clear hb)
            | (go_at_call 16; refine (C3.out _).mono ?_; rintro e wn ⟨rfl, hb⟩; have hO := Lib.hid (On.step hO.out hb); obtain ⟨⟨⟨a0, a1, a2⟩, ⟨b0, b1, b2⟩, z0, z1, z2⟩, n0, n1, n2⟩ := HC5.out wn hO.out; clear hb)
            | (go_at_call 10; refine (awake_any _).mono ?_; rintro e wn ⟨rfl, hb⟩; have hOF := Lib.hid (On.step hO.out hb); clear hb))
          go_ret
          exact ⟨rfl, HB.out.trans (Below.mono (On.step HW5.out.1 hOF.out) HB.out.size)⟩
  · have d1 : decide (cxy ≤ 0) = false := by simp; omega
    clear h1
    clear e3 HB2
    go_enter Try.func6, Try.ntmps6
    go_wp2_with fail
    rw [← hW]
    clear hW
    refine region_on (by kernel_rfl) (by kernel_rfl) W (Below.refl _ _) ?_
    repeat (first
      | go_big_quiet_skip
      | (go_big_quiet_want; go_big_quiet_op; (first
        | go_big_quiet_on
        | (apply Exists.intro; refine ⟨fun _ hC => ?_, ?_⟩; with_reducible (first
            | exact rfl
            | exact calls_on hC (CXY.out _)
            | exact calls_on hC (CYX.out _)
            | exact calls_on hC (CYZ.out _)
            | exact calls_on hC (CXZ.out _)
            | (have hcell := HC.out _ hC; simp only [hcell, Result.andThen]; (first | exact rfl | exact ⟨rfl, rfl⟩ | exact ⟨trivial, rfl⟩))); go_big_quiet_on))))
    refine wpQuiet_nil ?_
    intro wn hO
    clear q1 q2 e2 hr1 CXY CYX CYZ CXZ
    have hO := Lib.hid hO
    obtain ⟨⟨a0, a1, a2⟩, ⟨b0, b1, b2⟩, z0, z1, z2⟩ := HC.out wn hO.out
    cases hm : x.may
    · have CM := Lib.hid (fun W => (may_any x W).mono fun e w' h => (show e = .returned (.bool false) ∧ Below W.heap.size W w' from by rw [hm] at h; exact h))
      clear hm
      go_wp2_with (go_at_call 14; refine (CM.out _).mono ?_; rintro e wn ⟨rfl, hb⟩; have hO := Lib.hid (On.step hO.out hb); obtain ⟨⟨a0, a1, a2⟩, ⟨b0, b1, b2⟩, z0, z1, z2⟩ := HC.out wn hO.out; clear hb)
      refine (HN.out _ _ (heap_alloc_new wn _)).mono ?_
      rintro e wm ⟨rfl, hb⟩
      have hO2 : On W wm := On.step (On.step hO.out (Go.Joins.below_alloc1 wn _)) hb
      have hO5 := On.step hO2 (Go.Joins.below_alloc1 wm (.cells #[.int .u64 B.r, .int .i64 B.n, .int .u64 B.i] 24))
      have hN5 := Box3.new wm B
      clear hb hO2
      have HW5 := Lib.hid (And.intro hO5 hN5)
      have zq := fun w => eql24 ⟨0, 0, 0⟩ ⟨0, 0, 0⟩ w
      rw [decide_eq_true (rfl : (⟨0, 0, 0⟩ : BV) = ⟨0, 0, 0⟩)] at zq
      dsimp only [BV.val] at zq
      have zg := guard24
      rcases HCS.out with ⟨hBE, _⟩ | ⟨hBE, _⟩ | ⟨b', hBE, hn', hi', hmay, h1, h2, h3⟩
      · cases hBE
        go_wp2_with (go_at_call 10; refine (awake_any _).mono ?_; rintro e w1 ⟨rfl, hb1⟩; have hOF := Lib.hid (On.step HW5.out.1 hb1); clear hb1)
        go_ret
        exact ⟨rfl, HB.out.trans (Below.mono hOF.out HB.out.size)⟩
      · cases hBE
        go_wp2_with (go_at_call 10; refine (awake_any _).mono ?_; rintro e w1 ⟨rfl, hb1⟩; have hOF := Lib.hid (On.step HW5.out.1 hb1); clear hb1)
        go_ret
        exact ⟨rfl, HB.out.trans (Below.mono hOF.out HB.out.size)⟩
      · cases hBE
        obtain ⟨W5, hW5⟩ : ∃ W5, W5 = wm.alloc (.cells #[.int .u64 B.r, .int .i64 B.n, .int .u64 B.i] 24) := ⟨_, rfl⟩
        rw [← hW5] at HW5
        generalize hgb : wm.heap.size = gb at HW5
        have HC5 := Lib.hid (show ∀ W', On W5 W' → ((W'.cell? ⟨w.heap.size, 0, none⟩ = some (.int .u64 x.r) ∧ W'.cell? ⟨w.heap.size, 1, none⟩ = some (.int .i64 x.n) ∧ W'.cell? ⟨w.heap.size, 2, none⟩ = some (.int .u64 x.i)) ∧ (W'.cell? ⟨w.heap.size + 1, 0, none⟩ = some (.int .u64 y.r) ∧ W'.cell? ⟨w.heap.size + 1, 1, none⟩ = some (.int .i64 y.n) ∧ W'.cell? ⟨w.heap.size + 1, 2, none⟩ = some (.int .u64 y.i)) ∧ (W'.cell? ⟨w.heap.size + 1 + 1, 0, none⟩ = some (.int .u64 z.r) ∧ W'.cell? ⟨w.heap.size + 1 + 1, 1, none⟩ = some (.int .i64 z.n) ∧ W'.cell? ⟨w.heap.size + 1 + 1, 2, none⟩ = some (.int .u64 z.i))) ∧ (W'.cell? ⟨gb, 0, none⟩ = some (.int .u64 B.r) ∧ W'.cell? ⟨gb, 1, none⟩ = some (.int .i64 B.n) ∧ W'.cell? ⟨gb, 2, none⟩ = some (.int .u64 B.i)) from fun W' hb => by
          have h := HW5.out.2.below hb HW5.out.2.lt
          exact ⟨HC.out W' (On.step HW5.out.1 hb), h.c0, h.c1, h.c2⟩)
        have hq1 : (B.n == n) = true := by simp [hn']
        have hq2 : (B.i == i) = true := by simp [hi']
        have C1 := Lib.hid (fun W => (cmp_any x B W).mono fun e w' h => (show e = .returned (.int .i64 (-1)) ∧ Below W.heap.size W w' from by rw [cmp_lt h1] at h; exact h))
        have C2 := Lib.hid (fun W => (cmp_any y B W).mono fun e w' h => (show e = .returned (.int .i64 (-1)) ∧ Below W.heap.size W w' from by rw [cmp_lt h2] at h; exact h))
        have C3 := Lib.hid (fun W => (cmp_any z B W).mono fun e w' h => (show e = .returned (.int .i64 (-1)) ∧ Below W.heap.size W w' from by rw [cmp_lt h3] at h; exact h))
        have C4 := Lib.hid (fun W => (may_any B W).mono fun e w' h => (show e = .returned (.bool true) ∧ Below W.heap.size W w' from by rw [hmay] at h; exact h))
        clear h1 h2 h3 hmay hn' hi' zq
        obtain ⟨⟨⟨a0, a1, a2⟩, ⟨b0, b1, b2⟩, z0, z1, z2⟩, n0, n1, n2⟩ := HC5.out W5 (Below.refl _ _)
        have hO := Lib.hid (show On W5 W5 from Below.refl _ _)
        have K1 : True := trivial
        have K2 : True := trivial
        go_wp2_with fail
        rw [← hW5]
        clear hW5 hgb
        refine (C4.out _).mono ?_
        rintro e wn ⟨rfl, hb⟩
        have hO := Lib.hid (On.step hO.out hb)
        obtain ⟨⟨⟨a0, a1, a2⟩, ⟨b0, b1, b2⟩, z0, z1, z2⟩, n0, n1, n2⟩ := HC5.out wn hO.out
        clear hb
        go_wp2_with (first
          | (clear K1; go_at_call 16; refine (C1.out _).mono ?_; rintro e wn ⟨rfl, hb⟩; have hO := Lib.hid (On.step hO.out hb); obtain ⟨⟨⟨a0, a1, a2⟩, ⟨b0, b1, b2⟩, z0, z1, z2⟩, n0, n1, n2⟩ := HC5.out wn hO.out; clear hb)
          | (clear K2; go_at_call 16; refine (C2.out _).mono ?_; rintro e wn ⟨rfl, hb⟩; have hO := Lib.hid (On.step hO.out hb); obtain ⟨⟨⟨a0, a1, a2⟩, ⟨b0, b1, b2⟩, z0, z1, z2⟩, n0, n1, n2⟩ := HC5.out wn hO.out; clear hb)
          | (go_at_call 16; refine (C3.out _).mono ?_; rintro e wn ⟨rfl, hb⟩; have hO := Lib.hid (On.step hO.out hb); obtain ⟨⟨⟨a0, a1, a2⟩, ⟨b0, b1, b2⟩, z0, z1, z2⟩, n0, n1, n2⟩ := HC5.out wn hO.out; clear hb)
          | (go_at_call 10; refine (awake_any _).mono ?_; rintro e wn ⟨rfl, hb⟩; have hOF := Lib.hid (On.step hO.out hb); clear hb))
        go_ret
        exact ⟨rfl, HB.out.trans (Below.mono (On.step HW5.out.1 hOF.out) HB.out.size)⟩
    · have CM := Lib.hid (fun W => (may_any x W).mono fun e w' h => (show e = .returned (.bool true) ∧ Below W.heap.size W w' from by rw [hm] at h; exact h))
      have CZ := Lib.hid (fun W => (cmp_any ⟨0, 0, 0⟩ x W).mono fun e w' h => (show e = .returned (.int .i64 (-1)) ∧ Below W.heap.size W w' from by rw [cmp_zero hm] at h; exact h))
      clear hm
      go_wp2_with (first | (go_at_call 14; refine (CM.out _).mono ?_; rintro e wn ⟨rfl, hb⟩; have hO := Lib.hid (On.step hO.out hb); obtain ⟨⟨a0, a1, a2⟩, ⟨b0, b1, b2⟩, z0, z1, z2⟩ := HC.out wn hO.out; clear hb) | (go_at_call 16; refine (CZ.out _).mono ?_; rintro e wn ⟨rfl, hb⟩; have hO := Lib.hid (On.step hO.out hb); obtain ⟨⟨a0, a1, a2⟩, ⟨b0, b1, b2⟩, z0, z1, z2⟩ := HC.out wn hO.out; clear hb))
      refine (HN.out _ _ (heap_alloc_new wn _)).mono ?_
      rintro e wm ⟨rfl, hb⟩
      have hO2 : On W wm := On.step (On.step hO.out (Go.Joins.below_alloc1 wn _)) hb
      have hO5 := On.step hO2 (Go.Joins.below_alloc1 wm (.cells #[.int .u64 B.r, .int .i64 B.n, .int .u64 B.i] 24))
      have hN5 := Box3.new wm B
      clear hb hO2
      have HW5 := Lib.hid (And.intro hO5 hN5)
      have zq := fun w => eql24 ⟨0, 0, 0⟩ ⟨0, 0, 0⟩ w
      rw [decide_eq_true (rfl : (⟨0, 0, 0⟩ : BV) = ⟨0, 0, 0⟩)] at zq
      dsimp only [BV.val] at zq
      have zg := guard24
      rcases HCS.out with ⟨hBE, _⟩ | ⟨hBE, _⟩ | ⟨b', hBE, hn', hi', hmay, h1, h2, h3⟩
      · cases hBE
        go_wp2_with (go_at_call 10; refine (awake_any _).mono ?_; rintro e w1 ⟨rfl, hb1⟩; have hOF := Lib.hid (On.step HW5.out.1 hb1); clear hb1)
        go_ret
        exact ⟨rfl, HB.out.trans (Below.mono hOF.out HB.out.size)⟩
      · cases hBE
        go_wp2_with (go_at_call 10; refine (awake_any _).mono ?_; rintro e w1 ⟨rfl, hb1⟩; have hOF := Lib.hid (On.step HW5.out.1 hb1); clear hb1)
        go_ret
        exact ⟨rfl, HB.out.trans (Below.mono hOF.out HB.out.size)⟩
      · cases hBE
        obtain ⟨W5, hW5⟩ : ∃ W5, W5 = wm.alloc (.cells #[.int .u64 B.r, .int .i64 B.n, .int .u64 B.i] 24) := ⟨_, rfl⟩
        rw [← hW5] at HW5
        generalize hgb : wm.heap.size = gb at HW5
        have HC5 := Lib.hid (show ∀ W', On W5 W' → ((W'.cell? ⟨w.heap.size, 0, none⟩ = some (.int .u64 x.r) ∧ W'.cell? ⟨w.heap.size, 1, none⟩ = some (.int .i64 x.n) ∧ W'.cell? ⟨w.heap.size, 2, none⟩ = some (.int .u64 x.i)) ∧ (W'.cell? ⟨w.heap.size + 1, 0, none⟩ = some (.int .u64 y.r) ∧ W'.cell? ⟨w.heap.size + 1, 1, none⟩ = some (.int .i64 y.n) ∧ W'.cell? ⟨w.heap.size + 1, 2, none⟩ = some (.int .u64 y.i)) ∧ (W'.cell? ⟨w.heap.size + 1 + 1, 0, none⟩ = some (.int .u64 z.r) ∧ W'.cell? ⟨w.heap.size + 1 + 1, 1, none⟩ = some (.int .i64 z.n) ∧ W'.cell? ⟨w.heap.size + 1 + 1, 2, none⟩ = some (.int .u64 z.i))) ∧ (W'.cell? ⟨gb, 0, none⟩ = some (.int .u64 B.r) ∧ W'.cell? ⟨gb, 1, none⟩ = some (.int .i64 B.n) ∧ W'.cell? ⟨gb, 2, none⟩ = some (.int .u64 B.i)) from fun W' hb => by
          have h := HW5.out.2.below hb HW5.out.2.lt
          exact ⟨HC.out W' (On.step HW5.out.1 hb), h.c0, h.c1, h.c2⟩)
        have hq1 : (B.n == n) = true := by simp [hn']
        have hq2 : (B.i == i) = true := by simp [hi']
        have C1 := Lib.hid (fun W => (cmp_any x B W).mono fun e w' h => (show e = .returned (.int .i64 (-1)) ∧ Below W.heap.size W w' from by rw [cmp_lt h1] at h; exact h))
        have C2 := Lib.hid (fun W => (cmp_any y B W).mono fun e w' h => (show e = .returned (.int .i64 (-1)) ∧ Below W.heap.size W w' from by rw [cmp_lt h2] at h; exact h))
        have C3 := Lib.hid (fun W => (cmp_any z B W).mono fun e w' h => (show e = .returned (.int .i64 (-1)) ∧ Below W.heap.size W w' from by rw [cmp_lt h3] at h; exact h))
        have C4 := Lib.hid (fun W => (may_any B W).mono fun e w' h => (show e = .returned (.bool true) ∧ Below W.heap.size W w' from by rw [hmay] at h; exact h))
        clear h1 h2 h3 hmay hn' hi' zq
        obtain ⟨⟨⟨a0, a1, a2⟩, ⟨b0, b1, b2⟩, z0, z1, z2⟩, n0, n1, n2⟩ := HC5.out W5 (Below.refl _ _)
        have hO := Lib.hid (show On W5 W5 from Below.refl _ _)
        have K1 : True := trivial
        have K2 : True := trivial
        go_wp2_with fail
        rw [← hW5]
        clear hW5 hgb
        refine (C4.out _).mono ?_
        rintro e wn ⟨rfl, hb⟩
        have hO := Lib.hid (On.step hO.out hb)
        obtain ⟨⟨⟨a0, a1, a2⟩, ⟨b0, b1, b2⟩, z0, z1, z2⟩, n0, n1, n2⟩ := HC5.out wn hO.out
        clear hb
        go_wp2_with (first
          | (clear K1; go_at_call 16; refine (C1.out _).mono ?_; rintro e wn ⟨rfl, hb⟩; have hO := Lib.hid (On.step hO.out hb); obtain ⟨⟨⟨a0, a1, a2⟩, ⟨b0, b1, b2⟩, z0, z1, z2⟩, n0, n1, n2⟩ := HC5.out wn hO.out; clear hb)
          | (clear K2; go_at_call 16; refine (C2.out _).mono ?_; rintro e wn ⟨rfl, hb⟩; have hO := Lib.hid (On.step hO.out hb); obtain ⟨⟨⟨a0, a1, a2⟩, ⟨b0, b1, b2⟩, z0, z1, z2⟩, n0, n1, n2⟩ := HC5.out wn hO.out; clear hb)
          | (go_at_call 16; refine (C3.out _).mono ?_; rintro e wn ⟨rfl, hb⟩; have hO := Lib.hid (On.step hO.out hb); obtain ⟨⟨⟨a0, a1, a2⟩, ⟨b0, b1, b2⟩, z0, z1, z2⟩, n0, n1, n2⟩ := HC5.out wn hO.out; clear hb)
          | (go_at_call 10; refine (awake_any _).mono ?_; rintro e wn ⟨rfl, hb⟩; have hOF := Lib.hid (On.step hO.out hb); clear hb))
        go_ret
        exact ⟨rfl, HB.out.trans (Below.mono (On.step HW5.out.1 hOF.out) HB.out.size)⟩
end Go.Proofs.Ytomoomeocolkmaa
