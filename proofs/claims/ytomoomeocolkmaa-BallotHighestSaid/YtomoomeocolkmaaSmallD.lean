/- Of, and the document's Of. -/
import Derived.Test.YtomoomeocolkmaaSmallC
namespace Go.Proofs.Ytomoomeocolkmaa
open Go.RowKit
theorem wrap_in {z : Int} (h0 : -9223372036854775808 ≤ z) (h1 : z ≤ 9223372036854775807) : IntKind.i64.wrap z = z := by
  simp [IntKind.wrap, IntKind.bits, IntKind.signed]
  omega
/-- may be, or is none -/
def BV.fine (q : BV) : Bool := q.may || decide (q = BV.zero)
/-- the ballot of these numbers -/
def ofNums : List Int → BV × Bool
  | [r, n, i] => if n ≤ 15 then (if (BV.mk r n i).fine then (⟨r, n, i⟩, true) else (BV.zero, false)) else (BV.zero, false)
  | _ => (BV.zero, false)
theorem ofNums_ne (l : List Int) (h : l.length ≠ 3) : ofNums l = (BV.zero, false) := by
  match l, h with
  | [], _ => rfl
  | [_], _ => rfl
  | [_, _], _ => rfl
  | [_, _, _], h => exact absurd rfl h
  | _ :: _ :: _ :: _ :: _, _ => rfl
/-- three cells in a row -/
theorem NumsAt.three {w : World} {v : Value} {l : List Int} (h : NumsAt w v l) (h3 : l.length = 3) : ∃ b off cap r n i, l = [r, n, i] ∧ v = .slice (some ⟨b, off, none⟩) 3 cap ∧ b < w.heap.size ∧ (0 ≤ r ∧ r ≤ 18446744073709551615) ∧ (0 ≤ n ∧ n ≤ 18446744073709551615) ∧ (0 ≤ i ∧ i ≤ 18446744073709551615) ∧
    w.cell? ⟨b, off, none⟩ = some (.int .u64 r) ∧ w.cell? ⟨b, off + 1, none⟩ = some (.int .u64 n) ∧ w.cell? ⟨b, off + 2, none⟩ = some (.int .u64 i) := by
  obtain ⟨a, cap, rfl, _, _, _, h⟩ := h
  match l, h3 with
  | [r, n, i], _ =>
    obtain ⟨b, off, rfl, hb, hc⟩ := h (by simp)
    obtain ⟨k0, c0⟩ := hc 0 r rfl
    obtain ⟨k1, c1⟩ := hc 1 n rfl
    obtain ⟨k2, c2⟩ := hc 2 i rfl
    exact ⟨b, off, cap, r, n, i, rfl, rfl, hb, k0, k1, k2, c0 0 (by omega), c1 0 (by omega), c2 0 (by omega)⟩
theorem ends_bal {f : Func} {p u : Tmp} {tmps : Array Value} {w w3 : World} {q z : BV} {c : Value} (h : f.results = #[.cell p 24, .tmp u]) (hp : tmps.getD p undef = .pointer (some ⟨w.heap.size, 0, none⟩)) (hu : tmps.getD u undef = c) (hX : Box3 w3 w.heap.size z) (hb : Below w.heap.size w w3) :
    bodyPost Try.prog f (fun e w' => e = .returned (.tuple #[q.val, c]) ∧ Below w.heap.size w w') .ret ⟨tmps, []⟩ (put3 w3 w.heap.size q) :=
  bodyPost_ret (results_bal h _ _ w.heap.size q hp (hX.put q)) rfl ⟨by rw [hu], hb.trans ((put3_chg w3 w.heap.size q).below hb.size (fun k hk => by omega))⟩
set_option maxRecDepth 100000 in
set_option maxHeartbeats 1000000 in
theorem of_any (v : Value) (l : List Int) (w : World) (hp : NumsAt w v l) :
    Calls Try.prog 12 #[v] w fun e w' => e = .returned (.tuple #[(ofNums l).1.val, .bool (ofNums l).2]) ∧ Below w.heap.size w w' := by
  by_cases h3 : l.length = 3
  · obtain ⟨b, off, cap, r, n, i, rfl, rfl, hb, k0, k1, k2, c0, c1, c2⟩ := hp.three h3
    clear hp h3
    by_cases hn : n ≤ 15
    · have hi : n % 18446744073709551616 = n := by omega
      obtain ⟨W, hW⟩ : ∃ W, W = w.alloc (.cells #[.int .u64 0, .int .i64 0, .int .u64 0] 24) := ⟨_, rfl⟩
      have HB1 : Below w.heap.size w W := by rw [hW]; exact Go.Joins.below_alloc1 w _
      have hB1 : Box3 W w.heap.size BV.zero := by rw [hW]; exact Box3.new w BV.zero
      have hsz : W.heap.size = w.heap.size + 1 := by rw [hW, World.size_alloc]
      have d0 : W.cell? ⟨b, off, none⟩ = some (.int .u64 r) := by rw [HB1.cell (show (⟨b, off, none⟩ : Addr).block < _ from hb)]; exact c0
      have d1 : W.cell? ⟨b, off + 1, none⟩ = some (.int .u64 n) := by rw [HB1.cell (show (⟨b, off + 1, none⟩ : Addr).block < _ from hb)]; exact c1
      have d2 : W.cell? ⟨b, off + 2, none⟩ = some (.int .u64 i) := by rw [HB1.cell (show (⟨b, off + 2, none⟩ : Addr).block < _ from hb)]; exact c2
      have n0 := World.new_ne W _ d0
      have n1 := World.new_ne W _ d1
      have n2 := World.new_ne W _ d2
      have e1 : ∀ o, (w.alloc o).cell? ⟨b, off + 1, none⟩ = some (.int .u64 n) := fun o => by rw [(Go.Joins.below_alloc1 w o).cell (show (⟨b, off + 1, none⟩ : Addr).block < _ from hb)]; exact c1
      have hg : decide (15 < n) = false := by simp; omega
      have hwn : IntKind.i64.wrap n = n := wrap_in (by omega) (by omega)
      have HWN := Lib.hid hwn
      clear k0 k1 k2 hb c0 c1 c2 hwn
      go_enter Try.func12, Try.ntmps12
      go_wp2
      rw [← hW]
      clear hW e1
      go_region_held (fun W' => W'.cell? ⟨b, off, none⟩ = some (.int .u64 r) ∧ W'.cell? ⟨b, off + 1, none⟩ = some (.int .u64 n) ∧ W'.cell? ⟨b, off + 2, none⟩ = some (.int .u64 i)) (go_keep) (fail)
      rw [HWN.out]
      obtain ⟨W2, hW2⟩ : ∃ W2, W2 = (W.alloc (.cells #[.int .u64 r, .int .i64 n, .int .u64 i] 24)).drew := ⟨_, rfl⟩
      rw [← hW2]
      have hbq : Box3 W2 (w.heap.size + 1) ⟨r, n, i⟩ := by rw [hW2, ← hsz]; exact Box3.new W ⟨r, n, i⟩
      have hb2 : Below W.heap.size W W2 := by rw [hW2]; exact (Go.Joins.below_alloc1 W _).drew
      have hbz : Box3 W2 w.heap.size BV.zero := hB1.below hb2 (by omega)
      have hBB : Below w.heap.size w W2 := HB1.trans (hb2.mono (by omega))
      clear hW2 hb2 hB1 HB1 d0 d1 d2 n0 n1 n2
      have hq0 := hbq.c0
      have hq1 := hbq.c1
      have hq2 := hbq.c2
      have HK : Hid (∀ w3, Below W2.heap.size W2 w3 → Box3 w3 (w.heap.size + 1) ⟨r, n, i⟩ ∧ Box3 w3 w.heap.size BV.zero ∧ Below w.heap.size w w3) := fun w3 hb => ⟨hbq.below hb hbq.lt, hbz.below hb hbz.lt, hBB.trans (hb.mono (by have := hbz.lt; omega))⟩
      have HO := Lib.hid (show ofNums [r, n, i] = if (BV.mk r n i).fine then (⟨r, n, i⟩, true) else (BV.zero, false) by simp only [ofNums, if_pos hn])
      have k1 := eql24 ⟨r, n, i⟩ BV.zero
      have k2 := neq24 ⟨r, n, i⟩ BV.zero
      have k3 := guard24
      obtain ⟨Z, hZ⟩ : ∃ Z, decide ((⟨r, n, i⟩ : BV) = BV.zero) = Z := ⟨_, rfl⟩
      rw [hZ] at k1 k2
      dsimp only [BV.val, BV.zero] at k1 k2
      clear hbq hbz hBB hn hg
      cases hm : BV.may ⟨r, n, i⟩
      · have HM : Hid (∀ w, Calls Try.prog 14 #[BV.val ⟨r, n, i⟩] w fun e w' => e = .returned (.bool false) ∧ Below w.heap.size w w') := fun w => hm ▸ may_any ⟨r, n, i⟩ w
        cases Z
        · have HO2 := Lib.hid (show ofNums [r, n, i] = (BV.zero, false) by rw [HO.out, if_neg]; simp only [BV.fine, hm, hZ]; simp)
          clear HO hm hZ
          go_wp2_with (go_at_call 14; refine (HM.out _).mono ?_; rintro e w3 ⟨rfl, hb3⟩; obtain ⟨x1, x2, x3⟩ := HK.out w3 hb3; have y0 := x1.c0; have y1 := x1.c1; have y2 := x1.c2; have z0 := x2.c0; have z1 := x2.c1; have z2 := x2.c2; have zf := x2.fz; have HX := Lib.hid (And.intro x2 x3); clear x1 x2 x3 hb3)
          rw [HO2.out]
          exact ends_bal (q := BV.zero) (z := BV.zero) (w3 := w3) rfl rfl rfl HX.out.1 HX.out.2
        · have HO2 := Lib.hid (show ofNums [r, n, i] = (⟨r, n, i⟩, true) by rw [HO.out, if_pos]; simp only [BV.fine, hm, hZ]; simp)
          clear HO hm hZ
          go_wp2_with (go_at_call 14; refine (HM.out _).mono ?_; rintro e w3 ⟨rfl, hb3⟩; obtain ⟨x1, x2, x3⟩ := HK.out w3 hb3; have y0 := x1.c0; have y1 := x1.c1; have y2 := x1.c2; have z0 := x2.c0; have z1 := x2.c1; have z2 := x2.c2; have zf := x2.fz; have HX := Lib.hid (And.intro x2 x3); clear x1 x2 x3 hb3)
          rw [HO2.out]
          exact ends_bal (q := ⟨r, n, i⟩) (z := BV.zero) (w3 := w3) rfl rfl rfl HX.out.1 HX.out.2
      · have HM : Hid (∀ w, Calls Try.prog 14 #[BV.val ⟨r, n, i⟩] w fun e w' => e = .returned (.bool true) ∧ Below w.heap.size w w') := fun w => hm ▸ may_any ⟨r, n, i⟩ w
        have HO2 := Lib.hid (show ofNums [r, n, i] = (⟨r, n, i⟩, true) by rw [HO.out, if_pos]; simp only [BV.fine, hm, Bool.true_or])
        clear HO hm hZ k1 k2
        go_wp2_with (go_at_call 14; refine (HM.out _).mono ?_; rintro e w3 ⟨rfl, hb3⟩; obtain ⟨x1, x2, x3⟩ := HK.out w3 hb3; have y0 := x1.c0; have y1 := x1.c1; have y2 := x1.c2; have z0 := x2.c0; have z1 := x2.c1; have z2 := x2.c2; have zf := x2.fz; have HX := Lib.hid (And.intro x2 x3); clear x1 x2 x3 hb3)
        rw [HO2.out]
        exact ends_bal (q := ⟨r, n, i⟩) (z := BV.zero) (w3 := w3) rfl rfl rfl HX.out.1 HX.out.2
    · have hr : (ofNums [r, n, i]) = (BV.zero, false) := by simp [ofNums, hn]
      rw [hr]
      have e1 : ∀ o, (w.alloc o).cell? ⟨b, off + 1, none⟩ = some (.int .u64 n) := fun o => by rw [(Go.Joins.below_alloc1 w o).cell (show (⟨b, off + 1, none⟩ : Addr).block < _ from hb)]; exact c1
      have hg : decide (15 < n) = true := by simp; omega
      clear k0 k1 k2 hr hb c0 c1 c2 hn
      go_enter Try.func12, Try.ntmps12
      go_wp2
      exact bodyPost_ret (results_bal rfl _ _ w.heap.size BV.zero rfl (Box3.new w BV.zero)) rfl ⟨rfl, Go.Joins.below_alloc1 w _⟩
  · rw [ofNums_ne l h3]
    obtain ⟨a, cap, rfl, _⟩ := hp
    have hL : ((l.length : Int) != 3) = true := by simp; omega
    generalize l.length = L at hL h3
    go_enter Try.func12, Try.ntmps12
    go_wp2
    exact bodyPost_ret (results_bal rfl _ _ w.heap.size BV.zero rfl (Box3.new w BV.zero)) rfl ⟨rfl, Go.Joins.below_alloc1 w _⟩
set_option maxRecDepth 100000 in
set_option maxHeartbeats 1000000 in
theorem rof_any (v : Value) (l : List Int) (w : World) (hp : NumsAt w v l) :
    Calls Try.prog 13 #[v] w fun e w' => e = .returned (.tuple #[(ofNums l).1.val, .bool (ofNums l).2]) ∧ Below w.heap.size w w' := by
  by_cases h3 : l.length = 3
  · obtain ⟨b, off, cap, r, n, i, rfl, rfl, hb, k0, k1, k2, c0, c1, c2⟩ := hp.three h3
    clear hp h3
    by_cases hn : n ≤ 15
    · have hi : n % 18446744073709551616 = n := by omega
      obtain ⟨W, hW⟩ : ∃ W, W = w.alloc (.cells #[.int .u64 0, .int .i64 0, .int .u64 0] 24) := ⟨_, rfl⟩
      have HB1 : Below w.heap.size w W := by rw [hW]; exact Go.Joins.below_alloc1 w _
      have hB1 : Box3 W w.heap.size BV.zero := by rw [hW]; exact Box3.new w BV.zero
      have hsz : W.heap.size = w.heap.size + 1 := by rw [hW, World.size_alloc]
      have d0 : W.cell? ⟨b, off, none⟩ = some (.int .u64 r) := by rw [HB1.cell (show (⟨b, off, none⟩ : Addr).block < _ from hb)]; exact c0
      have d1 : W.cell? ⟨b, off + 1, none⟩ = some (.int .u64 n) := by rw [HB1.cell (show (⟨b, off + 1, none⟩ : Addr).block < _ from hb)]; exact c1
      have d2 : W.cell? ⟨b, off + 2, none⟩ = some (.int .u64 i) := by rw [HB1.cell (show (⟨b, off + 2, none⟩ : Addr).block < _ from hb)]; exact c2
      have n0 := World.new_ne W _ d0
      have n1 := World.new_ne W _ d1
      have n2 := World.new_ne W _ d2
      have e1 : ∀ o, (w.alloc o).cell? ⟨b, off + 1, none⟩ = some (.int .u64 n) := fun o => by rw [(Go.Joins.below_alloc1 w o).cell (show (⟨b, off + 1, none⟩ : Addr).block < _ from hb)]; exact c1
      have hg : decide (15 < n) = false := by simp; omega
      have hwn : IntKind.i64.wrap n = n := wrap_in (by omega) (by omega)
      have HWN := Lib.hid hwn
      clear k0 k1 k2 hb c0 c1 c2 hwn
      go_enter Try.func13, Try.ntmps13
      go_wp2
      rw [← hW]
      clear hW e1
      go_region_held (fun W' => W'.cell? ⟨b, off, none⟩ = some (.int .u64 r) ∧ W'.cell? ⟨b, off + 1, none⟩ = some (.int .u64 n) ∧ W'.cell? ⟨b, off + 2, none⟩ = some (.int .u64 i)) (go_keep) (fail)
      rw [HWN.out]
      obtain ⟨W2, hW2⟩ : ∃ W2, W2 = (W.alloc (.cells #[.int .u64 r, .int .i64 n, .int .u64 i] 24)).drew := ⟨_, rfl⟩
      rw [← hW2]
      have hbq : Box3 W2 (w.heap.size + 1) ⟨r, n, i⟩ := by rw [hW2, ← hsz]; exact Box3.new W ⟨r, n, i⟩
      have hb2 : Below W.heap.size W W2 := by rw [hW2]; exact (Go.Joins.below_alloc1 W _).drew
      have hbz : Box3 W2 w.heap.size BV.zero := hB1.below hb2 (by omega)
      have hBB : Below w.heap.size w W2 := HB1.trans (hb2.mono (by omega))
      clear hW2 hb2 hB1 HB1 d0 d1 d2 n0 n1 n2
      have hq0 := hbq.c0
      have hq1 := hbq.c1
      have hq2 := hbq.c2
      have HK : Hid (∀ w3, Below W2.heap.size W2 w3 → Box3 w3 (w.heap.size + 1) ⟨r, n, i⟩ ∧ Box3 w3 w.heap.size BV.zero ∧ Below w.heap.size w w3) := fun w3 hb => ⟨hbq.below hb hbq.lt, hbz.below hb hbz.lt, hBB.trans (hb.mono (by have := hbz.lt; omega))⟩
      have HO := Lib.hid (show ofNums [r, n, i] = if (BV.mk r n i).fine then (⟨r, n, i⟩, true) else (BV.zero, false) by simp only [ofNums, if_pos hn])
      have k1 := eql24 ⟨r, n, i⟩ BV.zero
      have k2 := neq24 ⟨r, n, i⟩ BV.zero
      have k3 := guard24
      obtain ⟨Z, hZ⟩ : ∃ Z, decide ((⟨r, n, i⟩ : BV) = BV.zero) = Z := ⟨_, rfl⟩
      rw [hZ] at k1 k2
      dsimp only [BV.val, BV.zero] at k1 k2
      clear hbq hbz hBB hn hg
      cases Z
      · cases hm : BV.may ⟨r, n, i⟩
        · have HM : Hid (∀ w, Calls Try.prog 15 #[BV.val ⟨r, n, i⟩] w fun e w' => e = .returned (.bool false) ∧ Below w.heap.size w w') := fun w => hm ▸ rmay_any ⟨r, n, i⟩ w
          have HO2 := Lib.hid (show ofNums [r, n, i] = (BV.zero, false) by rw [HO.out, if_neg]; simp only [BV.fine, hm, hZ]; simp)
          clear HO hm hZ
          go_wp2_with (go_at_call 15; refine (HM.out _).mono ?_; rintro e w3 ⟨rfl, hb3⟩; obtain ⟨x1, x2, x3⟩ := HK.out w3 hb3; have y0 := x1.c0; have y1 := x1.c1; have y2 := x1.c2; have z0 := x2.c0; have z1 := x2.c1; have z2 := x2.c2; have zf := x2.fz; have HX := Lib.hid (And.intro x2 x3); clear x1 x2 x3 hb3)
          rw [HO2.out]
          exact ends_bal (q := BV.zero) (z := BV.zero) (w3 := w3) rfl rfl rfl HX.out.1 HX.out.2
        · have HM : Hid (∀ w, Calls Try.prog 15 #[BV.val ⟨r, n, i⟩] w fun e w' => e = .returned (.bool true) ∧ Below w.heap.size w w') := fun w => hm ▸ rmay_any ⟨r, n, i⟩ w
          have HO2 := Lib.hid (show ofNums [r, n, i] = (⟨r, n, i⟩, true) by rw [HO.out, if_pos]; simp only [BV.fine, hm, Bool.true_or])
          clear HO hm hZ
          go_wp2_with (go_at_call 15; refine (HM.out _).mono ?_; rintro e w3 ⟨rfl, hb3⟩; obtain ⟨x1, x2, x3⟩ := HK.out w3 hb3; have y0 := x1.c0; have y1 := x1.c1; have y2 := x1.c2; have z0 := x2.c0; have z1 := x2.c1; have z2 := x2.c2; have zf := x2.fz; have HX := Lib.hid (And.intro x2 x3); clear x1 x2 x3 hb3)
          rw [HO2.out]
          exact ends_bal (q := ⟨r, n, i⟩) (z := BV.zero) (w3 := w3) rfl rfl rfl HX.out.1 HX.out.2
      · have HO2 := Lib.hid (show ofNums [r, n, i] = (⟨r, n, i⟩, true) by rw [HO.out, if_pos]; simp only [BV.fine, hZ]; simp)
        obtain ⟨x1, x2, x3⟩ := HK.out W2 (Below.refl _ _)
        have z0 := x2.c0
        have z1 := x2.c1
        have z2 := x2.c2
        have zf := x2.fz
        have HX := Lib.hid (And.intro x2 x3)
        clear x1 x2 x3 HO hZ HK
        go_wp2
        rw [HO2.out]
        exact ends_bal (q := ⟨r, n, i⟩) (z := BV.zero) (w3 := W2) rfl rfl rfl HX.out.1 HX.out.2
    · have hr : (ofNums [r, n, i]) = (BV.zero, false) := by simp [ofNums, hn]
      rw [hr]
      have e1 : ∀ o, (w.alloc o).cell? ⟨b, off + 1, none⟩ = some (.int .u64 n) := fun o => by rw [(Go.Joins.below_alloc1 w o).cell (show (⟨b, off + 1, none⟩ : Addr).block < _ from hb)]; exact c1
      have hg : decide (15 < n) = true := by simp; omega
      clear k0 k1 k2 hr hb c0 c1 c2 hn
      go_enter Try.func13, Try.ntmps13
      go_wp2
      exact bodyPost_ret (results_bal rfl _ _ w.heap.size BV.zero rfl (Box3.new w BV.zero)) rfl ⟨rfl, Go.Joins.below_alloc1 w _⟩
  · rw [ofNums_ne l h3]
    obtain ⟨a, cap, rfl, _⟩ := hp
    have hL : ((l.length : Int) != 3) = true := by simp; omega
    generalize l.length = L at hL h3
    go_enter Try.func13, Try.ntmps13
    go_wp2
    exact bodyPost_ret (results_bal rfl _ _ w.heap.size BV.zero rfl (Box3.new w BV.zero)) rfl ⟨rfl, Go.Joins.below_alloc1 w _⟩
end Go.Proofs.Ytomoomeocolkmaa
