/- The document's Highest. -/
import Derived.Test.YtomoomeocolkmaaHighest
import Derived.Test.YtomoomeocolkmaaStill
import Derived.Test.YtomoomeocolkmaaLawTotal
namespace Go.Proofs.Ytomoomeocolkmaa
open Go.RowKit
theorem topP_app (F : List PV) (x : PV) : topP (F ++ [x]) = if F = [] ∨ 0 < cmpA x (topP F) then x else topP F := by
  have h := topOf_succ cmpA PV.zero (F ++ [x]) F.length x (by simp)
  rw [List.take_of_length_le (by simp), List.take_left] at h
  rw [show topP (F ++ [x]) = topOf cmpA PV.zero (F ++ [x]) from rfl, h]
  by_cases hF : F = []
  · rw [if_pos (.inl (by simp [hF])), if_pos (.inl hF)]
  · by_cases hc : 0 < cmpA x (topP F)
    · rw [if_pos (.inr hc), if_pos (.inr hc)]
    · rw [if_neg, if_neg]
      · simp only [not_or]; exact ⟨hF, hc⟩
      · simp only [not_or, List.length_eq_zero_iff]; exact ⟨hF, hc⟩
/-- which one is the best of the first i -/
def BestAt (l : List PV) (i : Nat) (z : Int) : Prop := (z = -1 ∧ accd (l.take i) = []) ∨ ∃ b : Nat, z = b ∧ b < i ∧ accd (l.take i) ≠ [] ∧ l[b]? = some (topP (accd (l.take i)))
theorem take_accd (l : List PV) (i : Nat) (x : PV) (h : l[i]? = some x) : accd (l.take (i + 1)) = if x.none = true then accd (l.take i) else accd (l.take i) ++ [x] := by
  obtain ⟨hk, he⟩ := List.getElem?_eq_some_iff.1 h
  rw [List.take_succ_eq_append_getElem hk, he, accd_app]
theorem BestAt.skip {l : List PV} {i : Nat} {z : Int} (h : BestAt l i z) {x : PV} (hx : l[i]? = some x) (hn : x.none = true) : BestAt l (i + 1) z := by
  unfold BestAt
  rw [take_accd l i x hx, if_pos hn]
  rcases h with h | ⟨b, h1, h2, h3⟩
  · exact .inl h
  · exact .inr ⟨b, h1, by omega, h3⟩
theorem BestAt.first {l : List PV} {i : Nat} (h : BestAt l i (-1)) {x : PV} (hx : l[i]? = some x) (hn : x.none = false) : BestAt l (i + 1) i := by
  unfold BestAt
  rw [take_accd l i x hx, if_neg (by simp [hn])]
  rcases h with ⟨_, h⟩ | ⟨b, h1, _⟩
  · exact .inr ⟨i, rfl, by omega, by simp, by rw [h, topP_app, if_pos (.inl rfl)]; exact hx⟩
  · omega
theorem BestAt.later {l : List PV} {i b : Nat} (h : BestAt l i b) {x y : PV} (hx : l[i]? = some x) (hn : x.none = false) (hy : l[b]? = some y) (z : Int) (hz : (y.a.cmp x.a < 0 ∧ z = i) ∨ (¬ y.a.cmp x.a < 0 ∧ z = b)) : BestAt l (i + 1) z := by
  unfold BestAt
  rw [take_accd l i x hx, if_neg (by simp [hn])]
  rcases h with ⟨h, _⟩ | ⟨b', h1, h2, h3, h4⟩
  · omega
  · obtain rfl : b = b' := by omega
    rw [hy] at h4
    have hy' : y = topP (accd (l.take i)) := by injection h4
    have hr : cmpA x (topP (accd (l.take i))) = -(y.a.cmp x.a) := by rw [← hy']; exact cmp_rev x.a y.a
    rcases hz with ⟨hc, rfl⟩ | ⟨hc, rfl⟩
    · exact .inr ⟨i, rfl, by omega, by simp, by rw [topP_app, if_pos (.inr (by rw [hr]; omega))]; exact hx⟩
    · exact .inr ⟨b, rfl, by omega, by simp, by rw [topP_app, if_neg (by simp only [not_or]; exact ⟨h3, by rw [hr]; omega⟩), ← hy']; exact hy⟩
theorem PsAt.acell {w : World} {a : Option Addr} {len cap : Nat} {l : List PV} (h : PsAt w (.slice a len cap) l) (hl : 0 < l.length) : ∃ b off, a = some ⟨b, off, none⟩ ∧ b < w.heap.size ∧ len = l.length ∧ ∀ j x, l[j]? = some x → ∀ r, r < 8 → w.cell? ⟨b, off + j * 8 + r, none⟩ = x.cells[r]? := by
  obtain ⟨a', cap', hv, _, _, _, h⟩ := h
  cases hv
  obtain ⟨b, off, ha, hb, hc⟩ := h hl
  exact ⟨b, off, ha, hb, rfl, fun j x hj => (hc j x hj).2⟩
set_option maxRecDepth 100000 in
set_option maxHeartbeats 2000000 in
theorem rhi_any (v : Value) (l : List PV) (w : World) (hp : PsAt w v l) :
    Calls Try.prog 25 #[v] w fun e w' => e = .returned (.tuple #[(hiP l).val, .bool (decide (0 < (accd l).length))]) ∧ Below w.heap.size w w' := by
  have HP := Lib.hid hp
  obtain ⟨a, cap, rfl, hlen, -⟩ := hp
  obtain ⟨L, hL⟩ : ∃ L, l.length = L := ⟨_, rfl⟩
  rw [hL] at hlen HP ⊢
  have HL := Lib.hid hL
  clear hL
  obtain ⟨W, hW⟩ : ∃ W, W = w.alloc (.cells #[.int .i64 0, .int .u64 0, .int .i64 0, .int .u64 0, .int .u64 0, .int .i64 0, .int .u64 0, .slice none 0 0] 47) := ⟨_, rfl⟩
  have HW := Lib.hid (show Below w.heap.size w W ∧ Box8 W w.heap.size PV.zero from ⟨by rw [hW]; exact Go.Joins.below_alloc1 w _, by rw [hW]; exact Box8.new w PV.zero⟩)
  obtain ⟨R, hR⟩ : ∃ R, hiP l = R := ⟨_, rfl⟩
  obtain ⟨D, hD⟩ : ∃ D, decide (0 < (accd l).length) = D := ⟨_, rfl⟩
  rw [hR, hD]
  have HR0 := Lib.hid hR
  have HD0 := Lib.hid hD
  clear hR hD
  go_enter Try.func25, Try.ntmps25
  go_wp2
  rw [← hW]
  clear hW
  go_loopw [4, 5] (fun s4 s5 wr => ∃ (i : Nat) (z : Int), i ≤ L ∧ s5 = .int .i64 (i : Nat) ∧ s4 = .int .i64 z ∧ Hid (On W wr ∧ BestAt l i z)) (fun _ s5 _ => L - (intOf s5).toNat)
  case atStart => exact ⟨0, -1, Nat.zero_le _, rfl, rfl, Below.refl _ _, .inl ⟨rfl, rfl⟩⟩
  case round =>
    obtain ⟨i, z, hi, rfl, rfl, HR⟩ := hrel
    by_cases hlt : i < L
    · have hltz : (i : Int) < (L : Int) := by omega
      obtain ⟨b, off, rfl, hb, -, hc⟩ := (HP.out.below HW.out.1).acell (by rw [HL.out]; omega)
      obtain ⟨x, hx⟩ : ∃ x, l[i]? = some x := ⟨_, List.getElem?_eq_getElem (by rw [HL.out]; exact hlt)⟩
      have HCELL := Lib.hid (show ∀ W', On W W' → ∀ j y, l[j]? = some y → W'.cell? ⟨b, off + j * 8 + 4, none⟩ = some (.int .u64 y.a.r) ∧ W'.cell? ⟨b, off + j * 8 + 5, none⟩ = some (.int .i64 y.a.n) ∧ W'.cell? ⟨b, off + j * 8 + 6, none⟩ = some (.int .u64 y.a.i) from fun W' hb' j y hj => by
        refine ⟨?_, ?_, ?_⟩
        · rw [Below.cell hb' (show (⟨b, off + j * 8 + 4, none⟩ : Addr).block < _ from hb)]; exact hc j y hj 4 (by omega)
        · rw [Below.cell hb' (show (⟨b, off + j * 8 + 5, none⟩ : Addr).block < _ from hb)]; exact hc j y hj 5 (by omega)
        · rw [Below.cell hb' (show (⟨b, off + j * 8 + 6, none⟩ : Addr).block < _ from hb)]; exact hc j y hj 6 (by omega))
      have HX := Lib.hid hx
      have k1 := fun w => neq24 x.a ⟨0, 0, 0⟩ w
      have kg := guard24
      clear hc hx hb
      cases hn : x.none
      · rw [show decide (x.a = (⟨0, 0, 0⟩ : BV)) = false from hn] at k1
        dsimp only [BV.val] at k1
        have HNN := Lib.hid hn
        clear hn
        rcases HR.out.2 with ⟨rfl, hz⟩ | ⟨bj, rfl, hbi, hb3, hb4⟩
        · have HC := Lib.hid (show ∀ W', On wr W' → W'.cell? ⟨b, off + i * 8 + 4, none⟩ = some (.int .u64 x.a.r) ∧ W'.cell? ⟨b, off + i * 8 + 5, none⟩ = some (.int .i64 x.a.n) ∧ W'.cell? ⟨b, off + i * 8 + 6, none⟩ = some (.int .u64 x.a.i) from fun W' h => HCELL.out W' (On.step HR.out.1 h) i x HX.out)
          have HNEXT := Lib.hid (BestAt.first HR.out.2 HX.out HNN.out)
          clear hz
          go_wp2_with fail
          refine region_on (by kernel_rfl) (by kernel_rfl) wr (Below.refl _ _) ?_
          repeat (first
            | go_big_quiet_skip
            | (go_big_quiet_want; go_big_quiet_op; (first
              | go_big_quiet_on
              | (apply Exists.intro; refine ⟨fun _ hC => ?_, ?_⟩; with_reducible (first
                  | exact rfl
                  | (have hcell := HC.out _ hC; simp only [hcell, Result.andThen]; (first | exact rfl | exact ⟨rfl, rfl⟩ | exact ⟨trivial, rfl⟩))); go_big_quiet_on))))
          refine wpQuiet_nil ?_
          intro wn hO
          have HO := Lib.hid (On.step HR.out.1 hO)
          clear hO
          go_wp2
          go_roundw
          case rel => exact ⟨i + 1, _, by omega, by go_num, rfl, HO.out, HNEXT.out⟩
          case measure => simp [intOf]; omega
        · obtain ⟨y, hy⟩ : ∃ y, l[bj]? = some y := ⟨_, hb4⟩
          have HC := Lib.hid (show ∀ W', On wr W' → (W'.cell? ⟨b, off + i * 8 + 4, none⟩ = some (.int .u64 x.a.r) ∧ W'.cell? ⟨b, off + i * 8 + 5, none⟩ = some (.int .i64 x.a.n) ∧ W'.cell? ⟨b, off + i * 8 + 6, none⟩ = some (.int .u64 x.a.i)) ∧ (W'.cell? ⟨b, off + bj * 8 + 4, none⟩ = some (.int .u64 y.a.r) ∧ W'.cell? ⟨b, off + bj * 8 + 5, none⟩ = some (.int .i64 y.a.n) ∧ W'.cell? ⟨b, off + bj * 8 + 6, none⟩ = some (.int .u64 y.a.i)) from fun W' h => ⟨HCELL.out W' (On.step HR.out.1 h) i x HX.out, HCELL.out W' (On.step HR.out.1 h) bj y hy⟩)
          have HNEXT := Lib.hid (fun z hz => BestAt.later HR.out.2 HX.out HNN.out hy z hz)
          have HCM := Lib.hid (rcmp_any y.a x.a)
          have hbL : (bj : Int) < (L : Int) := by omega
          have hbn : decide ((bj : Int) < 0) = false := by simp
          generalize y.a.cmp x.a = C at HNEXT HCM
          clear hb3 hb4 hy
          cases hC : decide (C < 0)
          · have HN2 := Lib.hid (show BestAt l (i + 1) bj from HNEXT.out _ (.inr ⟨by simpa using hC, rfl⟩))
            go_wp2_with fail
            refine region_on (by kernel_rfl) (by kernel_rfl) wr (Below.refl _ _) ?_
            repeat (first
              | go_big_quiet_skip
              | (go_big_quiet_want; go_big_quiet_op; (first
                | go_big_quiet_on
                | (apply Exists.intro; refine ⟨fun _ hC => ?_, ?_⟩; with_reducible (first
                    | exact rfl
                    | exact calls_on hC (HCM.out _)
                    | (have hcell := HC.out _ hC; simp only [hcell, Result.andThen]; (first | exact rfl | exact ⟨rfl, rfl⟩ | exact ⟨trivial, rfl⟩))); go_big_quiet_on))))
            refine wpQuiet_nil ?_
            intro wn hO
            have HO := Lib.hid (On.step HR.out.1 hO)
            clear hO
            go_wp2
            go_roundw
            case rel => exact ⟨i + 1, _, by omega, by go_num, rfl, HO.out, HN2.out⟩
            case measure => simp [intOf]; omega
          · have HN2 := Lib.hid (show BestAt l (i + 1) i from HNEXT.out _ (.inl ⟨by simpa using hC, rfl⟩))
            go_wp2_with fail
            refine region_on (by kernel_rfl) (by kernel_rfl) wr (Below.refl _ _) ?_
            repeat (first
              | go_big_quiet_skip
              | (go_big_quiet_want; go_big_quiet_op; (first
                | go_big_quiet_on
                | (apply Exists.intro; refine ⟨fun _ hC => ?_, ?_⟩; with_reducible (first
                    | exact rfl
                    | exact calls_on hC (HCM.out _)
                    | (have hcell := HC.out _ hC; simp only [hcell, Result.andThen]; (first | exact rfl | exact ⟨rfl, rfl⟩ | exact ⟨trivial, rfl⟩))); go_big_quiet_on))))
            refine wpQuiet_nil ?_
            intro wn hO
            have HO := Lib.hid (On.step HR.out.1 hO)
            clear hO
            go_wp2
            go_roundw
            case rel => exact ⟨i + 1, _, by omega, by go_num, rfl, HO.out, HN2.out⟩
            case measure => simp [intOf]; omega
      · rw [show decide (x.a = (⟨0, 0, 0⟩ : BV)) = true from hn] at k1
        dsimp only [BV.val] at k1
        have HC := Lib.hid (show ∀ W', On wr W' → W'.cell? ⟨b, off + i * 8 + 4, none⟩ = some (.int .u64 x.a.r) ∧ W'.cell? ⟨b, off + i * 8 + 5, none⟩ = some (.int .i64 x.a.n) ∧ W'.cell? ⟨b, off + i * 8 + 6, none⟩ = some (.int .u64 x.a.i) from fun W' h => HCELL.out W' (On.step HR.out.1 h) i x HX.out)
        have HNEXT := Lib.hid (BestAt.skip HR.out.2 HX.out hn)
        clear hn
        go_wp2_with fail
        refine region_on (by kernel_rfl) (by kernel_rfl) wr (Below.refl _ _) ?_
        repeat (first
          | go_big_quiet_skip
          | (go_big_quiet_want; go_big_quiet_op; (first
            | go_big_quiet_on
            | (apply Exists.intro; refine ⟨fun _ hC => ?_, ?_⟩; with_reducible (first
                | exact rfl
                | (have hcell := HC.out _ hC; simp only [hcell, Result.andThen]; (first | exact rfl | exact ⟨rfl, rfl⟩ | exact ⟨trivial, rfl⟩))); go_big_quiet_on))))
        refine wpQuiet_nil ?_
        intro wn hO
        have HO := Lib.hid (On.step HR.out.1 hO)
        clear hO
        go_wp2
        go_roundw
        case rel => exact ⟨i + 1, _, by omega, by go_num, rfl, HO.out, HNEXT.out⟩
        case measure => simp [intOf]; omega
    · obtain rfl : i = L := by omega
      have hfull : l.take i = l := List.take_of_length_le (by rw [HL.out]; exact Nat.le_refl _)
      have HBX := Lib.hid (HW.out.2.below HR.out.1 HW.out.2.lt)
      have HBW := Lib.hid (HW.out.1.trans (Below.mono HR.out.1 HW.out.1.size))
      obtain ⟨y0, y1, y2, y3, y4, y5, y6, y7⟩ := HBX.out.c
      have yf := HBX.out.fz
      rcases HR.out.2 with ⟨rfl, hz⟩ | ⟨bj, rfl, hbi, hb3, hb4⟩
      · rw [hfull] at hz
        have HD := Lib.hid (show D = false by rw [← HD0.out, hz]; rfl)
        have HRR := Lib.hid (show R = PV.zero by rw [← HR0.out]; show topP (accd l) = _; rw [hz]; rfl)
        clear hz hfull HR hlt
        go_wp2
        rw [HD.out, HRR.out]
        exact ends_prom (q := PV.zero) (z := PV.zero) (w3 := wr) rfl rfl rfl HBX.out HBW.out (fun h => ⟨rfl, h⟩)
      · rw [hfull] at hb3 hb4
        have HD := Lib.hid (show D = true by rw [← HD0.out, decide_eq_true]; exact List.length_pos_iff.2 hb3)
        have hRR : l[bj]? = some R := by rw [← HR0.out]; exact hb4
        obtain ⟨b, off, rfl, hb, -, hc⟩ := (HP.out.below HBW.out).acell (by rw [HL.out]; omega)
        have c0 : wr.cell? ⟨b, off + bj * 8, none⟩ = some (.int .i64 R.f) := hc bj R hRR 0 (by omega)
        have c1 : wr.cell? ⟨b, off + bj * 8 + 1, none⟩ = some (.int .u64 R.p.r) := hc bj R hRR 1 (by omega)
        have c2 : wr.cell? ⟨b, off + bj * 8 + 2, none⟩ = some (.int .i64 R.p.n) := hc bj R hRR 2 (by omega)
        have c3 : wr.cell? ⟨b, off + bj * 8 + 3, none⟩ = some (.int .u64 R.p.i) := hc bj R hRR 3 (by omega)
        have c4 : wr.cell? ⟨b, off + bj * 8 + 4, none⟩ = some (.int .u64 R.a.r) := hc bj R hRR 4 (by omega)
        have c5 : wr.cell? ⟨b, off + bj * 8 + 5, none⟩ = some (.int .i64 R.a.n) := hc bj R hRR 5 (by omega)
        have c6 : wr.cell? ⟨b, off + bj * 8 + 6, none⟩ = some (.int .u64 R.a.i) := hc bj R hRR 6 (by omega)
        have c7 : wr.cell? ⟨b, off + bj * 8 + 7, none⟩ = some (.slice R.ua R.b.length R.uc) := hc bj R hRR 7 (by omega)
        have hbL : (bj : Int) < (i : Int) := by omega
        have hbn : decide ((bj : Int) < 0) = false := by simp
        clear hb3 hb4 hfull HR hlt hc hb hRR
        go_wp2
        rw [HD.out]
        exact ends_prom (q := R) (z := PV.zero) (w3 := wr) rfl rfl rfl HBX.out HBW.out (fun h => ⟨rfl, h⟩)
end Go.Proofs.Ytomoomeocolkmaa
