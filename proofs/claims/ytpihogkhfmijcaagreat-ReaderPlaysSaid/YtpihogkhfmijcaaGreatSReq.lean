/- The document: are rows of what is asked the same? -/
import Derived.Test.YtpihogkhfmijcaaGreatDNew
import Derived.Deep.RegionHeldLaw
namespace Go.Proofs.YtpihogkhfmijcaaGreat
open Go.RowKit Go.Maps Go.Shelf
set_option linter.unusedSimpArgs false
theorem two_new {w wr : World} (h : Below w.heap.size w wr) (q : RqM) : BoxC ((wr.alloc (.cells q.cells.toArray 56)).alloc (.cells q.cells.toArray 56)).drew wr.heap.size 56 q.cells.toArray ∧ BoxC ((wr.alloc (.cells q.cells.toArray 56)).alloc (.cells q.cells.toArray 56)).drew (wr.heap.size + 1) 56 q.cells.toArray ∧ Below w.heap.size w ((wr.alloc (.cells q.cells.toArray 56)).alloc (.cells q.cells.toArray 56)).drew := by
  refine ⟨((BoxC.new wr 56 _).alloc _).drew, ?_, Below.drew (h.trans ((Go.Joins.below_alloc2 wr _ _).mono h.size))⟩
  have := BoxC.new (wr.alloc (.cells q.cells.toArray 56)) 56 q.cells.toArray
  rw [World.size_alloc] at this
  exact this.drew
set_option maxRecDepth 100000 in
set_option maxHeartbeats 8000000 in
theorem sreqs_any (a b : Option Addr) (c d : Nat) (L : List RqM) (w : World) (ha : QsAt w (.slice a L.length c) L) (hb : QsAt w (.slice b L.length d) L) (hl : L.length ≤ 1000) :
    Calls Tryz.prog 8 #[.slice a L.length c, .slice b L.length d] w fun e w' => e = .returned (.bool true) ∧ Below w.heap.size w w' := by
  obtain ⟨N, hN⟩ : ∃ N, L.length = N := ⟨_, rfl⟩
  have HN := Lib.hid hN
  have HA := Lib.hid (And.intro ha.row hb.row)
  have HQS := Lib.hid ha.2
  rw [hN] at HA hl ⊢
  clear ha hb hN
  go_enter Tryz.func8, Tryz.ntmps8
  go_wp2_with fail
  go_loopw [5, 6, 7, 8] (fun vi _ _ _ wr => ∃ i : Nat, i ≤ N ∧ vi = .int .i64 (i : Nat) ∧ Hid (Below w.heap.size w wr)) (fun vi _ _ _ _ => N - (intOf vi).toNat)
  case atStart => exact ⟨0, Nat.zero_le _, rfl, Below.refl _ _⟩
  case round =>
    obtain ⟨i, hi, rfl, HR⟩ := hrel
    by_cases hlt : i < N
    · have hltz : (i : Int) < (N : Int) := by omega
      obtain ⟨q, hq⟩ : ∃ q, L[i]? = some q := ⟨_, List.getElem?_eq_getElem (by rw [HN.out]; exact hlt)⟩
      obtain ⟨b1, o1, h1, hl1, -, hc1⟩ := RowAt.cell HA.out.1 hq
      obtain ⟨b2, o2, h2, hl2, -, hc2⟩ := RowAt.cell HA.out.2 hq
      cases h1
      cases h2
      have HS := Lib.hid (show ∀ Z, Below wr.heap.size wr Z → Z.cell? ⟨b1, o1 + i * 10, none⟩ = some (.int .i64 q.to.n) ∧ Z.cell? ⟨b1, o1 + i * 10 + 1, none⟩ = some (.int .u64 q.to.s) ∧ Z.cell? ⟨b1, o1 + i * 10 + 2, none⟩ = some (.int .i64 3) ∧ Z.cell? ⟨b1, o1 + i * 10 + 3, none⟩ = some (.int .u64 q.id) ∧ Z.cell? ⟨b1, o1 + i * 10 + 4, none⟩ = some (.int .u64 q.n) ∧ Z.cell? ⟨b1, o1 + i * 10 + 5, none⟩ = some (.int .u64 q.tag) ∧ Z.cell? ⟨b1, o1 + i * 10 + 6, none⟩ = some (.int .u64 0) ∧ Z.cell? ⟨b1, o1 + i * 10 + 7, none⟩ = some (.int .i64 0) ∧ Z.cell? ⟨b1, o1 + i * 10 + 8, none⟩ = some (.slice none 0 0) ∧ Z.cell? ⟨b1, o1 + i * 10 + 9, none⟩ = some (.slice none 0 0) ∧ Z.cell? ⟨b2, o2 + i * 10, none⟩ = some (.int .i64 q.to.n) ∧ Z.cell? ⟨b2, o2 + i * 10 + 1, none⟩ = some (.int .u64 q.to.s) ∧ Z.cell? ⟨b2, o2 + i * 10 + 2, none⟩ = some (.int .i64 3) ∧ Z.cell? ⟨b2, o2 + i * 10 + 3, none⟩ = some (.int .u64 q.id) ∧ Z.cell? ⟨b2, o2 + i * 10 + 4, none⟩ = some (.int .u64 q.n) ∧ Z.cell? ⟨b2, o2 + i * 10 + 5, none⟩ = some (.int .u64 q.tag) ∧ Z.cell? ⟨b2, o2 + i * 10 + 6, none⟩ = some (.int .u64 0) ∧ Z.cell? ⟨b2, o2 + i * 10 + 7, none⟩ = some (.int .i64 0) ∧ Z.cell? ⟨b2, o2 + i * 10 + 8, none⟩ = some (.slice none 0 0) ∧ Z.cell? ⟨b2, o2 + i * 10 + 9, none⟩ = some (.slice none 0 0) from fun Z hZ => by
        have hb := HR.out.trans (hZ.mono HR.out.size)
        exact ⟨hc1 0 (by omega) Z hb, hc1 1 (by omega) Z hb, hc1 2 (by omega) Z hb, hc1 3 (by omega) Z hb, hc1 4 (by omega) Z hb, hc1 5 (by omega) Z hb, hc1 6 (by omega) Z hb, hc1 7 (by omega) Z hb, hc1 8 (by omega) Z hb, hc1 9 (by omega) Z hb, hc2 0 (by omega) Z hb, hc2 1 (by omega) Z hb, hc2 2 (by omega) Z hb, hc2 3 (by omega) Z hb, hc2 4 (by omega) Z hb, hc2 5 (by omega) Z hb, hc2 6 (by omega) Z hb, hc2 7 (by omega) Z hb, hc2 8 (by omega) Z hb, hc2 9 (by omega) Z hb⟩)
      clear hc1 hc2 hq hl1 hl2
      go_wp2_with fail
      go_region_held (fun Z => Z.cell? ⟨b1, o1 + i * 10, none⟩ = some (.int .i64 q.to.n) ∧ Z.cell? ⟨b1, o1 + i * 10 + 1, none⟩ = some (.int .u64 q.to.s) ∧ Z.cell? ⟨b1, o1 + i * 10 + 2, none⟩ = some (.int .i64 3) ∧ Z.cell? ⟨b1, o1 + i * 10 + 3, none⟩ = some (.int .u64 q.id) ∧ Z.cell? ⟨b1, o1 + i * 10 + 4, none⟩ = some (.int .u64 q.n) ∧ Z.cell? ⟨b1, o1 + i * 10 + 5, none⟩ = some (.int .u64 q.tag) ∧ Z.cell? ⟨b1, o1 + i * 10 + 6, none⟩ = some (.int .u64 0) ∧ Z.cell? ⟨b1, o1 + i * 10 + 7, none⟩ = some (.int .i64 0) ∧ Z.cell? ⟨b1, o1 + i * 10 + 8, none⟩ = some (.slice none 0 0) ∧ Z.cell? ⟨b1, o1 + i * 10 + 9, none⟩ = some (.slice none 0 0) ∧ Z.cell? ⟨b2, o2 + i * 10, none⟩ = some (.int .i64 q.to.n) ∧ Z.cell? ⟨b2, o2 + i * 10 + 1, none⟩ = some (.int .u64 q.to.s) ∧ Z.cell? ⟨b2, o2 + i * 10 + 2, none⟩ = some (.int .i64 3) ∧ Z.cell? ⟨b2, o2 + i * 10 + 3, none⟩ = some (.int .u64 q.id) ∧ Z.cell? ⟨b2, o2 + i * 10 + 4, none⟩ = some (.int .u64 q.n) ∧ Z.cell? ⟨b2, o2 + i * 10 + 5, none⟩ = some (.int .u64 q.tag) ∧ Z.cell? ⟨b2, o2 + i * 10 + 6, none⟩ = some (.int .u64 0) ∧ Z.cell? ⟨b2, o2 + i * 10 + 7, none⟩ = some (.int .i64 0) ∧ Z.cell? ⟨b2, o2 + i * 10 + 8, none⟩ = some (.slice none 0 0) ∧ Z.cell? ⟨b2, o2 + i * 10 + 9, none⟩ = some (.slice none 0 0)) ((refine HS.out _ ?_; repeat' (first | (with_reducible exact Below.refl _ _) | (with_reducible exact Go.Joins.below_alloc1 _ _) | (with_reducible refine Below.drew ?_) | (with_reducible refine Below.alloc ?_ ?_ _) | (with_reducible refine Below.setCell ?_ ?_ _) | (with_reducible exact Nat.le_refl _) | exact (Go.Joins.below_alloc1 _ _).size | exact Nat.le_succ _ | (simp; done)))) (fail)
      all_goals go_upto_region 7 with fail
      all_goals
        refine via (fun V => BoxC V wr.heap.size 56 q.cells.toArray ∧ BoxC V (wr.heap.size + 1) 56 q.cells.toArray ∧ Below w.heap.size w V) (two_new HR.out q) (fun V hV => ?_)
        have HV := Lib.hid hV
        have x0 := hV.1.cell 0
        have x1 := hV.1.cell 1
        have x2 := hV.1.cell 2
        have x3 := hV.1.cell 3
        have x4 := hV.1.cell 4
        have x5 := hV.1.cell 5
        have x6 := hV.1.cell 6
        have x7 := hV.1.cell 7
        have x8 := hV.1.cell 8
        have x9 := hV.1.cell 9
        have y0 := hV.2.1.cell 0
        have y1 := hV.2.1.cell 1
        have y2 := hV.2.1.cell 2
        have y3 := hV.2.1.cell 3
        have y4 := hV.2.1.cell 4
        have y5 := hV.2.1.cell 5
        have y6 := hV.2.1.cell 6
        have y7 := hV.2.1.cell 7
        have y8 := hV.2.1.cell 8
        have y9 := hV.2.1.cell 9
        simp only [RqM.cells, List.getElem?_toArray, List.getElem?_cons_succ, List.getElem?_cons_zero] at x0 x1 x2 x3 x4 x5 x6 x7 x8 x9 y0 y1 y2 y3 y4 y5 y6 y7 y8 y9
        have k1 := fun w => neq38 q.to q.to w
        rw [decide_eq_true rfl] at k1
        dsimp only [PL.val, Bool.not_true] at k1
        have kg := guard38
        have s1 : (convert 30 9 (.slice none 0 0)).run Tryz.prog V = .ok (.string (strOfNums [])) V := bs_str (l := []) (RowAt.nil V)
        clear hV
        obtain ⟨wo, rfl⟩ : ∃ wo : World, wo = wr := ⟨_, rfl⟩
        go_wp2_with fail
        go_loopw [8] (fun vj wx => vj = .int .i64 0 ∧ Hid (wx = V)) (fun _ _ => 0)
        case atStart => exact ⟨rfl, rfl⟩
        case round =>
          obtain ⟨rfl, HVV⟩ := hrel
          obtain rfl := HVV.out
          go_wp2_with fail
          go_roundw
          case rel => exact ⟨i + 1, by omega, by go_num, HV.out.2.2⟩
          case measure => simp [intOf]; omega
    · obtain rfl : i = N := by omega
      go_wp2
      go_ret
      exact ⟨rfl, HR.out⟩
end Go.Proofs.YtpihogkhfmijcaaGreat
