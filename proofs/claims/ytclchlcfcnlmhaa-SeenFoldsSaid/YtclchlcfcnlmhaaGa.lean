/- The document's Fold. -/
import Derived.Test.YtclchlcfcnlmhaaFz
import Derived.Test.YtclchlcfcnlmhaaFj
namespace Go.Proofs.Ytclchlcfcnlmhaa
open Go.RowKit Go.Maps Go.Shelf
set_option linter.unusedSimpArgs false
set_option linter.unusedVariables false
def slenM : Value → Nat
  | .slice _ n _ => n
  | _ => 0
set_option maxRecDepth 100000 in
set_option maxHeartbeats 4000000 in
theorem rfold_any (vb vl : Value) (b l : List MK) (a : Int) (w : World) (hb : MsAt w vb b) (hl : MsAt w vl l) (hbl : b.length ≤ 1000) (hll : l.length ≤ 1000) :
    Calls Try.prog 29 #[vb, vl, .int .u64 a] w fun e w' => ∃ v' R, e = .returned v' ∧ OwnMs w.heap.size w' v' R ∧ (∀ q ∈ R, q.ok) ∧ IsFold (cutM a b ++ cutM a l) R ∧ Below w.heap.size w w' := by
  have HP := Lib.hid (And.intro hb hl)
  have HOK := Lib.hid (show ∀ q ∈ b ++ l, q.ok from fun q hq => by
    rcases List.mem_append.1 hq with hq | hq
    · exact hb.ok q hq
    · exact hl.ok q hq)
  have HONE := Lib.hid (ms_oneCell b)
  have HONEL := Lib.hid (ms_oneCell l)
  have HCUT := Lib.hid (show cutM a (b ++ l) = cutM a b ++ cutM a l from List.filter_append ..)
  have HLEN := Lib.hid (show (b ++ l).length ≤ 2000 by rw [List.length_append]; omega)
  have HM1 := Lib.hid (show OwnMs w.heap.size (w.alloc (.cells #[] 26)) (.slice (some ⟨w.heap.size, 0, none⟩) 0 0) [] from OwnRow.made w)
  have HA1 := Lib.hid (show MsAt (w.alloc (.cells #[] 26)) vb b ∧ Below w.heap.size w (w.alloc (.cells #[] 26)) from ⟨hb.below (Go.Joins.below_alloc1 w _), Go.Joins.below_alloc1 w _⟩)
  have HSM := Lib.hid (show ([] : List MK).length + b.length ≤ 1000000 ∧ b.length + l.length ≤ 1000000 by simp; omega)
  rw [← HCUT.out]
  obtain ⟨T, hT⟩ : ∃ T, cutM a (b ++ l) = T := ⟨_, rfl⟩
  have HTE := Lib.hid hT
  rw [hT]
  clear hT hb hl hbl hll
  go_enter Try.func29, Try.ntmps29
  go_wp2_with (first
    | (at_builtin; refine wpList_append_rows rfl _ _ 22 26 3 24 _ MK.cells rfl Try.underlying22 info26 rfl (by decide) (by decide) (fun _ => rfl) w.heap.size _ _ [] b rfl rfl HM1.out HA1.out.1 HONE.out HSM.out.1 HA1.out.2.size ?_; intro v3 w3 ho3 hg3; have HO3 := Lib.hid (show OwnMs w.heap.size w3 v3 b from ho3); have HB3 := Lib.hid (HA1.out.2.grown hg3 HA1.out.2.size (fun j hj => (OwnRow.lt HM1.out j hj).1)); clear ho3 hg3)
    | (at_builtin; refine wpList_append_rows rfl _ _ 22 26 3 24 _ MK.cells rfl Try.underlying22 info26 rfl (by decide) (by decide) (fun _ => rfl) w.heap.size _ _ b l rfl rfl HO3.out (HP.out.2.below HB3.out) HONEL.out HSM.out.2 HB3.out.size ?_; intro v4 w4 ho4 hg4; have HO4 := Lib.hid (show OwnMs w.heap.size w4 v4 (b ++ l) from ho4); have HB4 := Lib.hid (show Below w.heap.size w w4 from HB3.out.grown hg4 HB3.out.size (fun j hj => (OwnRow.lt HO3.out j hj).1)); clear ho4 hg4)
    | fail)
  have HC := Lib.hid (rcut_any v4 (b ++ l) a w4 (HO4.out.at HOK.out) (by have := HLEN.out; omega))
  refine HC.out.mono ?_
  rintro e w5 ⟨v5, rfl, o5, hb5⟩
  have HTOK := Lib.hid (show ∀ q ∈ cutM a (b ++ l), q.ok from fun q hq => HOK.out q (List.mem_filter.1 hq).1)
  have HTL := Lib.hid (show (cutM a (b ++ l)).length ≤ 2000 from Nat.le_trans (rej_len _ _) HLEN.out)
  rw [HTE.out] at o5 HTOK HTL
  have HT := Lib.hid (o5.at HTOK.out)
  have HB := Lib.hid (HB4.out.trans (hb5.mono HB4.out.size))
  obtain ⟨ta, tc, rfl, htl, -⟩ := HT.out.form
  obtain ⟨N, hN⟩ : ∃ N, T.length = N := ⟨_, rfl⟩
  rw [hN] at HT HTL htl
  rw [hN]
  have HN := Lib.hid hN
  have HNS := Lib.hid HTL.out
  clear hN o5 hb5 HC HO3 HO4 HB3 HB4 HA1 HM1 HSM HP HOK HCUT HLEN HONE HONEL HTE
  have HBW := Lib.hid (HB.out)
  go_wp2
  go_loopw [8] (fun ov wr => ∃ (R : List MK) (Q : Nat) (ra : Option Addr) (rc : Nat), ov = .slice ra Q rc ∧ Q ≤ N ∧ Hid (R.length = Q ∧ Fol T R ∧ OwnMs w5.heap.size wr (.slice ra Q rc) R ∧ Below w5.heap.size w5 wr)) (fun ov _ => N - slenM ov)
  case atStart => exact ⟨[], 0, none, 0, rfl, Nat.zero_le _, rfl, fol_nil T, World.ownsRow_nil _ _ _ _, Below.refl _ _⟩
  case round =>
    obtain ⟨R, Q, ra, rc, rfl, hQN, HR⟩ := hrel
    obtain ⟨wo, rfl⟩ : ∃ wo : World, wo = wr := ⟨_, rfl⟩
    have HRO := Lib.hid (show ∀ q ∈ R, q.ok from fun q hq => HTOK.out q (HR.out.2.1.ok q hq))
    have HRA := Lib.hid (HR.out.2.2.1.at HRO.out)
    go_wp2
    go_loopw [9, 10] (fun kv iv wr => ∃ (i : Nat) (kz : Int), i ≤ N ∧ iv = .int .i64 (i : Nat) ∧ kv = .int .i64 kz ∧ Hid (Nxt T R i kz) ∧ Hid (On wo wr)) (fun _ iv _ => N - (intOf iv).toNat)
    case atStart => exact ⟨0, -1, Nat.zero_le _, rfl, rfl, nxt_zero T R, Below.refl _ _⟩
    case round =>
      obtain ⟨i, kz, hi, rfl, rfl, HX, HON⟩ := hrel
      by_cases hlt : i < N
      · obtain ⟨y, hy⟩ : ∃ y, T[i]? = some y := ⟨_, List.getElem?_eq_getElem (by rw [HN.out]; exact hlt)⟩
        have hltz : (i : Int) < (N : Int) := by omega
        have hbw : Below w5.heap.size w5 wr := HR.out.2.2.2.trans (HON.out.mono HR.out.2.2.2.size)
        obtain ⟨tb, toff, rfl, -, hc⟩ := MsAt.cell (HT.out.below hbw) hy
        obtain ⟨c0, -, -⟩ := hc wr (Below.refl _ _)
        have HY := Lib.hid hy
        clear hc hbw hy
        rcases Nat.eq_zero_or_pos Q with h0 | h0
        · subst h0
          have HBH := Lib.hid (show Bh R y by rw [List.eq_nil_of_length_eq_zero HR.out.1]; exact bh_nil y)
          by_cases hk0 : kz < 0
          · have d1 : decide (kz < 0) = true := decide_eq_true hk0
            have HN1 := Lib.hid (show Nxt T R (i + 1) (i : Nat) from by rcases HX.out with ⟨rfl, -⟩ | ⟨n, x, rfl, -⟩; exact nxt_first HX.out HY.out HBH.out; omega)
            clear hk0
            go_wp2_with fail
            go_quiet (fail)
            go_wp2_with fail
            go_quiet (fail)
            go_wp2
            go_roundw
            case rel => exact ⟨i + 1, (i : Nat), by omega, by go_num, rfl, HN1, Lib.hid (drewN_below HON.out _)⟩
            case measure => simp [intOf]; omega
          · obtain ⟨n, x, rfl, hni, hx, -⟩ := nxt_at HX.out hk0
            have d1 : decide (((n : Nat) : Int) < 0) = false := decide_eq_false (by omega)
            have hnN : n < N := by omega
            have hnz : (n : Int) < (N : Int) := by omega
            obtain ⟨tb', toff', hte, -, hc'⟩ := MsAt.cell (HT.out.below (HR.out.2.2.2.trans (HON.out.mono HR.out.2.2.2.size))) hx
            cases hte
            obtain ⟨c0', -, -⟩ := hc' wr (Below.refl _ _)
            have HXN := Lib.hid hx
            clear hc' hx hk0
            by_cases hle : y.p ≤ x.p
            · have d2 : decide (y.p ≤ x.p) = true := decide_eq_true hle
              have HN1 := Lib.hid (show Nxt T R (i + 1) (i : Nat) from nxt_less HX.out HXN.out HY.out HBH.out hle)
              clear hle
              go_wp2_with fail
              go_quiet (fail)
              go_wp2_with fail
              go_quiet (fail)
              go_wp2
              go_roundw
              case rel => exact ⟨i + 1, (i : Nat), by omega, by go_num, rfl, HN1, Lib.hid (drewN_below HON.out _)⟩
              case measure => simp [intOf]; omega
            · have d2 : decide (y.p ≤ x.p) = false := decide_eq_false hle
              have HN1 := Lib.hid (show Nxt T R (i + 1) (n : Nat) from nxt_more HX.out HXN.out HY.out hle)
              clear hle
              go_wp2_with fail
              go_quiet (fail)
              go_wp2_with fail
              go_quiet (fail)
              go_wp2
              go_roundw
              case rel => exact ⟨i + 1, (n : Nat), by omega, by go_num, rfl, HN1, Lib.hid (drewN_below HON.out _)⟩
              case measure => simp [intOf]; omega
        · obtain ⟨m, rfl⟩ : ∃ m, Q = m + 1 := ⟨Q - 1, by omega⟩
          obtain ⟨q, hq⟩ : ∃ q, R[m]? = some q := ⟨_, List.getElem?_eq_getElem (by rw [HR.out.1]; omega)⟩
          have HBI := Lib.hid (bh_last HR.out.2.1.ris HR.out.1 hq y)
          obtain ⟨rb, roff, rfl, -, hc''⟩ := MsAt.cell (HRA.out.below HON.out) hq
          obtain ⟨r0, -, -⟩ := hc'' wr (Below.refl _ _)
          have hmN : m < N := by omega
          have g0 : ((m : Int) + 1 == 0) = false := beq_eq_false_iff_ne.2 (by omega)
          have g1 : IntKind.i64.wrap (m : Int) = (m : Int) := (Go.IntWalk.i64_left _).trans (by have := HNS.out; unfold wrap64; omega)
          clear hc'' hq h0
          by_cases hbh : Bh R y
          · have d3 : decide (q.p < y.p) = true := decide_eq_true (HBI.out.1 hbh)
            have HBH := Lib.hid hbh
            clear hbh
            by_cases hk0 : kz < 0
            · have d1 : decide (kz < 0) = true := decide_eq_true hk0
              have HN1 := Lib.hid (show Nxt T R (i + 1) (i : Nat) from by rcases HX.out with ⟨rfl, -⟩ | ⟨n, x, rfl, -⟩; exact nxt_first HX.out HY.out HBH.out; omega)
              clear hk0
              go_wp2_with fail
              go_quiet (fail)
              go_wp2_with fail
              go_quiet (fail)
              go_wp2
              go_roundw
              case rel => exact ⟨i + 1, (i : Nat), by omega, by go_num, rfl, HN1, Lib.hid (drewN_below HON.out _)⟩
              case measure => simp [intOf]; omega
            · obtain ⟨n, x, rfl, hni, hx, -⟩ := nxt_at HX.out hk0
              have d1 : decide (((n : Nat) : Int) < 0) = false := decide_eq_false (by omega)
              have hnN : n < N := by omega
              have hnz : (n : Int) < (N : Int) := by omega
              obtain ⟨tb', toff', hte, -, hc'⟩ := MsAt.cell (HT.out.below (HR.out.2.2.2.trans (HON.out.mono HR.out.2.2.2.size))) hx
              cases hte
              obtain ⟨c0', -, -⟩ := hc' wr (Below.refl _ _)
              have HXN := Lib.hid hx
              clear hc' hx hk0
              by_cases hle : y.p ≤ x.p
              · have d2 : decide (y.p ≤ x.p) = true := decide_eq_true hle
                have HN1 := Lib.hid (show Nxt T R (i + 1) (i : Nat) from nxt_less HX.out HXN.out HY.out HBH.out hle)
                clear hle
                go_wp2_with fail
                go_quiet (fail)
                go_wp2_with fail
                go_quiet (fail)
                go_wp2
                go_roundw
                case rel => exact ⟨i + 1, (i : Nat), by omega, by go_num, rfl, HN1, Lib.hid (drewN_below HON.out _)⟩
                case measure => simp [intOf]; omega
              · have d2 : decide (y.p ≤ x.p) = false := decide_eq_false hle
                have HN1 := Lib.hid (show Nxt T R (i + 1) (n : Nat) from nxt_more HX.out HXN.out HY.out hle)
                clear hle
                go_wp2_with fail
                go_quiet (fail)
                go_wp2_with fail
                go_quiet (fail)
                go_wp2
                go_roundw
                case rel => exact ⟨i + 1, (n : Nat), by omega, by go_num, rfl, HN1, Lib.hid (drewN_below HON.out _)⟩
                case measure => simp [intOf]; omega
          · have d3 : decide (q.p < y.p) = false := decide_eq_false (fun h => hbh (HBI.out.2 h))
            have HN1 := Lib.hid (show Nxt T R (i + 1) kz from nxt_pass HX.out HY.out hbh)
            clear hbh
            go_wp2_with fail
            go_quiet (fail)
            go_wp2_with fail
            go_quiet (fail)
            go_wp2
            go_roundw
            case rel => exact ⟨i + 1, kz, by omega, by go_num, rfl, HN1, Lib.hid (drewN_below HON.out _)⟩
            case measure => simp [intOf]; omega
      · obtain rfl : i = N := by omega
        have HBW2 := Lib.hid (show Below w5.heap.size w5 wr from HR.out.2.2.2.trans (HON.out.mono HR.out.2.2.2.size))
        have HOW := Lib.hid (show OwnMs w5.heap.size wr (.slice ra Q rc) R from HR.out.2.2.1.kept HON.out (Nat.le_refl _))
        by_cases hk0 : kz < 0
        · have d1 : decide (kz < 0) = true := decide_eq_true hk0
          have HE := Lib.hid (show IsFold T R from by rcases HX.out with ⟨rfl, -⟩ | ⟨n, x, rfl, -⟩; exact fol_end HN.out HR.out.2.1 HX.out; omega)
          have HZ := Lib.hid (show OwnMs w.heap.size wr (.slice ra Q rc) R ∧ Below w.heap.size w wr from ⟨HOW.out.base_le HB.out.size, HB.out.trans (HBW2.out.mono HB.out.size)⟩)
          clear hk0
          go_wp2
          go_ret
          exact ⟨_, R, rfl, HZ.out.1, HRO.out, HE.out, HZ.out.2⟩
        · obtain ⟨n, x, rfl, hni, hx, -⟩ := nxt_at HX.out hk0
          have d1 : decide (((n : Nat) : Int) < 0) = false := decide_eq_false (by omega)
          have hnz : (n : Int) < (i : Int) := by omega
          obtain ⟨tb', toff', rfl, -, hc'⟩ := MsAt.cell (HT.out.below HBW2.out) hx
          obtain ⟨c0, c1, c2⟩ := hc' wr (Below.refl _ _)
          have HNX := Lib.hid (show R.length = Q ∧ Fol T (R ++ [x]) ∧ R.length + 1 ≤ i from ⟨HR.out.1, fol_next HN.out HR.out.2.1 HX.out hx⟩)
          have HBX := Lib.hid (show BoxC (wr.alloc (.cells #[.int .i64 x.p, .int .u64 x.s, .int .u64 x.o] 26)) wr.heap.size 26 x.cells.toArray from BoxC.new wr 26 x.cells.toArray)
          have HOA := Lib.hid (show OwnMs w5.heap.size (wr.alloc (.cells #[.int .i64 x.p, .int .u64 x.s, .int .u64 x.o] 26)) (.slice ra Q rc) R ∧ Below w5.heap.size w5 (wr.alloc (.cells #[.int .i64 x.p, .int .u64 x.s, .int .u64 x.o] 26)) from
            ⟨HOW.out.kept (Go.Joins.below_alloc1 wr _) (Nat.le_refl _), HBW2.out.trans ((Go.Joins.below_alloc1 wr _).mono HBW2.out.size)⟩)
          have HSM := Lib.hid (show R.length + 1 ≤ 1000000 by have := HNX.out.2.2; have := HNS.out; omega)
          have HONE := Lib.hid (mk_oneCell x)
          clear hk0 hc' hx
          go_wp2_with (at_builtin; refine wpList_app_one rfl _ _ 22 26 3 24 _ MK.cells rfl Try.underlying22 info26 rfl (by decide) (by decide) (fun _ => rfl) w5.heap.size _ R x wr.heap.size rfl rfl HOA.out.1 HBX.out HONE.out HSM.out HOA.out.2.size ?_; intro g5 c5 w6 hg5; have HZ := Lib.hid (show OwnMs w5.heap.size w6 (.slice (some ⟨g5, 0, none⟩) (R.length + 1) c5) (R ++ [x]) ∧ Below w5.heap.size w5 w6 from ⟨hg5.1, HOA.out.2.grown hg5.2.1 HOA.out.2.size (fun j hj => (OwnRow.lt HOA.out.1 j hj).1)⟩); clear hg5)
          go_roundw
          case rel => exact ⟨R ++ [x], R.length + 1, _, _, rfl, HNX.out.2.2, by simp, HNX.out.2.1, HZ.out.1, HZ.out.2⟩
          case measure => have := HNX.out.1; have := HNX.out.2.2; simp [slenM]; omega
end Go.Proofs.Ytclchlcfcnlmhaa
