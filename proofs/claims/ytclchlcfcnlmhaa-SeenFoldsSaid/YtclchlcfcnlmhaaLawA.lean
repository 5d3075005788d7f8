/- SeenAsks: what is asked of any row is the document's. -/
import Derived.Test.YtclchlcfcnlmhaaFi
namespace Go.Proofs.Ytclchlcfcnlmhaa
open Go.RowKit Go.Maps Go.Shelf
set_option linter.unusedSimpArgs false
theorem OwnMs.made (w : World) : OwnMs w.heap.size (w.alloc (.cells #[] 26)) (.slice (some ⟨w.heap.size, 0, none⟩) 0 0) [] := OwnRow.made w
theorem bool_iff {a b : Bool} {P : Prop} (h : a = true ↔ P) (k : b = true ↔ P) : a = b := by
  cases a <;> cases b <;> simp_all
theorem rej_okM {p : MK → Bool} {l : List MK} (h : ∀ q ∈ l, q.ok) : ∀ q ∈ rej p l, q.ok := fun q hq => h q (List.mem_filter.1 hq).1
set_option maxRecDepth 100000 in
set_option maxHeartbeats 4000000 in
theorem asks_any (vl vm : Value) (l m : List MK) (p s a : Int) (w : World) (hl : MsAt w vl l) (hm : MsAt w vm m) :
    Calls Try.prog 3 #[vl, vm, .int .i64 p, .int .u64 s, .int .u64 a] w fun e w' => e = .returned (.bool true) ∧ Below w.heap.size w w' := by
  have HP := Lib.hid (And.intro hl hm)
  have HONE := Lib.hid (ms_oneCell l)
  obtain ⟨l0, cl, rfl, -⟩ := hl
  obtain ⟨m0, cm, rfl, -⟩ := hm
  obtain ⟨L, hL⟩ : ∃ L, l.length = L := ⟨_, rfl⟩
  obtain ⟨M, hM⟩ : ∃ M, m.length = M := ⟨_, rfl⟩
  rw [hL, hM] at HP ⊢
  have HL := Lib.hid hL
  have HB := Lib.hid (Below.refl w.heap.size w)
  clear hL hM
  go_enter Try.func3, Try.ntmps3
  by_cases h1 : (1000 : Int) < (L : Int)
  · go_wp2_with fail
    refine (awake_any _).mono ?_
    rintro e wz ⟨rfl, hbz⟩
    have HZ := Lib.hid (HB.out.trans (hbz.mono HB.out.size))
    clear hbz
    go_wp2
    go_ret
    exact ⟨rfl, HZ.out⟩
  by_cases h2 : (1000 : Int) < (M : Int)
  · go_wp2_with fail
    refine (awake_any _).mono ?_
    rintro e wz ⟨rfl, hbz⟩
    have HZ := Lib.hid (HB.out.trans (hbz.mono HB.out.size))
    clear hbz
    go_wp2
    go_ret
    exact ⟨rfl, HZ.out⟩
  have HM1 := Lib.hid (OwnMs.made w)
  have HA1 := Lib.hid (show MsAt (w.alloc (.cells #[] 26)) (.slice l0 L cl) l ∧ Below w.heap.size w (w.alloc (.cells #[] 26)) from ⟨HP.out.1.below (Go.Joins.below_alloc1 w _), Go.Joins.below_alloc1 w _⟩)
  have HSM := Lib.hid (show ([] : List MK).length + l.length ≤ 1000000 by have := HL.out; simp; omega)
  have HL1 := Lib.hid (show l.length ≤ 1000 by have := HL.out; omega)
  go_wp2_with (first
    | (at_builtin; refine wpList_append_rows rfl _ _ 22 26 3 24 _ MK.cells rfl Try.underlying22 info26 rfl (by decide) (by decide) (fun _ => rfl) w.heap.size _ _ [] l rfl rfl HM1.out HA1.out.1 HONE.out HSM.out HA1.out.2.size ?_; intro v3 w3 ho3 hg3; have HO3 := Lib.hid (show OwnMs w.heap.size w3 v3 l from ho3); have HB := Lib.hid (HA1.out.2.grown hg3 HA1.out.2.size (fun j hj => (OwnRow.lt HM1.out j hj).1)); clear ho3 hg3)
    | fail)
  have HW := Lib.hid (HO3.out.at HP.out.1.ok)
  obtain ⟨wa, wc, rfl, -⟩ := HW.out.form
  have HCALL := Lib.hid (last_any _ l p w3 (HP.out.1.below HB.out))
  go_wp2_with fail
  refine HCALL.out.mono ?_
  rintro e wa1 ⟨rfl, hbc⟩
  clear HCALL
  have HW := Lib.hid (HW.out.below hbc)
  have HB := Lib.hid (HB.out.trans (hbc.mono HB.out.size))
  clear hbc
  have HX1 := Lib.hid (BoxC.new wa1 26 ((lst l p).getD zMK).cells.toArray)
  obtain ⟨g1, hg1⟩ : ∃ g1, wa1.heap.size = g1 := ⟨_, rfl⟩
  obtain ⟨W4, hW4⟩ : ∃ W4, W4 = wa1.alloc (.cells ((lst l p).getD zMK).cells.toArray 26) := ⟨_, rfl⟩
  have hb4 : Below wa1.heap.size wa1 W4 := by rw [hW4]; exact Go.Joins.below_alloc1 wa1 _
  have HX1 := Lib.hid (show BoxC W4 g1 26 ((lst l p).getD zMK).cells.toArray by rw [hW4, ← hg1]; exact HX1.out)
  have HB := Lib.hid (HB.out.trans (hb4.mono HB.out.size))
  have HW := Lib.hid (HW.out.below hb4)
  clear hb4
  unfold lastV
  unfold MK.cells at hW4
  go_upto_region 5 with fail
  rw [← hW4]
  clear hW4 hg1
  have HR2 := Lib.hid (rlast_any _ l p W4 HW.out)
  go_wp2_with fail
  refine HR2.out.mono ?_
  rintro e wa2 ⟨rfl, hb5⟩
  have HX1 := Lib.hid (HX1.out.below hb5)
  have HB := Lib.hid (HB.out.trans (hb5.mono HB.out.size))
  have HW := Lib.hid (HW.out.below hb5)
  clear hb5
  have HX2 := Lib.hid (BoxC.new wa2 26 ((lst l p).getD zMK).cells.toArray)
  obtain ⟨g2, hg2⟩ : ∃ g2, wa2.heap.size = g2 := ⟨_, rfl⟩
  obtain ⟨W5, hW5⟩ : ∃ W5, W5 = wa2.alloc (.cells ((lst l p).getD zMK).cells.toArray 26) := ⟨_, rfl⟩
  have hb5 : Below wa2.heap.size wa2 W5 := by rw [hW5]; exact Go.Joins.below_alloc1 wa2 _
  have HX2 := Lib.hid (show BoxC W5 g2 26 ((lst l p).getD zMK).cells.toArray by rw [hW5, ← hg2]; exact HX2.out)
  have HX1 := Lib.hid (HX1.out.below hb5)
  have HB := Lib.hid (HB.out.trans (hb5.mono HB.out.size))
  have HW := Lib.hid (HW.out.below hb5)
  clear hb5
  unfold lastV
  unfold MK.cells at hW5
  go_upto_region 6 with fail
  rw [← hW5]
  clear hW5 hg2
  obtain ⟨qk, hqk⟩ : ∃ q, (lst l p).getD zMK = q := ⟨_, rfl⟩
  obtain ⟨qb, hqb⟩ : ∃ q, (lst l p).isSome = q := ⟨_, rfl⟩
  rw [hqk] at HX1 HX2
  rw [hqk, hqb]
  clear hqk hqb
  obtain ⟨ak, an, hak⟩ : ∃ a b, askV l p s = (a, b) := ⟨_, _, rfl⟩
  have HAK := Lib.hid hak
  clear hak
  have HCALL := Lib.hid (show Calls Try.prog 12 #[.slice l0 L cl, .int .i64 p, .int .u64 s] W5 fun e w' => e = .returned (.tuple #[.int .i64 ak, .int .u64 an]) ∧ Below W5.heap.size W5 w' from by have := ask_any _ l p s W5 (HP.out.1.below HB.out); rw [HAK.out] at this; exact this)
  go_wp2_with fail
  refine HCALL.out.mono ?_
  rintro e wb1 ⟨rfl, hbc⟩
  clear HCALL
  have HW := Lib.hid (HW.out.below hbc)
  have HX1 := Lib.hid (HX1.out.below hbc)
  have HX2 := Lib.hid (HX2.out.below hbc)
  have HB := Lib.hid (HB.out.trans (hbc.mono HB.out.size))
  clear hbc
  have HCALL := Lib.hid (show Calls Try.prog 13 #[.slice wa l.length wc, .int .i64 p, .int .u64 s] wb1 fun e w' => e = .returned (.tuple #[.int .i64 ak, .int .u64 an]) ∧ Below wb1.heap.size wb1 w' from by have := rask_any _ l p s wb1 HW.out; rw [HAK.out] at this; exact this)
  go_wp2_with fail
  refine HCALL.out.mono ?_
  rintro e wb2 ⟨rfl, hbc⟩
  clear HCALL
  have HW := Lib.hid (HW.out.below hbc)
  have HX1 := Lib.hid (HX1.out.below hbc)
  have HX2 := Lib.hid (HX2.out.below hbc)
  have HB := Lib.hid (HB.out.trans (hbc.mono HB.out.size))
  clear hbc
  have HMY := Lib.hid (mayR_any _ l wb2 (HP.out.1.below HB.out))
  go_wp2_with fail
  refine HMY.out.mono ?_
  rintro e wc1 ⟨bb1, rfl, hb1, hbc⟩
  have HI1 := Lib.hid hb1
  have HW := Lib.hid (HW.out.below hbc)
  have HX1 := Lib.hid (HX1.out.below hbc)
  have HX2 := Lib.hid (HX2.out.below hbc)
  have HB := Lib.hid (HB.out.trans (hbc.mono HB.out.size))
  clear hbc
  have HMY2 := Lib.hid (rmayR_any _ l wc1 HW.out (by have := HL1.out; omega))
  go_wp2_with fail
  refine HMY2.out.mono ?_
  rintro e wc2 ⟨bb2, rfl, hb2, hbc⟩
  have hbe : bb1 = bb2 := bool_iff HI1.out hb2
  subst hbe
  have HW := Lib.hid (HW.out.below hbc)
  have HX1 := Lib.hid (HX1.out.below hbc)
  have HX2 := Lib.hid (HX2.out.below hbc)
  have HB := Lib.hid (HB.out.trans (hbc.mono HB.out.size))
  clear hbc
  clear hb1 hb2
  have e0 : (bb1 == bb1) = true := by simp
  obtain ⟨sm, hsm⟩ : ∃ b, decide (l = m) = b := ⟨_, rfl⟩
  have e1 : (sm == sm) = true := by simp
  have HS1 := Lib.hid (same_any _ _ l m wc2 (HP.out.1.below HB.out) (HP.out.2.below HB.out))
  rw [hsm] at HS1
  go_wp2_with fail
  refine HS1.out.mono ?_
  rintro e wd1 ⟨rfl, hbc⟩
  have HW := Lib.hid (HW.out.below hbc)
  have HX1 := Lib.hid (HX1.out.below hbc)
  have HX2 := Lib.hid (HX2.out.below hbc)
  have HB := Lib.hid (HB.out.trans (hbc.mono HB.out.size))
  clear hbc
  have HS2 := Lib.hid (rsame_any _ _ l m wd1 (HP.out.1.below HB.out) (HP.out.2.below HB.out))
  rw [hsm] at HS2
  clear hsm
  go_wp2_with fail
  refine HS2.out.mono ?_
  rintro e wd2 ⟨rfl, hbc⟩
  have HW := Lib.hid (HW.out.below hbc)
  have HX1 := Lib.hid (HX1.out.below hbc)
  have HX2 := Lib.hid (HX2.out.below hbc)
  have HB := Lib.hid (HB.out.trans (hbc.mono HB.out.size))
  clear hbc
  have hs3 := same_any _ _ l l wd2 (HP.out.1.below HB.out) (HP.out.1.below HB.out)
  rw [decide_eq_true rfl] at hs3
  have HS3 := Lib.hid hs3
  clear hs3
  go_wp2_with fail
  refine HS3.out.mono ?_
  rintro e we ⟨rfl, hbc⟩
  have HW := Lib.hid (HW.out.below hbc)
  have HX1 := Lib.hid (HX1.out.below hbc)
  have HX2 := Lib.hid (HX2.out.below hbc)
  have HB := Lib.hid (HB.out.trans (hbc.mono HB.out.size))
  clear hbc
  have x0 : we.cell? ⟨g1, 0, none⟩ = some (.int .i64 qk.p) := HX1.out.cell 0
  have x1 : we.cell? ⟨g1, 1, none⟩ = some (.int .u64 qk.s) := HX1.out.cell 1
  have x2 : we.cell? ⟨g1, 2, none⟩ = some (.int .u64 qk.o) := HX1.out.cell 2
  have y0 : we.cell? ⟨g2, 0, none⟩ = some (.int .i64 qk.p) := HX2.out.cell 0
  have y1 : we.cell? ⟨g2, 1, none⟩ = some (.int .u64 qk.s) := HX2.out.cell 1
  have y2 : we.cell? ⟨g2, 2, none⟩ = some (.int .u64 qk.o) := HX2.out.cell 2
  have k1 := fun w => eql26 qk qk w
  rw [decide_eq_true (rfl : qk = qk)] at k1
  dsimp only [MK.val] at k1
  have kg := guard26
  have e2 : (qb == qb) = true := by simp
  have e3 : (ak == ak) = true := by simp
  have e4 : (an == an) = true := by simp
  have HC1 := Lib.hid (cut_any _ l a we (HP.out.1.below HB.out) (by have := HL1.out; omega))
  have HBe := Lib.hid HB.out
  have HWe := Lib.hid HW.out
  go_wp2_with fail
  refine HC1.out.mono ?_
  rintro e wf1 ⟨vf1, rfl, of1, hbc⟩
  have HF1 := Lib.hid of1
  have HBF := Lib.hid hbc
  have HC2 := Lib.hid (rcut_any _ l a wf1 (HW.out.below hbc) (by have := HL1.out; omega))
  clear of1 hbc x0 x1 x2 y0 y1 y2 k1
  go_wp2_with fail
  refine HC2.out.mono ?_
  rintro e wf2 ⟨vf2, rfl, of2, hbc⟩
  have his := is_any we.heap.size vf1 vf2 0 0 (cutM a l) (cutM a l) wf2 (HF1.out.kept hbc (Nat.le_refl _)) (rej_okM HP.out.1.ok) (of2.at (rej_okM HP.out.1.ok))
  rw [decide_eq_true rfl, decide_eq_true rfl] at his
  have HIS := Lib.hid his
  have HBF2 := Lib.hid (HBF.out.trans (hbc.mono HBF.out.size))
  have HOB := Lib.hid (show ∀ k, vf1.ownBlock = some k → we.heap.size ≤ k from fun k hk => (OwnRow.lt HF1.out k hk).1)
  clear of2 hbc his
  go_wp2_with fail
  refine HIS.out.mono ?_
  rintro e wg ⟨rfl, hc⟩
  have hbg : Below we.heap.size we wg := HBF2.out.trans (hc.below HBF2.out.size (fun k hk => HOB.out k hk))
  have HB := Lib.hid (HBe.out.trans (hbg.mono HBe.out.size))
  have hs4 := rsame_any _ _ l l wg (HP.out.1.below HB.out) (HWe.out.below hbg)
  rw [decide_eq_true rfl] at hs4
  have HS4 := Lib.hid hs4
  clear hs4 hbg hc
  go_wp2_with fail
  refine HS4.out.mono ?_
  rintro e wh ⟨rfl, hbc⟩
  have HB := Lib.hid (HB.out.trans (hbc.mono HB.out.size))
  clear hbc
  go_wp2_with fail
  refine (awake_any _).mono ?_
  rintro e wz ⟨rfl, hbz⟩
  have HZ := Lib.hid (HB.out.trans (hbz.mono HB.out.size))
  clear hbz
  go_wp2
  go_ret
  exact ⟨rfl, HZ.out⟩
end Go.Proofs.Ytclchlcfcnlmhaa
