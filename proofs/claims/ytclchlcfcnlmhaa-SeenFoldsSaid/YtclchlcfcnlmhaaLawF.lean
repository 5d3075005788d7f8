/- SeenFolds: each producer's last mark is the document's. -/
import Derived.Test.YtclchlcfcnlmhaaGa
import Derived.Test.YtclchlcfcnlmhaaLawA
namespace Go.Proofs.Ytclchlcfcnlmhaa
open Go.RowKit Go.Maps Go.Shelf
set_option linter.unusedSimpArgs false
set_option maxRecDepth 100000 in
set_option maxHeartbeats 4000000 in
theorem folds_any (vl vo : Value) (l o : List MK) (f : Int) (w : World) (hl : MsAt w vl l) (ho : MsAt w vo o) :
    Calls Try.prog 5 #[vl, vo, .int .u64 f] w fun e w' => e = .returned (.bool true) ∧ Below w.heap.size w w' := by
  have HP := Lib.hid (And.intro hl ho)
  have HB := Lib.hid (Below.refl w.heap.size w)
  have HOK := Lib.hid (And.intro hl.ok ho.ok)
  have HONE := Lib.hid (ms_oneCell l)
  have HONEO := Lib.hid (ms_oneCell o)
  obtain ⟨l0, cl, rfl, -⟩ := hl.form
  obtain ⟨o0, co, rfl, -⟩ := ho.form
  obtain ⟨L, hL⟩ : ∃ L, l.length = L := ⟨_, rfl⟩
  obtain ⟨M, hM⟩ : ∃ M, o.length = M := ⟨_, rfl⟩
  rw [hL, hM] at HP ⊢
  have HL := Lib.hid hL
  have HMM := Lib.hid hM
  clear hL hM hl ho
  go_enter Try.func5, Try.ntmps5
  by_cases h1 : (1000 : Int) < (L : Int)
  · go_wp2_with fail
    refine (awake_any _).mono ?_
    rintro e wz ⟨rfl, hbz⟩
    have HZ := Lib.hid (HB.out.trans (hbz.mono HB.out.size))
    clear hbz
    go_wp2
    go_ret
    exact ⟨rfl, HZ.out⟩
  by_cases h2 : (1000 : Int) < (M : Int)
  · go_wp2_with fail
    refine (awake_any _).mono ?_
    rintro e wz ⟨rfl, hbz⟩
    have HZ := Lib.hid (HB.out.trans (hbz.mono HB.out.size))
    clear hbz
    go_wp2
    go_ret
    exact ⟨rfl, HZ.out⟩
  have HLL := Lib.hid (show l.length ≤ 1000 ∧ o.length ≤ 1000 by have := HL.out; have := HMM.out; omega)
  have HM1 := Lib.hid (OwnMs.made w)
  have HA1 := Lib.hid (show MsAt (w.alloc (.cells #[] 26)) (.slice l0 L cl) l ∧ Below w.heap.size w (w.alloc (.cells #[] 26)) from ⟨HP.out.1.below (Go.Joins.below_alloc1 w _), Go.Joins.below_alloc1 w _⟩)
  have HSM := Lib.hid (show ([] : List MK).length + l.length ≤ 1000000 ∧ ([] : List MK).length + o.length ≤ 1000000 by have := HLL.out; simp; omega)
  go_wp2_with (first
    | (at_builtin; refine wpList_append_rows rfl _ _ 22 26 3 24 _ MK.cells rfl Try.underlying22 info26 rfl (by decide) (by decide) (fun _ => rfl) w.heap.size _ _ [] l rfl rfl HM1.out HA1.out.1 HONE.out HSM.out.1 HA1.out.2.size ?_; intro v3 w3 ho3 hg3; have HO3 := Lib.hid (show OwnMs w.heap.size w3 v3 l from ho3); have HB3 := Lib.hid (HA1.out.2.grown hg3 HA1.out.2.size (fun j hj => (OwnRow.lt HM1.out j hj).1)); clear ho3 hg3)
    | (at_builtin; refine wpList_append_rows rfl _ _ 22 26 3 24 _ MK.cells rfl Try.underlying22 info26 rfl (by decide) (by decide) (fun _ => rfl) w3.heap.size _ _ [] o rfl rfl (OwnMs.made w3) (((HP.out.2.below HB3.out)).below (Go.Joins.below_alloc1 w3 _)) HONEO.out HSM.out.2 (Go.Joins.below_alloc1 w3 _).size ?_; intro v4 w4 ho4 hg4; have HO4 := Lib.hid (show OwnMs w3.heap.size w4 v4 o from ho4); have HB4 := Lib.hid (show Below w3.heap.size w3 w4 from (Go.Joins.below_alloc1 w3 (.cells #[] 26)).grown hg4 (Go.Joins.below_alloc1 w3 (.cells #[] 26)).size (fun j hj => (OwnRow.lt (OwnMs.made w3) j hj).1)); clear ho4 hg4)
    | fail)
  have HV3 := Lib.hid ((HO3.out.at HOK.out.1).below HB4.out)
  have HV4 := Lib.hid (HO4.out.at HOK.out.2)
  have hbb := HB3.out.trans (HB4.out.mono HB3.out.size)
  have HP := Lib.hid (show MsAt w4 (.slice l0 L cl) l ∧ MsAt w4 (.slice o0 M co) o from ⟨HP.out.1.below hbb, HP.out.2.below hbb⟩)
  have HB := Lib.hid (HB.out.trans (hbb.mono HB.out.size))
  clear hbb
  have HC1 := Lib.hid (fold_any _ _ l o f w4 HP.out.1 HP.out.2 HLL.out.1 HLL.out.2)
  refine HC1.out.mono ?_
  rintro e w5 ⟨v5, X, rfl, o5, f5, hb5⟩
  have HO5 := Lib.hid o5
  have HF5 := Lib.hid f5
  have HB5 := Lib.hid hb5
  clear o5 f5 hb5
  have HC2 := Lib.hid (rfold_any v3 v4 l o f w5 (HV3.out.below HB5.out) (HV4.out.below HB5.out) HLL.out.1 HLL.out.2)
  go_wp2_with fail
  refine HC2.out.mono ?_
  rintro e w6 ⟨v6, X', rfl, o6, hXok, f6, hb6⟩
  obtain rfl : X = X' := ris_ext HF5.out.1 f6.1 (fun p => (HF5.out.2 p).trans (f6.2 p).symm)
  have o5 := HO5.out
  clear f6
  have his := is_any w4.heap.size v5 v6 0 0 X X w6 (o5.kept hb6 (Nat.le_refl _)) hXok (o6.at hXok)
  rw [decide_eq_true rfl, decide_eq_true rfl] at his
  have HIS := Lib.hid his
  have HBN := Lib.hid (HB5.out.trans (hb6.mono HB5.out.size))
  have HOB := Lib.hid (show ∀ k, (v5).ownBlock = some k → w4.heap.size ≤ k from fun k hk => (OwnRow.lt o5 k hk).1)
  clear his hb6 o5 o6 hXok
  go_wp2_with fail
  refine HIS.out.mono ?_
  rintro e wf ⟨rfl, hch⟩
  have hbn : Below w4.heap.size w4 wf := HBN.out.trans (hch.below HBN.out.size (fun k hk => HOB.out k hk))
  have HP := Lib.hid (show MsAt wf (.slice l0 L cl) l ∧ MsAt wf (.slice o0 M co) o from ⟨HP.out.1.below hbn, HP.out.2.below hbn⟩)
  have HV3 := Lib.hid (HV3.out.below hbn)
  have HV4 := Lib.hid (HV4.out.below hbn)
  have HB := Lib.hid (HB.out.trans (hbn.mono HB.out.size))
  clear hbn hch
  have hs1 := rsame_any _ v3 l l wf HP.out.1 HV3.out
  rw [decide_eq_true rfl] at hs1
  have HS1 := Lib.hid hs1
  clear hs1
  go_wp2_with fail
  refine HS1.out.mono ?_
  rintro e wg ⟨rfl, hbg⟩
  have HB := Lib.hid (HB.out.trans (hbg.mono HB.out.size))
  have hs2 := rsame_any _ v4 o o wg (HP.out.2.below hbg) (HV4.out.below hbg)
  rw [decide_eq_true rfl] at hs2
  have HS2 := Lib.hid hs2
  clear hs2 hbg
  go_wp2_with fail
  refine HS2.out.mono ?_
  rintro e wh ⟨rfl, hbh⟩
  have HB := Lib.hid (HB.out.trans (hbh.mono HB.out.size))
  clear hbh
  go_wp2_with fail
  refine (awake_any _).mono ?_
  rintro e wz ⟨rfl, hbz⟩
  have HZ := Lib.hid (HB.out.trans (hbz.mono HB.out.size))
  clear hbz
  go_wp2
  go_ret
  exact ⟨rfl, HZ.out⟩
end Go.Proofs.Ytclchlcfcnlmhaa
