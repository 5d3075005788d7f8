/- SeenGoes: a row into which a mark, entries, another row went is the document's. -/
import Derived.Test.YtclchlcfcnlmhaaFk
import Derived.Test.YtclchlcfcnlmhaaLawA
namespace Go.Proofs.Ytclchlcfcnlmhaa
open Go.RowKit Go.Maps Go.Shelf
set_option linter.unusedSimpArgs false
/-- two answers of one shape read alike -/
theorem two_posts {P : Prop} {r : Option (List MK)} {base base' : Nat} {w w' : World} {v v' : Value} {z z' : Int}
    (h : (¬ P ∧ z = 1 ∧ v = .slice none 0 0) ∨ (P ∧ IntoPost base w v z r)) (h' : (¬ P ∧ z' = 1 ∧ v' = .slice none 0 0) ∨ (P ∧ IntoPost base' w' v' z' r)) (hok : P → ∀ x, r = some x → ∀ m ∈ x, m.ok) :
    z = z' ∧ ∃ x, (∀ m ∈ x, m.ok) ∧ OwnMs base w v x ∧ OwnMs base' w' v' x := by
  rcases h with ⟨hn, rfl, rfl⟩ | ⟨hp, h⟩
  · rcases h' with ⟨-, rfl, rfl⟩ | ⟨hp', -⟩
    · exact ⟨rfl, [], by simp, World.ownsRow_nil _ _ _ _, World.ownsRow_nil _ _ _ _⟩
    · exact absurd hp' hn
  · rcases h' with ⟨hn', -⟩ | ⟨-, h'⟩
    · exact absurd hp hn'
    · rcases h with ⟨x, hx, rfl, ho⟩ | ⟨hx, rfl, rfl⟩
      · rcases h' with ⟨x', hx', rfl, ho'⟩ | ⟨hx', -⟩
        · rw [hx] at hx'
          cases hx'
          exact ⟨rfl, x, hok hp x hx, ho, ho'⟩
        · rw [hx] at hx'; cases hx'
      · rcases h' with ⟨x', hx', -⟩ | ⟨-, rfl, rfl⟩
        · rw [hx] at hx'; cases hx'
        · exact ⟨rfl, [], by simp, World.ownsRow_nil _ _ _ _, World.ownsRow_nil _ _ _ _⟩
theorem into_ok {l ms x : List MK} (hl : MayR l) (hm : ∀ m ∈ ms, m.may) (h : intoR l ms = some x) : ∀ m ∈ x, m.ok := by
  rw [intoR_eq hl.ris hl.len] at h
  by_cases hc : (merge l ms).length ≤ 6
  · rw [if_pos hc] at h
    cases h
    exact fun m hm' => (may_merge hl.may hm m hm').ok
  · rw [if_neg hc] at h; cases h
set_option maxRecDepth 100000 in
set_option maxHeartbeats 4000000 in
theorem goes_any (vl vo ve : Value) (l o : List MK) (m : MK) (f : Int) (es : List EN) (w : World) (hl : MsAt w vl l) (ho : MsAt w vo o) (hm : m.ok) (hf : 0 ≤ f ∧ f ≤ 18446744073709551615) (he : EsAt w ve es) :
    Calls Try.prog 4 #[vl, vo, m.val, .int .u64 f, ve] w fun e w' => e = .returned (.bool true) ∧ Below w.heap.size w w' := by
  obtain ⟨W, hW⟩ : ∃ W, W = w.alloc (.cells #[.int .i64 m.p, .int .u64 m.s, .int .u64 m.o] 26) := ⟨_, rfl⟩
  have hB : Below w.heap.size w W := by rw [hW]; exact Go.Joins.below_alloc1 w _
  obtain ⟨gm, hgm⟩ : ∃ gm, w.heap.size = gm := ⟨_, rfl⟩
  have hx : BoxC W gm 26 m.cells.toArray := by rw [hW, ← hgm]; exact BoxC.new w 26 m.cells.toArray
  have HPW := Lib.hid (show MsAt W vl l ∧ MsAt W vo o ∧ EsAt W ve es from ⟨hl.below hB, ho.below hB, he.below hB⟩)
  have HOK := Lib.hid (And.intro hl.ok (And.intro ho.ok (And.intro hm hf)))
  have HX := Lib.hid hx
  have HBW := Lib.hid (hgm ▸ hB)
  have HONE := Lib.hid (ms_oneCell l)
  have HONEO := Lib.hid (ms_oneCell o)
  have HLO := Lib.hid (long_any ve es W (he.below hB))
  obtain ⟨l0, cl, rfl, -⟩ := hl.form
  obtain ⟨o0, co, rfl, -⟩ := ho.form
  obtain ⟨L, hL⟩ : ∃ L, l.length = L := ⟨_, rfl⟩
  obtain ⟨M, hM⟩ : ∃ M, o.length = M := ⟨_, rfl⟩
  rw [hL, hM] at HPW ⊢
  have HL := Lib.hid hL
  have HMM := Lib.hid hM
  have HGM := Lib.hid hgm
  have HB := Lib.hid hB
  clear hL hM hB hx hl ho hm hf he
  go_enter Try.func4, Try.ntmps4
  go_upto_region 1 with fail
  rw [← hW]
  clear hW hgm
  by_cases h1 : (1000 : Int) < (L : Int)
  · go_wp2_with fail
    refine (awake_any _).mono ?_
    rintro e wz ⟨rfl, hbz⟩
    have HZ := Lib.hid (HB.out.trans (hbz.mono HB.out.size))
    clear hbz
    go_wp2
    go_ret
    exact ⟨rfl, HZ.out⟩
  by_cases h2 : (1000 : Int) < (M : Int)
  · go_wp2_with fail
    refine (awake_any _).mono ?_
    rintro e wz ⟨rfl, hbz⟩
    have HZ := Lib.hid (HB.out.trans (hbz.mono HB.out.size))
    clear hbz
    go_wp2
    go_ret
    exact ⟨rfl, HZ.out⟩
  go_wp2_with fail
  refine HLO.out.mono ?_
  rintro e wa ⟨ba, rfl, hba, hbb⟩
  have HB := Lib.hid (HB.out.trans (hbb.mono HB.out.size))
  cases ba
  rotate_left
  · clear hba hbb
    go_wp2_with fail
    refine (awake_any _).mono ?_
    rintro e wz ⟨rfl, hbz⟩
    have HZ := Lib.hid (HB.out.trans (hbz.mono HB.out.size))
    clear hbz
    go_wp2
    go_ret
    exact ⟨rfl, HZ.out⟩
  have HEL := Lib.hid (hba rfl)
  have HP := Lib.hid (show MsAt wa (.slice l0 L cl) l ∧ MsAt wa (.slice o0 M co) o ∧ EsAt wa ve es from ⟨HPW.out.1.below hbb, HPW.out.2.1.below hbb, HPW.out.2.2.below hbb⟩)
  have HX := Lib.hid (HX.out.below hbb)
  have HLL := Lib.hid (show l.length ≤ 1000 ∧ o.length ≤ 1000 by have := HL.out; have := HMM.out; omega)
  clear hba hbb HLO
  have HM1 := Lib.hid (OwnMs.made wa)
  have HA1 := Lib.hid (show MsAt (wa.alloc (.cells #[] 26)) (.slice l0 L cl) l ∧ Below wa.heap.size wa (wa.alloc (.cells #[] 26)) from ⟨HP.out.1.below (Go.Joins.below_alloc1 wa _), Go.Joins.below_alloc1 wa _⟩)
  have HSM := Lib.hid (show ([] : List MK).length + l.length ≤ 1000000 ∧ ([] : List MK).length + o.length ≤ 1000000 by have := HLL.out; simp; omega)
  go_upto_region 4 with (first
    | (at_builtin; refine wpList_append_rows rfl _ _ 22 26 3 24 _ MK.cells rfl Try.underlying22 info26 rfl (by decide) (by decide) (fun _ => rfl) wa.heap.size _ _ [] l rfl rfl HM1.out HA1.out.1 HONE.out HSM.out.1 HA1.out.2.size ?_; intro v3 w3 ho3 hg3; have HO3 := Lib.hid (show OwnMs wa.heap.size w3 v3 l from ho3); have HB3 := Lib.hid (HA1.out.2.grown hg3 HA1.out.2.size (fun j hj => (OwnRow.lt HM1.out j hj).1)); clear ho3 hg3)
    | (at_builtin; refine wpList_append_rows rfl _ _ 22 26 3 24 _ MK.cells rfl Try.underlying22 info26 rfl (by decide) (by decide) (fun _ => rfl) w3.heap.size _ _ [] o rfl rfl (OwnMs.made w3) (((HP.out.2.1.below HB3.out)).below (Go.Joins.below_alloc1 w3 _)) HONEO.out HSM.out.2 (Go.Joins.below_alloc1 w3 _).size ?_; intro v4 w4 ho4 hg4; have HO4 := Lib.hid (show OwnMs w3.heap.size w4 v4 o from ho4); have HB4 := Lib.hid (show Below w3.heap.size w3 w4 from (Go.Joins.below_alloc1 w3 (.cells #[] 26)).grown hg4 (Go.Joins.below_alloc1 w3 (.cells #[] 26)).size (fun j hj => (OwnRow.lt (OwnMs.made w3) j hj).1)); clear ho4 hg4)
    | fail)
  have HV3 := Lib.hid ((HO3.out.at HOK.out.1).below HB4.out)
  have HV4 := Lib.hid (HO4.out.at HOK.out.2.1)
  have hbb := HB3.out.trans (HB4.out.mono HB3.out.size)
  have HP := Lib.hid (show MsAt w4 (.slice l0 L cl) l ∧ MsAt w4 (.slice o0 M co) o ∧ EsAt w4 ve es from ⟨HP.out.1.below hbb, HP.out.2.1.below hbb, HP.out.2.2.below hbb⟩)
  have HX := Lib.hid (HX.out.below hbb)
  have HB := Lib.hid (HB.out.trans (hbb.mono HB.out.size))
  clear hbb
  have x0 : w4.cell? ⟨gm, 0, none⟩ = some (.int .i64 m.p) := HX.out.cell 0
  have x1 : w4.cell? ⟨gm, 1, none⟩ = some (.int .u64 m.s) := HX.out.cell 1
  have x2 : w4.cell? ⟨gm, 2, none⟩ = some (.int .u64 m.o) := HX.out.cell 2
  have HC1 := Lib.hid (add_any _ l m w4 HP.out.1 HOK.out.2.2.1)
  go_wp2_with fail
  refine HC1.out.mono ?_
  rintro e w5 ⟨v5, z5, rfl, h5, hb5⟩
  have H5 := Lib.hid h5
  have HB5 := Lib.hid hb5
  have HX5 := Lib.hid (HX.out.below hb5)
  clear x0 x1 x2 h5 hb5
  have x0 : w5.cell? ⟨gm, 0, none⟩ = some (.int .i64 m.p) := HX5.out.cell 0
  have x1 : w5.cell? ⟨gm, 1, none⟩ = some (.int .u64 m.s) := HX5.out.cell 1
  have x2 : w5.cell? ⟨gm, 2, none⟩ = some (.int .u64 m.o) := HX5.out.cell 2
  have HC2 := Lib.hid (radd_any v3 l m w5 (HV3.out.below HB5.out) HOK.out.2.2.1 (by have := HLL.out; omega))
  go_wp2_with fail
  refine HC2.out.mono ?_
  rintro e w6 ⟨v6, z6, rfl, h6, hb6⟩
  obtain ⟨hz, X, hXok, o5, o6⟩ := two_posts H5.out h6 (fun hp x hx => into_ok hp.1 (fun q hq => by rw [List.mem_singleton.1 hq]; exact hp.2) hx)
  subst hz
  have his := is_any w4.heap.size v5 v6 z5 z5 X X w6 (o5.kept hb6 (Nat.le_refl _)) hXok (o6.at hXok)
  rw [decide_eq_true rfl, decide_eq_true rfl] at his
  have HIS := Lib.hid his
  have HBN := Lib.hid (HB5.out.trans (hb6.mono HB5.out.size))
  have HOB := Lib.hid (show ∀ k, (v5).ownBlock = some k → w4.heap.size ≤ k from fun k hk => (OwnRow.lt o5 k hk).1)
  clear his hb6 o5 o6 hXok
  go_wp2_with fail
  refine HIS.out.mono ?_
  rintro e w7 ⟨rfl, hch⟩
  have hbn : Below w4.heap.size w4 w7 := HBN.out.trans (hch.below HBN.out.size (fun k hk => HOB.out k hk))
  have HP := Lib.hid (show MsAt w7 (.slice l0 L cl) l ∧ MsAt w7 (.slice o0 M co) o ∧ EsAt w7 ve es from ⟨HP.out.1.below hbn, HP.out.2.1.below hbn, HP.out.2.2.below hbn⟩)
  have HV3 := Lib.hid (HV3.out.below hbn)
  have HV4 := Lib.hid (HV4.out.below hbn)
  have HB := Lib.hid (HB.out.trans (hbn.mono HB.out.size))
  clear hbn hch
  have HC3 := Lib.hid (take_any _ ve l f es w7 HOK.out.2.2.2 HP.out.1 HP.out.2.2 (by have := HEL.out; omega))
  go_wp2_with fail
  refine HC3.out.mono ?_
  rintro e w8 ⟨v8, z8, rfl, h8, hb8⟩
  have H8 := Lib.hid h8
  have HB8 := Lib.hid hb8
  clear h8 hb8
  have HC4 := Lib.hid (rtake_any v3 ve l f es w8 HOK.out.2.2.2 (HV3.out.below HB8.out) (HP.out.2.2.below HB8.out) (by have := HEL.out; omega) (by have := HLL.out; omega))
  go_wp2_with fail
  refine HC4.out.mono ?_
  rintro e w9 ⟨v9, z9, rfl, h9, hb6⟩
  obtain ⟨hz, X, hXok, o5, o6⟩ := two_posts H8.out h9 (fun hp x hx => into_ok hp.1 (hp.2.may HOK.out.2.2.2.1) hx)
  subst hz
  have his := is_any w7.heap.size v8 v9 z8 z8 X X w9 (o5.kept hb6 (Nat.le_refl _)) hXok (o6.at hXok)
  rw [decide_eq_true rfl, decide_eq_true rfl] at his
  have HIS := Lib.hid his
  have HBN := Lib.hid (HB8.out.trans (hb6.mono HB8.out.size))
  have HOB := Lib.hid (show ∀ k, (v8).ownBlock = some k → w7.heap.size ≤ k from fun k hk => (OwnRow.lt o5 k hk).1)
  clear his hb6 o5 o6 hXok
  go_wp2_with fail
  refine HIS.out.mono ?_
  rintro e wb ⟨rfl, hch⟩
  have hbn : Below w7.heap.size w7 wb := HBN.out.trans (hch.below HBN.out.size (fun k hk => HOB.out k hk))
  have HP := Lib.hid (show MsAt wb (.slice l0 L cl) l ∧ MsAt wb (.slice o0 M co) o ∧ EsAt wb ve es from ⟨HP.out.1.below hbn, HP.out.2.1.below hbn, HP.out.2.2.below hbn⟩)
  have HV3 := Lib.hid (HV3.out.below hbn)
  have HV4 := Lib.hid (HV4.out.below hbn)
  have HB := Lib.hid (HB.out.trans (hbn.mono HB.out.size))
  clear hbn hch
  have HC5 := Lib.hid (join_any _ _ l o wb HP.out.1 HP.out.2.1)
  go_wp2_with fail
  refine HC5.out.mono ?_
  rintro e wc ⟨vc, zc, rfl, hc, hbc⟩
  have HCC := Lib.hid hc
  have HBC := Lib.hid hbc
  clear hc hbc
  have HC6 := Lib.hid (rjoin_any v3 v4 l o wc (HV3.out.below HBC.out) (HV4.out.below HBC.out) (by have := HLL.out; omega) (by have := HLL.out; omega))
  go_wp2_with fail
  refine HC6.out.mono ?_
  rintro e wd ⟨vd, zd, rfl, hd, hb6⟩
  obtain ⟨hz, X, hXok, o5, o6⟩ := two_posts HCC.out hd (fun hp x hx => into_ok hp.1 hp.2.may hx)
  subst hz
  have his := is_any wb.heap.size vc vd zc zc X X wd (o5.kept hb6 (Nat.le_refl _)) hXok (o6.at hXok)
  rw [decide_eq_true rfl, decide_eq_true rfl] at his
  have HIS := Lib.hid his
  have HBN := Lib.hid (HBC.out.trans (hb6.mono HBC.out.size))
  have HOB := Lib.hid (show ∀ k, (vc).ownBlock = some k → wb.heap.size ≤ k from fun k hk => (OwnRow.lt o5 k hk).1)
  clear his hb6 o5 o6 hXok
  go_wp2_with fail
  refine HIS.out.mono ?_
  rintro e wf ⟨rfl, hch⟩
  have hbn : Below wb.heap.size wb wf := HBN.out.trans (hch.below HBN.out.size (fun k hk => HOB.out k hk))
  have HP := Lib.hid (show MsAt wf (.slice l0 L cl) l ∧ MsAt wf (.slice o0 M co) o ∧ EsAt wf ve es from ⟨HP.out.1.below hbn, HP.out.2.1.below hbn, HP.out.2.2.below hbn⟩)
  have HV3 := Lib.hid (HV3.out.below hbn)
  have HV4 := Lib.hid (HV4.out.below hbn)
  have HB := Lib.hid (HB.out.trans (hbn.mono HB.out.size))
  clear hbn hch
  have hs1 := rsame_any _ v3 l l wf HP.out.1 HV3.out
  rw [decide_eq_true rfl] at hs1
  have HS1 := Lib.hid hs1
  clear hs1
  go_wp2_with fail
  refine HS1.out.mono ?_
  rintro e wg ⟨rfl, hbg⟩
  have HB := Lib.hid (HB.out.trans (hbg.mono HB.out.size))
  have hs2 := rsame_any _ v4 o o wg (HP.out.2.1.below hbg) (HV4.out.below hbg)
  rw [decide_eq_true rfl] at hs2
  have HS2 := Lib.hid hs2
  clear hs2 hbg
  go_wp2_with fail
  refine HS2.out.mono ?_
  rintro e wh ⟨rfl, hbh⟩
  have HB := Lib.hid (HB.out.trans (hbh.mono HB.out.size))
  clear hbh
  go_wp2_with fail
  refine (awake_any _).mono ?_
  rintro e wz ⟨rfl, hbz⟩
  have HZ := Lib.hid (HB.out.trans (hbz.mono HB.out.size))
  clear hbz
  go_wp2
  go_ret
  exact ⟨rfl, HZ.out⟩
end Go.Proofs.Ytclchlcfcnlmhaa
