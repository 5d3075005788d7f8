/- SeenParts: to take some entries, and then those behind, is to take all. -/
import Derived.Test.YtclchlcfcnlmhaaFh
import Derived.Test.YtclchlcfcnlmhaaLawJ
namespace Go.Proofs.Ytclchlcfcnlmhaa
open Go.RowKit Go.Maps Go.Shelf
set_option linter.unusedSimpArgs false
theorem TakePost.cases {base : Nat} {w : World} {v : Value} {z : Int} {l : List MK} {f : Int} {es : List EN} (hl : MayR l) (hs : Stands f es) (h : TakePost base w v z l f es) :
    ((merge l (stand f es)).length ≤ 6 ∧ z = 0 ∧ OwnMs base w v (merge l (stand f es))) ∨ (6 < (merge l (stand f es)).length ∧ z = 3) := by
  rcases h with ⟨h, -⟩ | ⟨-, h⟩
  · exact absurd ⟨hl, hs⟩ h
  · exact h.cases hl
theorem JoinPost.cases {base : Nat} {w : World} {v : Value} {z : Int} {a b : List MK} (ha : MayR a) (hb : MayR b) (h : JoinPost base w v z a b) :
    ((merge a b).length ≤ 6 ∧ z = 0 ∧ OwnMs base w v (merge a b)) ∨ (6 < (merge a b).length ∧ z = 3) := by
  rcases h with ⟨h, -⟩ | ⟨-, h⟩
  · exact absurd ⟨ha, hb⟩ h
  · exact h.cases ha
theorem nil_mayR : MayR [] := ⟨by simp, by simp, List.Pairwise.nil⟩
theorem nil_ris : Ris [] := List.Pairwise.nil
/-- what the five rows are -/
theorem parts_facts {l : List MK} {f : Int} {a b : List EN} (hl : MayR l) (hf : 0 ≤ f ∧ f ≤ 2305843009213693952) (hla : a.length ≤ 1000) (hlb : b.length ≤ 1000) (hs : Stands f (a ++ b)) :
    Stands f a ∧ Stands (f + (a.length : Int)) b ∧ merge l (stand f (a ++ b)) = merge (merge l (stand f a)) (stand (f + (a.length : Int)) b) ∧
    (merge l (stand f a)).length ≤ (merge l (stand f (a ++ b))).length ∧ merge (merge l (stand f a)) (merge [] (stand (f + (a.length : Int)) b)) = merge l (stand f (a ++ b)) ∧ ∀ m ∈ stand (f + (a.length : Int)) b, m.may := by
  have hm : ∀ e ∈ a ++ b, e.may := by
    rcases hs with h | ⟨-, h⟩
    · rw [h]; simp
    · exact h
  have h1 : Stands f a := .inr ⟨by omega, fun e he => hm e (List.mem_append_left _ he)⟩
  have h2 : Stands (f + (a.length : Int)) b := .inr ⟨by omega, fun e he => hm e (List.mem_append_right _ he)⟩
  have e : merge l (stand f (a ++ b)) = merge (merge l (stand f a)) (stand (f + (a.length : Int)) b) := by rw [stand_app, merge_app]
  refine ⟨h1, h2, e, ?_, ?_, h2.may (by omega)⟩
  · rw [e]; exact merge_le (ris_merge hl.ris _) _
  · rw [e, join_parts (ris_merge hl.ris _)]
set_option maxRecDepth 100000 in
set_option maxHeartbeats 4000000 in
theorem parts_any (vl va vb : Value) (l : List MK) (f : Int) (a b : List EN) (w : World) (hl : MsAt w vl l) (hf : 0 ≤ f ∧ f ≤ 18446744073709551615) (ha : EsAt w va a) (hb : EsAt w vb b) :
    Calls Try.prog 7 #[vl, .int .u64 f, va, vb] w fun e w' => e = .returned (.bool true) ∧ Below w.heap.size w w' := by
  have HP := Lib.hid (And.intro hl (And.intro ha hb))
  have HF := Lib.hid hf
  have HLA := Lib.hid (long_any va a w ha)
  obtain ⟨l0, cl, rfl, -⟩ := hl.form
  obtain ⟨a0, ca, rfl, -⟩ := ha
  obtain ⟨b0, cb, rfl, -⟩ := hb
  obtain ⟨Ll, hLl⟩ : ∃ L, l.length = L := ⟨_, rfl⟩
  obtain ⟨La, hLa⟩ : ∃ L, a.length = L := ⟨_, rfl⟩
  obtain ⟨Lb, hLb⟩ : ∃ L, b.length = L := ⟨_, rfl⟩
  rw [hLl, hLa, hLb] at HP
  rw [hLa] at HLA
  rw [hLl, hLa, hLb]
  have HLs := Lib.hid (And.intro hLl (And.intro hLa hLb))
  clear hl hf hLl hLa hLb
  go_enter Try.func7, Try.ntmps7
  go_wp2_with fail
  refine HLA.out.mono ?_
  rintro e w1 ⟨b1, rfl, h1, hb1⟩
  have HB := Lib.hid hb1
  cases b1
  rotate_left
  · clear h1 hb1
    go_wp2_with fail
    refine (awake_any _).mono ?_
    rintro e wz ⟨rfl, hbz⟩
    have HZ := Lib.hid (HB.out.trans (hbz.mono HB.out.size))
    clear hbz
    go_wp2
    go_ret
    exact ⟨rfl, HZ.out⟩
  have H1 := Lib.hid (show a.length ≤ 1000 by rw [HLs.out.2.1]; exact h1 rfl)
  have HLB := Lib.hid (long_any _ b w1 (HP.out.2.2.below HB.out))
  clear h1 hb1
  go_wp2_with fail
  refine HLB.out.mono ?_
  rintro e w2 ⟨b2, rfl, h2, hb2⟩
  have HB := Lib.hid (HB.out.trans (hb2.mono HB.out.size))
  cases b2
  rotate_left
  · clear h2 hb2
    go_wp2_with fail
    refine (awake_any _).mono ?_
    rintro e wz ⟨rfl, hbz⟩
    have HZ := Lib.hid (HB.out.trans (hbz.mono HB.out.size))
    clear hbz
    go_wp2
    go_ret
    exact ⟨rfl, HZ.out⟩
  have H2 := Lib.hid (show b.length ≤ 1000 from h2 rfl)
  clear h2 hb2
  by_cases hk : (1000 : Int) < (Ll : Int)
  · go_wp2_with fail
    refine (awake_any _).mono ?_
    rintro e wz ⟨rfl, hbz⟩
    have HZ := Lib.hid (HB.out.trans (hbz.mono HB.out.size))
    clear hbz
    go_wp2
    go_ret
    exact ⟨rfl, HZ.out⟩
  by_cases hff : 2305843009213693952 < f
  · go_wp2_with fail
    refine (awake_any _).mono ?_
    rintro e wz ⟨rfl, hbz⟩
    have HZ := Lib.hid (HB.out.trans (hbz.mono HB.out.size))
    clear hbz
    go_wp2
    go_ret
    exact ⟨rfl, HZ.out⟩
  have HFF := Lib.hid (show 0 ≤ f ∧ f ≤ 2305843009213693952 from ⟨HF.out.1, by omega⟩)
  obtain ⟨g0, hg0⟩ : ∃ g0, w2.heap.size = g0 := ⟨_, rfl⟩
  have HM0 := Lib.hid (show OwnEs w2.heap.size (w2.alloc (.cells #[] 51)) (.slice (some ⟨w2.heap.size, 0, none⟩) 0 0) [] from OwnRow.made w2)
  have HA1 := Lib.hid (show EsAt (w2.alloc (.cells #[] 51)) (.slice a0 La ca) a ∧ Below w2.heap.size w2 (w2.alloc (.cells #[] 51)) from ⟨(HP.out.2.1.below HB.out).below (Go.Joins.below_alloc1 w2 _), Go.Joins.below_alloc1 w2 _⟩)
  have HONE := Lib.hid (es_oneCell a)
  have HONEB := Lib.hid (es_oneCell b)
  have HSM := Lib.hid (show ([] : List EN).length + a.length ≤ 1000000 ∧ ([] ++ a).length + b.length ≤ 1000000 from by have := H1.out; have := H2.out; simp; omega)
  clear hg0
  go_wp2_with (first
    | (at_builtin; refine wpList_append_rows rfl _ _ 38 51 3 40 _ EN.cells rfl Try.underlying38 info51 rfl (by decide) (by decide) (fun _ => rfl) w2.heap.size _ _ [] a rfl rfl HM0.out HA1.out.1 HONE.out HSM.out.1 HA1.out.2.size ?_; intro v3 w3 ho3 hg3; have HO3 := Lib.hid (show OwnEs w2.heap.size w3 v3 ([] ++ a) from ho3); have HB3 := Lib.hid (HA1.out.2.grown hg3 HA1.out.2.size (fun j hj => (OwnRow.lt HM0.out j hj).1)); clear ho3 hg3)
    | (at_builtin; refine wpList_append_rows rfl _ _ 38 51 3 40 _ EN.cells rfl Try.underlying38 info51 rfl (by decide) (by decide) (fun _ => rfl) w2.heap.size _ _ ([] ++ a) b rfl rfl HO3.out ((HP.out.2.2.below HB.out).below HB3.out) HONEB.out HSM.out.2 HB3.out.size ?_; intro v4 w4 ho4 hg4; have HO4 := Lib.hid (show OwnEs w2.heap.size w4 v4 (([] ++ a) ++ b) from ho4); have HB4 := Lib.hid (HB3.out.grown hg4 HB3.out.size (fun j hj => (OwnRow.lt HO3.out j hj).1)); clear ho4 hg4)
    | fail)
  have HE4 := Lib.hid (show EsAt w4 v4 (a ++ b) from HO4.out.at (fun x hx => by
    rcases List.mem_append.1 hx with h | h
    · exact HP.out.2.1.ok x (by simpa using h)
    · exact HP.out.2.2.ok x h))
  have HB := Lib.hid (HB.out.trans (HB4.out.mono HB.out.size))
  refine (take_any _ _ l f (a ++ b) w4 HF.out (HP.out.1.below HB.out) HE4.out (by have := HSM.out.2; simp at this; rw [List.length_append]; have := H1.out; have := H2.out; omega)).mono ?_
  rintro e w5 ⟨v5, z5, rfl, h5, hb5⟩
  have H5 := Lib.hid h5
  have HB := Lib.hid (HB.out.trans (hb5.mono HB.out.size))
  clear h5
  have HT := Lib.hid (take_any _ _ l f a w5 HF.out (HP.out.1.below HB.out) (HP.out.2.1.below HB.out) (by have := H1.out; omega))
  clear hb5
  go_wp2_with fail
  refine HT.out.mono ?_
  rintro e w6 ⟨v6, z6, rfl, h6, hb6⟩
  have HB := Lib.hid (HB.out.trans (hb6.mono HB.out.size))
  by_cases hst : MayR l ∧ Stands f (a ++ b)
  rotate_left
  · obtain rfl : z5 = 1 := by
      rcases H5.out with ⟨-, h, -⟩ | ⟨h, -⟩
      · exact h
      · exact absurd h hst
    clear h6 hb6 hst
    go_wp2_with fail
    refine (awake_any _).mono ?_
    rintro e wz ⟨rfl, hbz⟩
    have HZ := Lib.hid (HB.out.trans (hbz.mono HB.out.size))
    clear hbz
    go_wp2
    go_ret
    exact ⟨rfl, HZ.out⟩
  have HML := Lib.hid hst.1
  have HPF := Lib.hid (parts_facts hst.1 HFF.out H1.out H2.out hst.2)
  have h5c := H5.out.cases hst.1 hst.2
  have h6c := h6.cases hst.1 HPF.out.1
  have HNE := Lib.hid (show z5 ≠ 1 from by rcases h5c with ⟨-, h, -⟩ | ⟨-, h⟩ <;> omega)
  have n5 : (z5 == 1) = false := by simp; exact HNE.out
  rcases h6c with ⟨l6, rfl, o6⟩ | ⟨l6, rfl⟩
  rotate_left
  · obtain rfl : z5 = 3 := by
      rcases h5c with ⟨h, -⟩ | ⟨-, h⟩
      · have := HPF.out.2.2.2.1; omega
      · exact h
    clear h6 hb6 hst h5c n5
    go_wp2_with fail
    refine (awake_any _).mono ?_
    rintro e wz ⟨rfl, hbz⟩
    have HZ := Lib.hid (HB.out.trans (hbz.mono HB.out.size))
    clear hbz
    go_wp2
    go_ret
    exact ⟨rfl, HZ.out⟩
  have HO := Lib.hid (mayR_merge HML.out (HPF.out.1.may HFF.out.1) l6)
  have HB5 := Lib.hid hb6
  have HA6 := Lib.hid (o6.at (ms_ok HO.out))
  obtain ⟨O, hO⟩ : ∃ O, merge l (stand f a) = O := ⟨_, rfl⟩
  rw [hO] at HO HA6 HPF
  obtain ⟨fb, hfb⟩ : ∃ fb, f + (La : Int) = fb := ⟨_, rfl⟩
  have wl : IntKind.u64.wrap (La : Int) = (La : Int) := wrap_u64 (by omega) (by have := H1.out; have := HLs.out.2.1; omega)
  have wf : IntKind.u64.wrap (f + (La : Int)) = fb := by rw [hfb]; exact wrap_u64 (by have := HFF.out; omega) (by have := HFF.out; have := H1.out; have := HLs.out.2.1; omega)
  rw [HLs.out.2.1, hfb] at HPF
  have HFB := Lib.hid (show 0 ≤ fb ∧ fb ≤ 18446744073709551615 from by have := HFF.out; have := H1.out; have := HLs.out.2.1; omega)
  obtain ⟨B, hB⟩ : ∃ B, stand fb b = B := ⟨_, rfl⟩
  rw [hB] at HPF
  have HSB := Lib.hid (Eq.symm hB)
  have HT2 := Lib.hid (take_any v6 (.slice b0 Lb cb) O fb b w6 HFB.out HA6.out (HP.out.2.2.below HB.out) (by have := H2.out; omega))
  clear h6 hb6 hst l6 o6 hO hfb hB HT
  go_wp2_with fail
  refine HT2.out.mono ?_
  rintro e w7 ⟨v7, z7, rfl, h7, hb7⟩
  have HB := Lib.hid (HB.out.trans (hb7.mono HB.out.size))
  have h7c := h7.cases HO.out HPF.out.2.1
  rw [← HSB.out, ← HPF.out.2.2.1] at h7c
  have HO7 := Lib.hid (HA6.out.below hb7)
  have HJ := Lib.hid (fun (W : World) (hW : Below w7.heap.size w7 W) => join_any v6 v6 O O W (HO7.out.below hW) (HO7.out.below hW))
  obtain ⟨X, hX⟩ : ∃ X, merge l (stand f (a ++ b)) = X := ⟨_, rfl⟩
  rw [hX] at h7c h5c HPF
  have HXM := Lib.hid (show X = merge O B from HPF.out.2.2.1)
  rcases h5c with ⟨l5, rfl, o5⟩ | ⟨l5, rfl⟩
  · obtain ⟨rfl, o7⟩ : z7 = 0 ∧ OwnMs w6.heap.size w7 v7 X := by
      rcases h7c with ⟨-, h, o⟩ | ⟨h, -⟩
      · exact ⟨h, o⟩
      · omega
    have HMX := Lib.hid (show MayR X from by rw [HXM.out]; exact mayR_merge HO.out HPF.out.2.2.2.2.2 (by rw [← HXM.out]; exact l5))
    have HX5 := Lib.hid ((((o5.at (ms_ok HMX.out)).below HB5.out)).below hb7)
    have hsm := same_any v7 v5 X X w7 (o7.at (ms_ok HMX.out)) HX5.out
    rw [decide_eq_true rfl] at hsm
    have HSM2 := Lib.hid hsm
    clear h7 hb7 h7c l5 o5 o7 hX hsm
    go_wp2_with fail
    refine HSM2.out.mono ?_
    rintro e w8 ⟨rfl, hb8⟩
    have HB := Lib.hid (HB.out.trans (hb8.mono HB.out.size))
    have HB78 := Lib.hid hb8
    clear hb8
    have HJS := Lib.hid (HJ.out w8 HB78.out)
    go_wp2_with fail
    refine HJS.out.mono ?_
    rintro e ws ⟨vs, zs, rfl, hs, hbs⟩
    have HB := Lib.hid (HB.out.trans (hbs.mono HB.out.size))
    have HB78 := Lib.hid (HB78.out.trans (hbs.mono HB78.out.size))
    have hsc := hs.cases HO.out HO.out
    rw [join_self HO.out.ris] at hsc
    rcases hsc with ⟨ls, rfl, os⟩ | ⟨ls, -⟩
    rotate_left
    · exfalso; have := HO.out.len; omega
    have hss := same_any vs v6 O O ws (os.at (ms_ok HO.out)) (HO7.out.below HB78.out)
    rw [decide_eq_true rfl] at hss
    have HSS := Lib.hid hss
    clear hs hbs ls os hss
    go_wp2_with fail
    refine HSS.out.mono ?_
    rintro e wt ⟨rfl, hbt⟩
    have HB := Lib.hid (HB.out.trans (hbt.mono HB.out.size))
    have HB78 := Lib.hid (HB78.out.trans (hbt.mono HB78.out.size))
    clear hbt
    have HTN := Lib.hid (take_any (.slice none 0 0) (.slice b0 Lb cb) [] fb b wt HFB.out (MsAt.nil wt) (HP.out.2.2.below HB.out) (by have := H2.out; omega))
    go_wp2_with fail
    refine HTN.out.mono ?_
    rintro e wn ⟨vn, zn, rfl, hn, hbn⟩
    have HB := Lib.hid (HB.out.trans (hbn.mono HB.out.size))
    have HB78 := Lib.hid (HB78.out.trans (hbn.mono HB78.out.size))
    have hnc := hn.cases nil_mayR HPF.out.2.1
    rw [← HSB.out] at hnc
    rcases hnc with ⟨ln, rfl, on⟩ | ⟨ln, rfl⟩
    rotate_left
    · clear hn hbn
      go_wp2_with fail
      refine (awake_any _).mono ?_
      rintro e wz ⟨rfl, hbz⟩
      have HZ := Lib.hid (HB.out.trans (hbz.mono HB.out.size))
      clear hbz
      go_wp2
      go_ret
      exact ⟨rfl, HZ.out⟩
    have HMN := Lib.hid (mayR_merge nil_mayR HPF.out.2.2.2.2.2 ln)
    have HJN := Lib.hid (join_any v6 vn O (merge [] B) wn (HO7.out.below HB78.out) (on.at (ms_ok HMN.out)))
    clear hn hbn ln on
    go_wp2_with fail
    refine HJN.out.mono ?_
    rintro e wq ⟨vq, zq, rfl, hq, hbq⟩
    have HB := Lib.hid (HB.out.trans (hbq.mono HB.out.size))
    have HB78 := Lib.hid (HB78.out.trans (hbq.mono HB78.out.size))
    have hqc := hq.cases HO.out HMN.out
    rw [HPF.out.2.2.2.2.1] at hqc
    rcases hqc with ⟨lq, rfl, oq⟩ | ⟨lq, -⟩
    rotate_left
    · exfalso; have := HMX.out.len; omega
    have hsq := same_any vq v5 X X wq (oq.at (ms_ok HMX.out)) (HX5.out.below HB78.out)
    rw [decide_eq_true rfl] at hsq
    have HSQ := Lib.hid hsq
    clear hq hbq lq oq hsq
    go_wp2_with fail
    refine HSQ.out.mono ?_
    rintro e wr ⟨rfl, hbr⟩
    have HB := Lib.hid (HB.out.trans (hbr.mono HB.out.size))
    clear hbr
    go_wp2_with fail
    refine (awake_any _).mono ?_
    rintro e wz ⟨rfl, hbz⟩
    have HZ := Lib.hid (HB.out.trans (hbz.mono HB.out.size))
    clear hbz
    go_wp2
    go_ret
    exact ⟨rfl, HZ.out⟩
  · obtain rfl : z7 = 3 := by
      rcases h7c with ⟨h, -⟩ | ⟨-, h⟩
      · omega
      · exact h
    have HB78 := Lib.hid (Below.refl w7.heap.size w7)
    clear h7 hb7 h7c l5 hX
    have HJS := Lib.hid (HJ.out w7 HB78.out)
    go_wp2_with fail
    refine HJS.out.mono ?_
    rintro e ws ⟨vs, zs, rfl, hs, hbs⟩
    have HB := Lib.hid (HB.out.trans (hbs.mono HB.out.size))
    have HB78 := Lib.hid (HB78.out.trans (hbs.mono HB78.out.size))
    have hsc := hs.cases HO.out HO.out
    rw [join_self HO.out.ris] at hsc
    rcases hsc with ⟨ls, rfl, os⟩ | ⟨ls, -⟩
    rotate_left
    · exfalso; have := HO.out.len; omega
    have hss := same_any vs v6 O O ws (os.at (ms_ok HO.out)) (HO7.out.below HB78.out)
    rw [decide_eq_true rfl] at hss
    have HSS := Lib.hid hss
    clear hs hbs ls os hss
    go_wp2_with fail
    refine HSS.out.mono ?_
    rintro e wt ⟨rfl, hbt⟩
    have HB := Lib.hid (HB.out.trans (hbt.mono HB.out.size))
    have HB78 := Lib.hid (HB78.out.trans (hbt.mono HB78.out.size))
    clear hbt
    have HTN := Lib.hid (take_any (.slice none 0 0) (.slice b0 Lb cb) [] fb b wt HFB.out (MsAt.nil wt) (HP.out.2.2.below HB.out) (by have := H2.out; omega))
    go_wp2_with fail
    refine HTN.out.mono ?_
    rintro e wn ⟨vn, zn, rfl, hn, hbn⟩
    have HB := Lib.hid (HB.out.trans (hbn.mono HB.out.size))
    have hnc := hn.cases nil_mayR HPF.out.2.1
    rcases hnc with ⟨ln, rfl, on⟩ | ⟨ln, rfl⟩
    · clear hn hbn ln on
      go_wp2_with fail
      refine (awake_any _).mono ?_
      rintro e wz ⟨rfl, hbz⟩
      have HZ := Lib.hid (HB.out.trans (hbz.mono HB.out.size))
      clear hbz
      go_wp2
      go_ret
      exact ⟨rfl, HZ.out⟩
    · clear hn hbn ln
      go_wp2_with fail
      refine (awake_any _).mono ?_
      rintro e wz ⟨rfl, hbz⟩
      have HZ := Lib.hid (HB.out.trans (hbz.mono HB.out.size))
      clear hbz
      go_wp2
      go_ret
      exact ⟨rfl, HZ.out⟩
end Go.Proofs.Ytclchlcfcnlmhaa
