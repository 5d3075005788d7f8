/- The document: a ledger as it is by now. -/
import Derived.Test.YtpihogkhfmijcaaGreatPh
import Derived.Test.YtpihogkhfmijcaaGreatPd
namespace Go.Proofs.YtpihogkhfmijcaaGreat
open Go.RowKit Go.Maps Go.Shelf
set_option linter.unusedSimpArgs false
set_option maxRecDepth 100000 in
set_option maxHeartbeats 4000000 in
theorem dmoved_any (x : FeV) (now : Int) (l : LgV) (w : World) (h : x.ok w) (hl1 : x.set.length ≤ 100000) (hb0 : x.body.length ≤ 100000) (hn : u64ok now) (hxn : 1 ≤ x.n) (hl : FsAt w (.slice l.a l.fs.length l.c) l.fs) (hs : ∀ x ∈ l.fs, x.ps.length ≤ 100000) :
    Calls Tryz.prog 14 #[x.val, .int .u64 now, l.val] w fun e w' => FetPost (x.m.still (x.m.movedM now l)) w e w' := by
  obtain ⟨W, hW⟩ : ∃ W, W = ((w.alloc (.cells x.cs.toArray 32)).alloc (.cells l.arr 25)).alloc (.cells zero32 32) := ⟨_, rfl⟩
  have hbel : Below w.heap.size w W := by rw [hW]; exact (Go.Joins.below_alloc2 w _ _).alloc (by rw [size2]; omega) _
  have hB : BoxC W w.heap.size 32 x.cs.toArray := by rw [hW]; exact ((BoxC.new _ _ _).alloc _).alloc _
  have hC : BoxC W (w.heap.size + 1) 25 l.arr := by
    rw [hW]
    have := BoxC.new (w.alloc (.cells x.cs.toArray 32)) 25 l.arr
    rw [World.size_alloc] at this
    exact this.alloc _
  have hR : BoxC W (w.heap.size + 1 + 1) 32 zero32 := by
    rw [hW]
    have := BoxC.new ((w.alloc (.cells x.cs.toArray 32)).alloc (.cells l.arr 25)) 32 zero32
    rwa [size2] at this
  have HCP := Lib.hid (dcopy_any x W (h.below hbel) hl1 hb0)
  have HW := Lib.hid (And.intro hbel (And.intro hB (And.intro hR hC)))
  have HI := Lib.hid (And.intro hn (And.intro hxn (And.intro hl hs)))
  obtain ⟨c0, c1, c2, c3, c4, c5, c6, c7⟩ := FeV.c8 hB
  have f0 := hB.fz
  simp only [FeV.cs, zero32, LgV.arr] at hW
  simp only [LgV.val, LgV.arr]
  clear hbel hB hR hC h hn hl1 hb0 hxn hl hs
  go_enter Tryz.func14, Tryz.ntmps14
  go_upto_region 1 with fail
  unfold FeV.val
  rw [← hW]
  clear hW
  go_wp2_with fail
  refine HCP.out.mono ?_
  rintro e w1 ⟨y, rfl, hy⟩
  have HY := Lib.hid hy
  have hB1 := HW.out.2.1.below hy.bel
  have hf1 := hB1.fz
  obtain ⟨e0, e1, e2, e3, e4, e5, e6, e7⟩ := FeV.c8 hB1
  clear c0 c1 c2 c3 c4 c5 c6 c7 f0 hy hB1 HCP
  go_upto_region 2 with fail
  refine via (fun X => Copied w X w.heap.size (w.heap.size + 1 + 1) y x.m ∧ BoxC X (w.heap.size + 1) 25 l.arr) ⟨Copied.of HW.out.2.1 HW.out.2.2.1 HW.out.1 (Nat.le_refl _) (by omega) HY.out, by have h : BoxC (put8n w1 w.heap.size y) (w.heap.size + 1) 25 l.arr := (by rw [put8n_eq]; exact (HW.out.2.2.2.below HY.out.bel).ch1' (by omega) (Ch1.sets w1 w.heap.size y.cs)); exact h⟩ (fun X hX => ?_)
  have HX := Lib.hid hX
  have hm := hX.1.m
  obtain ⟨c0, c1, c2, c3, c4, c5, c6, c7⟩ := FeV.c8 hX.1.box
  obtain ⟨r0, r1, r2, r3, r4, r5, r6, r7⟩ := t8 hX.1.res
  have g0 := hX.1.res.fz
  have b0 := hX.2.cell 0
  have b1 := hX.2.cell 1
  have b2 := hX.2.cell 2
  have b3 := hX.2.cell 3
  have b4 := hX.2.cell 4
  have b5 := hX.2.cell 5
  simp only [LgV.arr, List.getElem?_toArray, List.getElem?_cons_succ, List.getElem?_cons_zero] at b0 b1 b2 b3 b4 b5
  clear hX e0 e1 e2 e3 e4 e5 e6 e7 hf1
  have HNO := Lib.hid (show ∀ Z, Below X.heap.size X Z → x.m.still (x.m.movedM now l) = (x.m, []) → BoxC (put8n Z (w.heap.size + 1 + 1) y) (w.heap.size + 1 + 1) 32 y.cs.toArray ∧ FetPost (x.m.still (x.m.movedM now l)) w (.returned (.tuple #[y.val, .slice none 0 0])) (put8n Z (w.heap.size + 1 + 1) y) from fun Z hZ hM => by
    have hc := HX.out.1.below hZ
    have := fet_none hc.res (by omega) hc.bel hc.blk hc.m hc.ok
    rwa [← hM] at this)
  by_cases k1 : y.done = 1
  · have HE := Lib.hid (HNO.out X (Below.refl _ _) (by unfold FeM.still; exact if_pos (show x.m.done = 1 from by rw [← hm]; exact k1)))
    have d1 : (y.done == 1) = true := by rw [k1]; rfl
    have d1' : decide (y.done = 1) = true := decide_eq_true k1
    clear k1
    unfold put8n at HE
    go_wp2
    refine bodyPost_ret (results_f2 rfl _ _ (w.heap.size + 1 + 1) y rfl HE.out.1) rfl ?_
    exact HE.out.2
  · have d1 : (y.done == 1) = false := by simpa using k1
    have d1' : decide (y.done = 1) = false := decide_eq_false k1
    have hst : ∀ M, x.m.still M = M := fun M => by unfold FeM.still; rw [if_neg (show ¬ x.m.done = 1 from by rw [← hm]; exact k1)]
    have HST := Lib.hid hst
    have hid' : x.m.id = y.id := by rw [← hm]; rfl
    have HID := Lib.hid hid'
    clear k1 hst hid'
    by_cases k2 : l.i = y.id
    · have d2 : (l.i != y.id) = false := by simp [bne, k2]
      have d2' : decide (l.i = y.id) = true := decide_eq_true k2
      have d2'' : (l.i == y.id) = true := by simpa using k2
      have HK2 := Lib.hid k2
      have HML := Lib.hid (mayl_any l X (HI.out.2.2.1.below HX.out.1.bel))
      simp only [LgV.val, LgV.arr] at HML
      clear k2
      go_wp2_with fail
      refine HML.out.mono ?_
      rintro e w2 ⟨R, rfl, hR, hb2⟩
      have HC2 := Lib.hid (HX.out.1.below hb2)
      have HB2 := Lib.hid (And.intro hb2 (HX.out.2.below hb2))
      have HRR := Lib.hid hR
      clear hR hb2 c0 c1 c2 c3 c4 c5 c6 c7 b0 b1 b2 b3 b4 b5 r0 r1 r2 r3 r4 r5 r6 r7 g0 HML
      obtain ⟨c0, c1, c2, c3, c4, c5, c6, c7⟩ := FeV.c8 HC2.out.box
      cases R with
      | false =>
        have HE := Lib.hid (HNO.out w2 HB2.out.1 (by rw [HST.out, movedM_no (fun hh => by have := HRR.out.2 hh.2; cases this)]))
        obtain ⟨r0, r1, r2, r3, r4, r5, r6, r7⟩ := t8 HC2.out.res
        have g0 := HC2.out.res.fz
        unfold put8n at HE
        go_wp2
        refine bodyPost_ret (results_f2 rfl _ _ (w.heap.size + 1 + 1) y rfl HE.out.1) rfl ?_
        exact HE.out.2
      | true =>
        have b0 := HB2.out.2.cell 0
        have b1 := HB2.out.2.cell 1
        have b3 := HB2.out.2.cell 3
        simp only [LgV.arr, List.getElem?_toArray, List.getElem?_cons_succ, List.getElem?_cons_zero] at b0 b1 b3
        have hmay := HRR.out.1 rfl
        have HSE := Lib.hid (rset_any (.slice l.a l.fs.length l.c) l.W y.n l.fs w2 (HI.out.2.2.1.below HC2.out.bel) HI.out.2.2.2 HC2.out.ok.nums.1.2)
        have hyn : x.n = y.n := (congrArg FeM.n hm).symm
        have HYN := Lib.hid hyn
        have HLN := Lib.hid (show (setV l.fs l.W y.n).length = l.W.toNat ∧ 1 ≤ l.W ∧ l.W ≤ 5 from ⟨ledger_len hmay (by rw [← hyn]; exact HI.out.2.1), by have := hmay.2.1; omega, hmay.2.1.2.2⟩)
        have HSO := Lib.hid (setV_ok (n := l.W) (k := y.n) (fs_ok HI.out.2.2.1))
        have HMC := Lib.hid (show l.i = x.m.id ∧ l.May from ⟨by rw [HID.out]; exact HK2.out, hmay⟩)
        clear hmay hyn
        go_wp2_with fail
        refine HSE.out.mono ?_
        rintro e w3 ⟨v3, rfl, ho3, hb3⟩
        obtain ⟨a3, k3, rfl⟩ := OwnPs.form ho3 HSO.out
        have HC3 := Lib.hid (HC2.out.below hb3)
        have HO3 := Lib.hid (And.intro (OwnPs.at ho3 HSO.out) (And.intro (show ∀ b, ab a3 = some b → w2.heap.size ≤ b from fun b e => (OwnRow.ab ho3 b e).1) hb3))
        have HSM := Lib.hid (rsame_any _ _ (setV l.fs l.W y.n) y.set w3 HO3.out.1 HC3.out.ok.st)
        clear ho3 hb3 c0 c1 c2 c3 c4 c5 c6 c7 b0 b1 b3 HSE
        obtain ⟨c0, c1, c2, c3, c4, c5, c6, c7⟩ := FeV.c8 HC3.out.box
        go_wp2_with fail
        by_cases k4 : setV l.fs l.W y.n = y.set
        · rw [decide_eq_true k4] at HSM
          have HE0 := Lib.hid (fun Z (hZ : Below w3.heap.size w3 Z) => HNO.out Z (HB2.out.1.trans ((HO3.out.2.2.trans (hZ.mono HO3.out.2.2.size)).mono HB2.out.1.size)) (by rw [HST.out, movedM_same HMC.out (by rw [show x.m.n = y.n from HYN.out, k4, ← hm]; rfl)]))
          clear k4
          refine HSM.out.mono ?_
          rintro e w4 ⟨rfl, hb4⟩
          have HC4 := Lib.hid (HC3.out.below hb4)
          have HE := Lib.hid (HE0.out w4 hb4)
          clear hb4 c0 c1 c2 c3 c4 c5 c6 c7
          obtain ⟨c0, c1, c2, c3, c4, c5, c6, c7⟩ := FeV.c8 HC4.out.box
          obtain ⟨r0, r1, r2, r3, r4, r5, r6, r7⟩ := t8 HC4.out.res
          have g0 := HC4.out.res.fz
          unfold put8n at HE
          go_wp2
          refine bodyPost_ret (results_f2 rfl _ _ (w.heap.size + 1 + 1) y rfl HE.out.1) rfl ?_
          exact HE.out.2
        · rw [decide_eq_false k4] at HSM
          have HNE := Lib.hid (show x.m.still (x.m.movedM now l) = x.m.beginM now (setV l.fs l.W y.n) from by rw [HST.out, movedM_new HMC.out (by rw [show x.m.n = y.n from HYN.out, ← hm]; exact k4)]; rw [show x.m.n = y.n from HYN.out])
          clear k4
          refine HSM.out.mono ?_
          rintro e w4 ⟨rfl, hb4⟩
          have HC4 := Lib.hid (HC3.out.below hb4)
          have HO4 := Lib.hid (PsAt.below HO3.out.1 hb4)
          have HB4 := Lib.hid hb4
          clear hb4 c0 c1 c2 c3 c4 c5 c6 c7
          obtain ⟨c0, c1, c2, c3, c4, c5, c6, c7⟩ := FeV.c8 HC4.out.box
          have f4 := HC4.out.box.fz
          go_upto_region 8 with fail
          obtain ⟨z, hz⟩ : ∃ z : FeV, z = { y with sa := a3, sc := k3, set := setV l.fs l.W y.n } := ⟨_, rfl⟩
          have hcw := Ch1.set w4 w.heap.size 2 (.slice a3 (setV l.fs l.W y.n).length k3)
          have hw2 : w.heap.size + 1 + 1 < w2.heap.size := HC2.out.res.lt
          have hCz : Copied w (w4.setCell ⟨w.heap.size, 2, none⟩ (.slice a3 (setV l.fs l.W y.n).length k3)) w.heap.size (w.heap.size + 1 + 1) z z.m := by
            refine ⟨by rw [hz]; exact HC4.out.box.set 2 _, ?_, HC4.out.bel.setCell (p := ⟨w.heap.size, 2, none⟩) (Nat.le_refl _) _, HC4.out.res.other (by omega) 2 _, fun b e => ?_, rfl⟩
            · rw [hz]
              exact ⟨HC4.out.ok.nums, RowAt.ch1 HO4.out (fun b e => by have := HO3.out.2.1 b e; omega) hcw, RowAt.ch1 HC4.out.ok.bd (fun b e => by have := HC4.out.blk b (.inr e); omega) hcw⟩
            · rw [hz] at e
              rcases e with e | e
              · have := HO3.out.2.1 b e
                omega
              · exact HC4.out.blk b (.inr e)
          refine via (fun V => Copied w V w.heap.size (w.heap.size + 1 + 1) z z.m) hCz (fun V hV => ?_)
          have HV := Lib.hid hV
          have HAS := Lib.hid (dask_at z 0 0 now V (.inr ⟨by rw [hz]; have := HLN.out; show (0 : Int) < ((setV l.fs l.W y.n).length : Int); omega, rfl⟩) hV.ok (by omega) (by omega) (by rw [hz]; have := HLN.out; show 0 < (setV l.fs l.W y.n).length; omega) (by rw [hz]; have := HLN.out; show (setV l.fs l.W y.n).length ≤ 100000; omega) HI.out.1)
          have HMM := Lib.hid (show x.m.still (x.m.movedM now l) = FeM.askM { z.m with at' := 0 } now from by rw [HNE.out, hz, ← hm]; rfl)
          have hzz := hz
          clear c0 c1 c2 c3 c4 c5 c6 c7 f4 hcw hCz hV hw2 hm
          obtain ⟨c0, c1, c2, c3, c4, c5, c6, c7⟩ := FeV.c8 HV.out.box
          clear hz hzz
          go_wp2_with fail
          refine HAS.out.mono ?_
          rintro e w5 ⟨zz, ra, rc, rfl, p1, p2, p3, p4, p5, p6⟩
          have HE := Lib.hid (fet_ask HV.out.res (by omega) HV.out.bel HV.out.blk p1 p2 p3 p4 p5 p6)
          have hr2 := HV.out.res.below p4
          obtain ⟨r0, r1, r2, r3, r4, r5, r6, r7⟩ := t8 hr2
          have g0 := hr2.fz
          unfold put8n at HE
          clear p1 p2 p3 p4 p5 p6 hr2 c0 c1 c2 c3 c4 c5 c6 c7
          go_wp2
          refine bodyPost_ret (results_f2 rfl _ _ (w.heap.size + 1 + 1) zz rfl HE.out.1) rfl ?_
          rw [HMM.out]
          exact HE.out.2
    · have d2 : (l.i != y.id) = true := by simpa [bne] using k2
      have d2' : decide (l.i = y.id) = false := decide_eq_false k2
      have d2'' : (l.i == y.id) = false := by simpa using k2
      have HE := Lib.hid (HNO.out X (Below.refl _ _) (by rw [HST.out, movedM_no (fun hh => k2 (by rw [hh.1, HID.out]))]))
      clear k2
      unfold put8n at HE
      go_wp2
      refine bodyPost_ret (results_f2 rfl _ _ (w.heap.size + 1 + 1) y rfl HE.out.1) rfl ?_
      exact HE.out.2
end Go.Proofs.YtpihogkhfmijcaaGreat
