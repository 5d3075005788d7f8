/- The document: an answer. -/
import Derived.Test.YtpihogkhfmijcaaGreatPh
namespace Go.Proofs.YtpihogkhfmijcaaGreat
open Go.RowKit Go.Maps Go.Shelf
set_option linter.unusedSimpArgs false
theorem dk_ill {m : FeM} {now : Int} {r : RsV} (h : ¬ m.fits r) : m.takeM now r = (m, []) := by unfold FeM.takeM; rw [if_neg h]
theorem dk_0 {m : FeM} {now : Int} {r : RsV} (h : m.fits r) (hc : r.code = 0) (hf : r.frm ∈ m.set) : m.takeM now r = ({ m with done := 1, body := r.body }, []) := by unfold FeM.takeM FeM.foundM; rw [if_pos h, if_pos hc, if_pos hf]
theorem dk_00 {m : FeM} {now : Int} {r : RsV} (hc : r.code = 0) (hf : ¬ r.frm ∈ m.set) : m.takeM now r = (m, []) := by unfold FeM.takeM FeM.foundM; rw [if_pos hc, if_neg hf]; split <;> rfl
theorem dk_123 {m : FeM} {now : Int} {r : RsV} (h : m.fits r) (h1 : 1 ≤ r.code) (h3 : r.code ≤ 3) (hf : m.cur = r.frm) : m.takeM now r = m.passM now := by unfold FeM.takeM; rw [if_pos h, if_neg (by omega), if_pos (by omega), if_pos hf]
theorem dk_123n {m : FeM} {now : Int} {r : RsV} (h1 : 1 ≤ r.code) (h3 : r.code ≤ 3) (hf : ¬ m.cur = r.frm) : m.takeM now r = (m, []) := by unfold FeM.takeM; rw [if_neg (show ¬ r.code = 0 by omega), if_pos (show r.code = 3 ∨ r.code = 2 ∨ r.code = 1 by omega), if_neg hf]; split <;> rfl
theorem dk_4 {m : FeM} {now : Int} {r : RsV} (h : m.fits r) (h4 : r.code = 4) (hf : m.cur.n = r.frm.n) : m.takeM now r = m.passM now := by unfold FeM.takeM; rw [if_pos h, if_neg (by omega), if_neg (by omega), if_pos h4, if_pos hf]
theorem dk_4n {m : FeM} {now : Int} {r : RsV} (h4 : r.code = 4) (hf : ¬ m.cur.n = r.frm.n) : m.takeM now r = (m, []) := by unfold FeM.takeM; rw [if_neg (show ¬ r.code = 0 by omega), if_neg (show ¬ (r.code = 3 ∨ r.code = 2 ∨ r.code = 1) by omega), if_pos h4, if_neg hf]; split <;> rfl
theorem dk_x {m : FeM} {now : Int} {r : RsV} (h : r.code < 0 ∨ 4 < r.code) : m.takeM now r = (m, []) := by unfold FeM.takeM; rw [if_neg (show ¬ r.code = 0 by omega), if_neg (show ¬ (r.code = 3 ∨ r.code = 2 ∨ r.code = 1) by omega), if_neg (show ¬ r.code = 4 by omega)]; split <;> rfl
set_option maxRecDepth 100000 in
set_option maxHeartbeats 8000000 in
theorem dtake_any (x : FeV) (now : Int) (r : RsV) (w : World) (h : x.ok w) (hi : x.m.In) (hb0 : x.body.length ≤ 100000) (hn : u64ok now) (hr : r.ok w) (hrl : r.body.length ≤ 100000) :
    Calls Tryz.prog 16 #[x.val, .int .u64 now, r.val] w fun e w' => FetPost (x.m.still (x.m.takeM now r)) w e w' := by
  obtain ⟨W, hW⟩ : ∃ W, W = ((w.alloc (.cells x.cs.toArray 32)).alloc (.cells r.cells 42)).alloc (.cells zero32 32) := ⟨_, rfl⟩
  have hbel : Below w.heap.size w W := by rw [hW]; exact (Go.Joins.below_alloc2 w _ _).alloc (by rw [size2]; omega) _
  have hB : BoxC W w.heap.size 32 x.cs.toArray := by rw [hW]; exact ((BoxC.new _ _ _).alloc _).alloc _
  have hC : BoxC W (w.heap.size + 1) 42 r.cells := by
    rw [hW]
    have := BoxC.new (w.alloc (.cells x.cs.toArray 32)) 42 r.cells
    rw [World.size_alloc] at this
    exact this.alloc _
  have hR : BoxC W (w.heap.size + 1 + 1) 32 zero32 := by
    rw [hW]
    have := BoxC.new ((w.alloc (.cells x.cs.toArray 32)).alloc (.cells r.cells 42)) 32 zero32
    rwa [size2] at this
  have HCP := Lib.hid (dcopy_any x W (h.below hbel) (by have := hi.len; have : x.set.length ≤ 1000 := this; omega) hb0)
  have HW := Lib.hid (And.intro hbel (And.intro hB (And.intro hR hC)))
  have HI := Lib.hid (And.intro hn (And.intro hi (And.intro hr hrl)))
  obtain ⟨c0, c1, c2, c3, c4, c5, c6, c7⟩ := FeV.c8 hB
  have f0 := hB.fz
  simp only [FeV.cs, zero32, RsV.cells] at hW
  clear hbel hB hR hC h hn hi hb0 hr hrl
  go_enter Tryz.func16, Tryz.ntmps16
  go_upto_region 1 with fail
  unfold FeV.val RsV.val
  rw [← hW]
  clear hW
  go_wp2_with fail
  refine HCP.out.mono ?_
  rintro e w1 ⟨y, rfl, hy⟩
  have HY := Lib.hid hy
  have hB1 := HW.out.2.1.below hy.bel
  have hf1 := hB1.fz
  obtain ⟨e0, e1, e2, e3, e4, e5, e6, e7⟩ := FeV.c8 hB1
  clear c0 c1 c2 c3 c4 c5 c6 c7 f0 hy hB1 HCP
  go_upto_region 2 with fail
  refine via (fun X => Copied w X w.heap.size (w.heap.size + 1 + 1) y x.m ∧ BoxC X (w.heap.size + 1) 42 r.cells) ⟨Copied.of HW.out.2.1 HW.out.2.2.1 HW.out.1 (Nat.le_refl _) (by omega) HY.out, by have h : BoxC (put8n w1 w.heap.size y) (w.heap.size + 1) 42 r.cells := (by rw [put8n_eq]; exact (HW.out.2.2.2.below HY.out.bel).ch1' (by omega) (Ch1.sets w1 w.heap.size y.cs)); exact h⟩ (fun X hX => ?_)
  have HX := Lib.hid hX
  have hm := hX.1.m
  have HM := Lib.hid hm
  obtain ⟨c0, c1, c2, c3, c4, c5, c6, c7⟩ := FeV.c8 hX.1.box
  obtain ⟨r0, r1, r2, r3, r4, r5, r6, r7⟩ := t8 hX.1.res
  have g0 := hX.1.res.fz
  have b0 := hX.2.cell 0
  have b1 := hX.2.cell 1
  have b2 := hX.2.cell 2
  have b3 := hX.2.cell 3
  have b4 := hX.2.cell 4
  have b5 := hX.2.cell 5
  have b6 := hX.2.cell 6
  have b8 := hX.2.cell 8
  simp only [RsV.cells, List.getElem?_toArray, List.getElem?_cons_succ, List.getElem?_cons_zero] at b0 b1 b2 b3 b4 b5 b6 b8
  clear hX e0 e1 e2 e3 e4 e5 e6 e7 hf1
  have HNO := Lib.hid (show ∀ Z, Below X.heap.size X Z → x.m.still (x.m.takeM now r) = (x.m, []) → BoxC (put8n Z (w.heap.size + 1 + 1) y) (w.heap.size + 1 + 1) 32 y.cs.toArray ∧ FetPost (x.m.still (x.m.takeM now r)) w (.returned (.tuple #[y.val, .slice none 0 0])) (put8n Z (w.heap.size + 1 + 1) y) from fun Z hZ hM => by
    have hc := HX.out.1.below hZ
    have := fet_none hc.res (by omega) hc.bel hc.blk hc.m hc.ok
    rwa [← hM] at this)
  by_cases k1 : y.done = 1
  · have HE := Lib.hid (HNO.out X (Below.refl _ _) (by unfold FeM.still; exact if_pos (show x.m.done = 1 from by rw [← hm]; exact k1)))
    have d1 : (y.done == 1) = true := by rw [k1]; rfl
    have d1' : decide (y.done = 1) = true := decide_eq_true k1
    clear k1
    unfold put8n at HE
    go_wp2
    refine bodyPost_ret (results_f2 rfl _ _ (w.heap.size + 1 + 1) y rfl HE.out.1) rfl ?_
    exact HE.out.2
  have d1 : (y.done == 1) = false := by simpa using k1
  have d1' : decide (y.done = 1) = false := decide_eq_false k1
  have HST := Lib.hid (show ∀ M, x.m.still M = M from fun M => by unfold FeM.still; rw [if_neg (show ¬ x.m.done = 1 from by rw [← hm]; exact k1)])
  clear k1 hm
  by_cases kk : r.kind = 3
  rotate_left
  · have HE := Lib.hid (HNO.out X (Below.refl _ _) (by rw [HST.out, dk_ill (fun hh => kk (by rw [← HM.out] at hh; exact hh.1))]))
    have t1 : (r.kind != 3) = true := by simpa [bne] using kk
    have t2 : decide (r.kind = 3) = false := decide_eq_false kk
    have t3 : (r.kind == 3) = false := by simpa using kk
    clear kk
    unfold put8n at HE
    go_wp2
    refine bodyPost_ret (results_f2 rfl _ _ (w.heap.size + 1 + 1) y rfl HE.out.1) rfl ?_
    exact HE.out.2
  have t1_0 : (r.kind != 3) = false := by simp [bne, kk]
  have t2_0 : decide (r.kind = 3) = true := decide_eq_true kk
  have t3_0 : (r.kind == 3) = true := by simpa using kk
  have HF0 := Lib.hid kk
  clear kk
  by_cases kk : r.ledger = y.id
  rotate_left
  · have HE := Lib.hid (HNO.out X (Below.refl _ _) (by rw [HST.out, dk_ill (fun hh => kk (by rw [← HM.out] at hh; exact hh.2.1))]))
    have t1 : (r.ledger != y.id) = true := by simpa [bne] using kk
    have t2 : decide (r.ledger = y.id) = false := decide_eq_false kk
    have t3 : (r.ledger == y.id) = false := by simpa using kk
    clear kk
    unfold put8n at HE
    go_wp2
    refine bodyPost_ret (results_f2 rfl _ _ (w.heap.size + 1 + 1) y rfl HE.out.1) rfl ?_
    exact HE.out.2
  have t1_1 : (r.ledger != y.id) = false := by simp [bne, kk]
  have t2_1 : decide (r.ledger = y.id) = true := decide_eq_true kk
  have t3_1 : (r.ledger == y.id) = true := by simpa using kk
  have HF1 := Lib.hid kk
  clear kk
  by_cases kk : r.n = y.n
  rotate_left
  · have HE := Lib.hid (HNO.out X (Below.refl _ _) (by rw [HST.out, dk_ill (fun hh => kk (by rw [← HM.out] at hh; exact hh.2.2.1))]))
    have t1 : (r.n != y.n) = true := by simpa [bne] using kk
    have t2 : decide (r.n = y.n) = false := decide_eq_false kk
    have t3 : (r.n == y.n) = false := by simpa using kk
    clear kk
    unfold put8n at HE
    go_wp2
    refine bodyPost_ret (results_f2 rfl _ _ (w.heap.size + 1 + 1) y rfl HE.out.1) rfl ?_
    exact HE.out.2
  have t1_2 : (r.n != y.n) = false := by simp [bne, kk]
  have t2_2 : decide (r.n = y.n) = true := decide_eq_true kk
  have t3_2 : (r.n == y.n) = true := by simpa using kk
  have HF2 := Lib.hid kk
  clear kk
  by_cases kk : r.epoch = y.tag
  rotate_left
  · have HE := Lib.hid (HNO.out X (Below.refl _ _) (by rw [HST.out, dk_ill (fun hh => kk (by rw [← HM.out] at hh; exact hh.2.2.2))]))
    have t1 : (r.epoch != y.tag) = true := by simpa [bne] using kk
    have t2 : decide (r.epoch = y.tag) = false := decide_eq_false kk
    have t3 : (r.epoch == y.tag) = false := by simpa using kk
    clear kk
    unfold put8n at HE
    go_wp2
    refine bodyPost_ret (results_f2 rfl _ _ (w.heap.size + 1 + 1) y rfl HE.out.1) rfl ?_
    exact HE.out.2
  have t1_3 : (r.epoch != y.tag) = false := by simp [bne, kk]
  have t2_3 : decide (r.epoch = y.tag) = true := decide_eq_true kk
  have t3_3 : (r.epoch == y.tag) = true := by simpa using kk
  have HF3 := Lib.hid kk
  clear kk
  have HFT := Lib.hid (show x.m.fits r from by rw [← HM.out]; exact ⟨HF0.out, HF1.out, HF2.out, HF3.out⟩)
  -- the place that is asked
  obtain ⟨k, hk⟩ : ∃ k : Nat, y.at' = (k : Int) := ⟨y.at'.toNat, by have := HI.out.2.1.lo; rw [← HM.out] at this; have : 0 ≤ y.at' := this; omega⟩
  have hkl : k < y.set.length := by have := HI.out.2.1.hi; rw [← HM.out] at this; have : y.at' < (y.set.length : Int) := this; omega
  have hln : y.set.length ≤ 1000 := by have := HI.out.2.1.len; rw [← HM.out] at this; exact this
  obtain ⟨p, hp⟩ : ∃ p, y.set[k]? = some p := ⟨_, List.getElem?_eq_getElem hkl⟩
  have HCU := Lib.hid (show x.m.cur = p from by
    rw [← HM.out]
    show y.set.getD y.at'.toNat default = p
    rw [hk, Int.toNat_natCast, List.getD_eq_getElem?_getD, hp]
    rfl)
  obtain ⟨bs, os, hsa, hbs, -, hcs⟩ := RowAt.cell HX.out.1.ok.st hp
  have HPC := Lib.hid (show ∀ Z, Below X.heap.size X Z → Z.cell? ⟨bs, os + k * 2, none⟩ = some (.int .i64 p.n) ∧ Z.cell? ⟨bs, os + k * 2 + 1, none⟩ = some (.int .u64 p.s) from fun Z hZ => ⟨hcs 0 (by omega) Z hZ, hcs 1 (by omega) Z hZ⟩)
  have HAL := Lib.hid (And.intro hk (And.intro hkl (And.intro hln hsa)))
  clear hp hcs hbs
  have hkz : (k : Int) < (y.set.length : Int) := by omega
  have kg := guard38
  by_cases hc0 : r.code = 0
  · have z0 : (r.code == 0) = true := by simpa using hc0
    have HHS := Lib.hid (rhas_any (.slice y.sa y.set.length y.sc) y.set r.frm X HX.out.1.ok.st (by omega))
    dsimp only [PL.val] at HHS
    have HC0 := Lib.hid hc0
    clear hc0 hsa hk
    go_wp2_with fail
    by_cases hhas : r.frm ∈ y.set
    · rw [show y.set.contains r.frm = true by simpa using hhas] at HHS
      have HMM := Lib.hid (show x.m.still (x.m.takeM now r) = ({ x.m with done := 1, body := r.body }, []) from by rw [HST.out, dk_0 HFT.out HC0.out (by rw [← HM.out]; exact hhas)])
      clear hhas
      refine HHS.out.mono ?_
      rintro e w2 ⟨rfl, hb2⟩
      have HC2 := Lib.hid (HX.out.1.below hb2)
      have HB2 := Lib.hid (HX.out.2.below hb2)
      clear c0 c1 c2 c3 c4 c5 c6 c7 b0 b1 b2 b3 b4 b5 b6 b8 r0 r1 r2 r3 r4 r5 r6 r7 g0 hb2
      obtain ⟨c0, c1, c2, c3, c4, c5, c6, c7⟩ := FeV.c8 HC2.out.box
      have f6 := HC2.out.box.fz
      go_upto_region 6 with fail
      obtain ⟨z1, hz1⟩ : ∃ z : FeV, z = { y with done := 1 } := ⟨_, rfl⟩
      have hcw := Ch1.set w2 w.heap.size 6 (.int .i64 1)
      have hCz : Copied w (w2.setCell ⟨w.heap.size, 6, none⟩ (.int .i64 1)) w.heap.size (w.heap.size + 1 + 1) z1 z1.m := by
        refine ⟨by rw [hz1]; exact HC2.out.box.set 6 _, ?_, HC2.out.bel.setCell (p := ⟨w.heap.size, 6, none⟩) (Nat.le_refl _) _, HC2.out.res.other (by omega) 6 _, fun b e => ?_, rfl⟩
        · rw [hz1]
          obtain ⟨n1, n2, n3, n4, n5⟩ := HC2.out.ok.nums
          exact ⟨⟨n1, n2, n3, n4, by unfold i64ok; dsimp only; omega⟩, RowAt.ch1 HC2.out.ok.st (fun b e => by have := HC2.out.blk b (.inl e); omega) hcw, RowAt.ch1 HC2.out.ok.bd (fun b e => by have := HC2.out.blk b (.inr e); omega) hcw⟩
        · rw [hz1] at e
          exact HC2.out.blk b e
      refine via (fun Z => Copied w Z w.heap.size (w.heap.size + 1 + 1) z1 z1.m ∧ BoxC Z (w.heap.size + 1) 42 r.cells) ⟨hCz, HB2.out.other (by omega) 6 _⟩ (fun Z hZ => ?_)
      have HZ := Lib.hid hZ
      have b8a : ∀ o, (Z.alloc o).cell? ⟨w.heap.size + 1, 8, none⟩ = some (.slice r.ba r.body.length r.bc) := fun o => (hZ.2.alloc o).cell 8
      have HRB := Lib.hid (show BsAt Z (.slice r.ba r.body.length r.bc) r.body from (HI.out.2.2.1.below hZ.1.bel).bd)
      clear c0 c1 c2 c3 c4 c5 c6 c7 f6 hcw hCz hZ
      have HZE := Lib.hid hz1
      clear hz1
      go_upto_region 7 with (first | (at_builtin; refine wpList_append_rows rfl (.tmp 52) (.tmp 54) 30 5 1 1 _ byC rfl Tryz.underlying30 info5 rfl (by decide) (by decide) (fun _ => rfl) Z.heap.size _ _ [] r.body rfl rfl (OwnRow.made Z) (BsAt.below HRB.out (Go.Joins.below_alloc1 Z _)) (bs_one r.body) (by have := HI.out.2.2.2; simp; omega) (by simp) ?_; intro v2 w3 ho2 hg2; obtain ⟨a2, k2, rfl, ho2, hb3⟩ := app_new ho2 hg2; have e7 := (HZ.out.1.box.below hb3).cell 7; have g7 := (HZ.out.1.box.below hb3).fz; simp only [FeV.cs, List.getElem?_toArray, List.getElem?_cons_succ, List.getElem?_cons_zero] at e7))
      obtain ⟨z2, hz2⟩ : ∃ z : FeV, z = { z1 with ba := a2, bc := k2, body := r.body } := ⟨_, rfl⟩
      have HC3 := Lib.hid (HZ.out.1.below hb3)
      have hcw := Ch1.set w3 w.heap.size 7 (.slice a2 r.body.length k2)
      have hlo : ∀ b, ab a2 = some b → Z.heap.size ≤ b := fun b e => (OwnRow.ab ho2 b e).1
      have hzr : w.heap.size + 1 + 1 < Z.heap.size := HZ.out.1.res.lt
      have hCy : Copied w (w3.setCell ⟨w.heap.size, 7, none⟩ (.slice a2 r.body.length k2)) w.heap.size (w.heap.size + 1 + 1) z2 z2.m := by
        refine ⟨by rw [hz2]; exact HC3.out.box.set 7 _, ?_, HC3.out.bel.setCell (p := ⟨w.heap.size, 7, none⟩) (Nat.le_refl _) _, HC3.out.res.other (by omega) 7 _, fun b e => ?_, rfl⟩
        · rw [hz2]
          refine ⟨HC3.out.ok.nums, RowAt.ch1 HC3.out.ok.st (fun b e => by have := HC3.out.blk b (.inl e); omega) hcw, ?_⟩
          have hq : BsAt w3 (.slice a2 r.body.length k2) r.body := OwnRow.at (fun _ => rfl) ho2 HRB.out.each
          exact RowAt.ch1 hq (fun b e => by have := hlo b e; omega) hcw
        · rw [hz2] at e
          rcases e with e | e
          · exact HC3.out.blk b (.inl e)
          · have := hlo b e
            omega
      refine via (fun V => Copied w V w.heap.size (w.heap.size + 1 + 1) z2 z2.m) hCy (fun V hV => ?_)
      have hzm : z2.m = { x.m with done := 1, body := r.body } := by rw [hz2, HZE.out, ← HM.out]; rfl
      have HE := Lib.hid (show BoxC (put8n V (w.heap.size + 1 + 1) z2) (w.heap.size + 1 + 1) 32 z2.cs.toArray ∧ FetPost (x.m.still (x.m.takeM now r)) w (.returned (.tuple #[z2.val, .slice none 0 0])) (put8n V (w.heap.size + 1 + 1) z2) from by
        rw [HMM.out, ← hzm]
        exact fet_none hV.res (by omega) hV.bel hV.blk rfl hV.ok)
      obtain ⟨c0, c1, c2, c3, c4, c5, c6, c7⟩ := FeV.c8 hV.box
      obtain ⟨r0, r1, r2, r3, r4, r5, r6, r7⟩ := t8 hV.res
      have g0 := hV.res.fz
      clear hzm hCy hcw hlo hzr hV e7 g7 b8a ho2 hb3 hg2 hz2
      unfold put8n at HE
      go_wp2
      refine bodyPost_ret (results_f2 rfl _ _ (w.heap.size + 1 + 1) z2 rfl HE.out.1) rfl ?_
      exact HE.out.2
    · rw [show y.set.contains r.frm = false by simpa using hhas] at HHS
      have hMM : x.m.still (x.m.takeM now r) = (x.m, []) := by rw [HST.out, dk_00 HC0.out (by rw [← HM.out]; exact hhas)]
      clear hhas
      refine HHS.out.mono ?_
      rintro e w2 ⟨rfl, hb2⟩
      have HCV := Lib.hid (HX.out.1.below hb2)
      have HBV := Lib.hid (HX.out.2.below hb2)
      have hPV := HPC.out w2 hb2
      have HB2 := Lib.hid hb2
      clear c0 c1 c2 c3 c4 c5 c6 c7 b0 b1 b2 b3 b4 b5 b6 b8 r0 r1 r2 r3 r4 r5 r6 r7 g0 hb2
      obtain ⟨c0, c1, c2, c3, c4, c5, c6, c7⟩ := FeV.c8 HCV.out.box
      have hsa := HAL.out.2.2.2
      have hk := HAL.out.1
      rw [hsa] at c2
      rw [hk] at c3
      obtain ⟨p0, p1⟩ := hPV
      go_upto_region 9 with fail
      obtain ⟨pb, hpb⟩ : ∃ pb, w2.heap.size = pb := ⟨_, rfl⟩
      have hal := Go.Joins.below_alloc1 w2 (.cells #[.int .i64 p.n, .int .u64 p.s] 40)
      have hpx : BoxC (w2.alloc (.cells #[.int .i64 p.n, .int .u64 p.s] 40)) pb 40 #[.int .i64 p.n, .int .u64 p.s] := by rw [← hpb]; exact BoxC.new _ _ _
      rw [hpb]
      refine via (fun V => (Copied w V w.heap.size (w.heap.size + 1 + 1) y x.m ∧ BoxC V (w.heap.size + 1) 42 r.cells) ∧ BoxC V pb 40 #[.int .i64 p.n, .int .u64 p.s] ∧ Below X.heap.size X V) ⟨⟨HCV.out.below hal, HBV.out.below hal⟩, hpx, HB2.out.trans (hal.mono HB2.out.size)⟩ (fun V hV => ?_)
      have HV := Lib.hid hV
      clear c0 c1 c2 c3 c4 c5 c6 c7 p0 p1 hal hpx hpb 
      obtain ⟨c0, c1, c2, c3, c4, c5, c6, c7⟩ := FeV.c8 hV.1.1.box
      rw [hsa] at c2
      rw [hk] at c3
      obtain ⟨r0, r1, r2, r3, r4, r5, r6, r7⟩ := t8 hV.1.1.res
      have g0 := hV.1.1.res.fz
      have b0 := hV.1.2.cell 0
      have b1 := hV.1.2.cell 1
      have b2 := hV.1.2.cell 2
      have b3 := hV.1.2.cell 3
      have x0 := hV.2.1.cell 0
      have x1 := hV.2.1.cell 1
      simp only [RsV.cells, List.getElem?_toArray, List.getElem?_cons_succ, List.getElem?_cons_zero] at b0 b1 b2 b3 x0 x1
      have HE1 := Lib.hid (fun h => HNO.out V hV.2.2 h)
      clear hV
      clear z0
      have v1 : decide (1 ≤ r.code) = false := decide_eq_false (by rw [HC0.out]; omega)
      have v4 : (r.code == 4) = false := by simp; rw [HC0.out]; omega
      have v4' : decide (r.code = 4) = false := decide_eq_false (by rw [HC0.out]; omega)
      have HE0 := Lib.hid (HE1.out hMM)
      clear hMM HE1
      unfold put8n at HE0
      rw [hsa, hk] at HE0
      go_wp2
      refine bodyPost_ret (results_f2 rfl _ _ (w.heap.size + 1 + 1) y rfl HE0.out.1) rfl ?_
      exact HE0.out.2
  · have z0 : (r.code == 0) = false := by simpa using hc0
    have z0' : decide (r.code = 0) = false := decide_eq_false hc0
    have HCV := Lib.hid HX.out.1
    have HBV := Lib.hid HX.out.2
    have hPV := HPC.out X (Below.refl _ _)
    rw [hsa] at c2
    rw [hk] at c3
    obtain ⟨p0, p1⟩ := hPV
    go_upto_region 9 with fail
    obtain ⟨pb, hpb⟩ : ∃ pb, X.heap.size = pb := ⟨_, rfl⟩
    have hal := Go.Joins.below_alloc1 X (.cells #[.int .i64 p.n, .int .u64 p.s] 40)
    have hpx : BoxC (X.alloc (.cells #[.int .i64 p.n, .int .u64 p.s] 40)) pb 40 #[.int .i64 p.n, .int .u64 p.s] := by rw [← hpb]; exact BoxC.new _ _ _
    rw [hpb]
    refine via (fun V => (Copied w V w.heap.size (w.heap.size + 1 + 1) y x.m ∧ BoxC V (w.heap.size + 1) 42 r.cells) ∧ BoxC V pb 40 #[.int .i64 p.n, .int .u64 p.s] ∧ Below X.heap.size X V) ⟨⟨HCV.out.below hal, HBV.out.below hal⟩, hpx, hal⟩ (fun V hV => ?_)
    have HV := Lib.hid hV
    clear c0 c1 c2 c3 c4 c5 c6 c7 p0 p1 hal hpx hpb b0 b1 b2 b3 b4 b5 b6 b8 r0 r1 r2 r3 r4 r5 r6 r7 g0
    obtain ⟨c0, c1, c2, c3, c4, c5, c6, c7⟩ := FeV.c8 hV.1.1.box
    rw [hsa] at c2
    rw [hk] at c3
    obtain ⟨r0, r1, r2, r3, r4, r5, r6, r7⟩ := t8 hV.1.1.res
    have g0 := hV.1.1.res.fz
    have b0 := hV.1.2.cell 0
    have b1 := hV.1.2.cell 1
    have b2 := hV.1.2.cell 2
    have b3 := hV.1.2.cell 3
    have x0 := hV.2.1.cell 0
    have x1 := hV.2.1.cell 1
    simp only [RsV.cells, List.getElem?_toArray, List.getElem?_cons_succ, List.getElem?_cons_zero] at b0 b1 b2 b3 x0 x1
    have HE1 := Lib.hid (fun h => HNO.out V hV.2.2 h)
    clear hV
    by_cases h1 : 1 ≤ r.code
    · have v1 : decide (1 ≤ r.code) = true := decide_eq_true h1
      by_cases h3 : r.code ≤ 3
      · have v3 : decide (r.code ≤ 3) = true := decide_eq_true h3
        have v4 : (r.code == 4) = false := by simp; omega
        have v4' : decide (r.code = 4) = false := decide_eq_false (by omega)
        have q1 := fun w => eql38 r.frm p w
        by_cases hf : r.frm = p
        · have HMP := Lib.hid (show x.m.still (x.m.takeM now r) = x.m.passM now from by rw [HST.out, dk_123 HFT.out h1 h3 (by rw [HCU.out]; exact hf.symm)])
          rw [decide_eq_true hf] at q1
          dsimp only [PL.val] at q1
          clear h1 h3 hf hc0
          have e4 : IntKind.i64.wrap ((k : Int) + 1) = (k : Int) + 1 := wrap_small _ (by omega) (by omega)
          have HAS := Lib.hid (dask_at y ((k : Int) + 1) (((k : Int) + 1) % (y.set.length : Int)) now V (by by_cases hh : (k : Int) + 1 = (y.set.length : Int); exact .inl ⟨by omega, by rw [hh, Int.emod_self]⟩; exact .inr ⟨by omega, Int.emod_eq_of_lt (by omega) (by omega)⟩) HV.out.1.1.ok (by omega) (by omega) (by omega) (by omega) HI.out.1)
          have HMM := Lib.hid (show x.m.still (x.m.takeM now r) = FeM.askM { y.m with at' := ((k : Int) + 1) % (y.set.length : Int) } now from by rw [HMP.out, ← HM.out, ← hk]; rfl)
          unfold FeV.val at HAS
          rw [hsa, hk] at HAS
          go_wp2_with fail
          refine HAS.out.mono ?_
          rintro e w3 ⟨z, ra, rc, rfl, s1, s2, s3, s4, s5, s6⟩
          have HE := Lib.hid (fet_ask HV.out.1.1.res (by omega) HV.out.1.1.bel HV.out.1.1.blk s1 s2 s3 s4 s5 s6)
          have hr2 := HV.out.1.1.res.below s4
          clear r0 r1 r2 r3 r4 r5 r6 r7 g0
          obtain ⟨r0, r1, r2, r3, r4, r5, r6, r7⟩ := t8 hr2
          have g0 := hr2.fz
          unfold put8n at HE
          clear s1 s2 s3 s4 s5 s6 hr2 c0 c1 c2 c3 c4 c5 c6 c7
          go_wp2
          refine bodyPost_ret (results_f2 rfl _ _ (w.heap.size + 1 + 1) z rfl HE.out.1) rfl ?_
          rw [HMM.out]
          exact HE.out.2
        · have HE0 := Lib.hid (HE1.out (by rw [HST.out, dk_123n h1 h3 (by rw [HCU.out]; exact fun e => hf e.symm)]))
          rw [decide_eq_false hf] at q1
          dsimp only [PL.val] at q1
          clear h1 h3 hf hc0
          unfold put8n at HE0
          rw [hsa, hk] at HE0
          go_wp2
          refine bodyPost_ret (results_f2 rfl _ _ (w.heap.size + 1 + 1) y rfl HE0.out.1) rfl ?_
          exact HE0.out.2
      · have v3 : decide (r.code ≤ 3) = false := decide_eq_false h3
        by_cases h4 : r.code = 4
        · have v4 : (r.code == 4) = true := by simpa using h4
          have v4' : decide (r.code = 4) = true := decide_eq_true h4
          by_cases hf : r.frm.n = p.n
          · have HMP := Lib.hid (show x.m.still (x.m.takeM now r) = x.m.passM now from by rw [HST.out, dk_4 HFT.out h4 (by rw [HCU.out]; exact hf.symm)])
            have q1 : (r.frm.n == p.n) = true := by simpa using hf
            have q1' : decide (r.frm.n = p.n) = true := decide_eq_true hf
            clear h1 h3 h4 hf hc0
            have e4 : IntKind.i64.wrap ((k : Int) + 1) = (k : Int) + 1 := wrap_small _ (by omega) (by omega)
            have HAS := Lib.hid (dask_at y ((k : Int) + 1) (((k : Int) + 1) % (y.set.length : Int)) now V (by by_cases hh : (k : Int) + 1 = (y.set.length : Int); exact .inl ⟨by omega, by rw [hh, Int.emod_self]⟩; exact .inr ⟨by omega, Int.emod_eq_of_lt (by omega) (by omega)⟩) HV.out.1.1.ok (by omega) (by omega) (by omega) (by omega) HI.out.1)
            have HMM := Lib.hid (show x.m.still (x.m.takeM now r) = FeM.askM { y.m with at' := ((k : Int) + 1) % (y.set.length : Int) } now from by rw [HMP.out, ← HM.out, ← hk]; rfl)
            unfold FeV.val at HAS
            rw [hsa, hk] at HAS
            go_wp2_with fail
            refine HAS.out.mono ?_
            rintro e w3 ⟨z, ra, rc, rfl, s1, s2, s3, s4, s5, s6⟩
            have HE := Lib.hid (fet_ask HV.out.1.1.res (by omega) HV.out.1.1.bel HV.out.1.1.blk s1 s2 s3 s4 s5 s6)
            have hr2 := HV.out.1.1.res.below s4
            clear r0 r1 r2 r3 r4 r5 r6 r7 g0
            obtain ⟨r0, r1, r2, r3, r4, r5, r6, r7⟩ := t8 hr2
            have g0 := hr2.fz
            unfold put8n at HE
            clear s1 s2 s3 s4 s5 s6 hr2 c0 c1 c2 c3 c4 c5 c6 c7
            go_wp2
            refine bodyPost_ret (results_f2 rfl _ _ (w.heap.size + 1 + 1) z rfl HE.out.1) rfl ?_
            rw [HMM.out]
            exact HE.out.2
          · have HE0 := Lib.hid (HE1.out (by rw [HST.out, dk_4n h4 (by rw [HCU.out]; exact fun e => hf e.symm)]))
            have q1 : (r.frm.n == p.n) = false := by simpa using hf
            have q1' : decide (r.frm.n = p.n) = false := decide_eq_false hf
            clear h1 h3 h4 hf hc0
            unfold put8n at HE0
            rw [hsa, hk] at HE0
            go_wp2
            refine bodyPost_ret (results_f2 rfl _ _ (w.heap.size + 1 + 1) y rfl HE0.out.1) rfl ?_
            exact HE0.out.2
        · have v4 : (r.code == 4) = false := by simpa using h4
          have v4' : decide (r.code = 4) = false := decide_eq_false h4
          have HE0 := Lib.hid (HE1.out (by rw [HST.out, dk_x (.inr (by omega))]))
          clear h1 h3 h4 hc0
          unfold put8n at HE0
          rw [hsa, hk] at HE0
          go_wp2
          refine bodyPost_ret (results_f2 rfl _ _ (w.heap.size + 1 + 1) y rfl HE0.out.1) rfl ?_
          exact HE0.out.2
    · have v1 : decide (1 ≤ r.code) = false := decide_eq_false h1
      have v4 : (r.code == 4) = false := by simp; omega
      have v4' : decide (r.code = 4) = false := decide_eq_false (by omega)
      have HE0 := Lib.hid (HE1.out (by rw [HST.out, dk_x (.inl (by omega))]))
      clear h1 hc0
      unfold put8n at HE0
      rw [hsa, hk] at HE0
      go_wp2
      refine bodyPost_ret (results_f2 rfl _ _ (w.heap.size + 1 + 1) y rfl HE0.out.1) rfl ?_
      exact HE0.out.2
end Go.Proofs.YtpihogkhfmijcaaGreat
