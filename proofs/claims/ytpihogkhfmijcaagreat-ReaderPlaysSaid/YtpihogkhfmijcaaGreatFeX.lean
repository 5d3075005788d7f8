/- Tick, Take. -/
import Derived.Test.YtpihogkhfmijcaaGreatFeW
namespace Go.Proofs.YtpihogkhfmijcaaGreat
open Go.RowKit Go.Maps Go.Shelf
set_option linter.unusedSimpArgs false
/-- what is done stays -/
def FeM.still (m : FeM) (M : FeM × List RqM) : FeM × List RqM := if m.done = 1 then (m, []) else M
/-- the answer's block, written, and no more -/
def put8n (X : World) (R : Nat) (y : FeV) : World := ((((((((X.setCell ⟨R, 0, none⟩ (.int .u64 y.id)).setCell ⟨R, 1, none⟩ (.int .u64 y.n)).setCell ⟨R, 2, none⟩ (.slice y.sa y.set.length y.sc)).setCell ⟨R, 3, none⟩ (.int .i64 y.at')).setCell ⟨R, 4, none⟩ (.int .u64 y.since)).setCell ⟨R, 5, none⟩ (.int .u64 y.tag)).setCell ⟨R, 6, none⟩ (.int .i64 y.done)).setCell ⟨R, 7, none⟩ (.slice y.ba y.body.length y.bc))
theorem put8n_eq (X : World) (R : Nat) (y : FeV) : put8n X R y = X.setCells R 0 y.cs := by
  unfold put8n FeV.cs
  simp only [World.setCells, Nat.reduceAdd, Nat.zero_add]
/-- the answer of one call that is handed on -/
theorem FetPost.put {M : FeM × List RqM} {w W w1 : World} {y : FeV} {ra : Option Addr} {rc R : Nat} (hR : BoxC W R 32 zero32) (hwR : w.heap.size ≤ R) (hb : Below w.heap.size w W) (_ : y.m = M.1) (h3 : y.ok w1) (h4 : QsAt w1 (.slice ra M.2.length rc) M.2) (h5 : Below W.heap.size W w1) (h6 : ∀ b, y.blk b ∨ ab ra = some b → W.heap.size ≤ b) :
    BoxC (put8n w1 R y) R 32 y.cs.toArray ∧ y.ok (put8n w1 R y) ∧ QsAt (put8n w1 R y) (.slice ra M.2.length rc) M.2 ∧ Below w.heap.size w (put8n w1 R y) ∧ ∀ b, y.blk b ∨ ab ra = some b → w.heap.size ≤ b := by
  rw [put8n_eq]
  have hl := hR.lt
  have hc := Ch1.sets w1 R y.cs
  exact ⟨(hR.below h5).full y.cs rfl, h3.ch1 (fun b e => by have := h6 b (.inl (.inl e)); omega) (fun b e => by have := h6 b (.inl (.inr e)); omega) hc, QsAt.ch1 h4 (fun b e => by have := h6 b (.inr e); omega) hc, Below.sets hwR _ (hb.trans (h5.mono hb.size)), fun b e => by have := h6 b e; omega⟩
set_option maxRecDepth 100000 in
set_option maxHeartbeats 2000000 in
theorem Tick_any (m : FeV) (now : Int) (hnow : u64ok now) (w : World) (h : m.ok w) (hi : m.m.In) (h2 : m.body.length ≤ 100000) :
    Calls Tryz.prog 11 #[m.val, .int .u64 now] w fun e w' => FetPost (m.m.still (m.m.tickM now)) w e w' := by
  obtain ⟨W, hW⟩ : ∃ W, W = (w.alloc (.cells m.cs.toArray 32)).alloc (.cells zero32 32) := ⟨_, rfl⟩
  have hbel : Below w.heap.size w W := by rw [hW]; exact Go.Joins.below_alloc2 w _ _
  have hB : BoxC W w.heap.size 32 m.cs.toArray := by rw [hW]; exact (BoxC.new _ _ _).alloc _
  have hR : BoxC W (w.heap.size + 1) 32 zero32 := by
    rw [hW]
    have := BoxC.new (w.alloc (.cells m.cs.toArray 32)) 32 zero32
    rwa [World.size_alloc] at this
  have HK := Lib.hid (worked0_any (M := m.m.still (m.m.tickM now)) (enters_of Tryz.func30 (by kernel_rfl) rfl) m now hnow W (h.below hbel) (by have := hi.len; have : m.set.length ≤ 1000 := this; omega) h2 (fun hd Z G y hw _ hm => by
    have := tick_any hw (by rw [hm]; exact hi)
    rw [hm] at this
    unfold FeM.still
    rw [if_neg (show ¬ m.m.done = 1 from hd)]
    exact this) (fun hd => if_pos hd))
  have HW := Lib.hid (And.intro hbel hR)
  obtain ⟨c0, c1, c2, c3, c4, c5, c6, c7⟩ := FeV.c8 hB
  clear hbel hB hR h2 h hi hnow
  simp only [FeV.cs, zero32] at hW
  go_enter Tryz.func11, Tryz.ntmps11
  go_wp2_with fail
  rw [← hW]
  clear hW
  go_wp2_with fail
  refine HK.out.mono ?_
  rintro e w1 ⟨y, ra, rc, rfl, q1, q2, q3, q4, q5⟩
  have HF := Lib.hid (FetPost.put HW.out.2 (Nat.le_succ _) HW.out.1 q1 q2 q3 q4 q5)
  have HM := Lib.hid q1
  have hR1 := HW.out.2.below q4
  obtain ⟨r0, r1, r2, r3, r4, r5, r6, r7⟩ := t8 hR1
  have f0 := hR1.fz
  unfold put8n at HF
  clear q1 q2 q3 q4 q5 hR1 c0 c1 c2 c3 c4 c5 c6 c7
  go_wp2
  refine bodyPost_ret (results_f2 rfl _ _ (w.heap.size + 1) y rfl HF.out.1) rfl ?_
  exact ⟨y, ra, rc, rfl, HM.out, HF.out.2⟩
set_option maxRecDepth 100000 in
theorem taken_any {g Rb : Nat} {x : FeV} {now : Int} {w : World} (h : Wo w g x now none 0 []) (hi : x.m.In) (r : RsV) (hr : r.ok w) (hl : r.body.length ≤ 100000) (hb : BoxC w Rb 42 r.cells) :
    Calls Tryz.prog 33 #[pg g, .pointer (some ⟨Rb, 0, none⟩)] w fun e w' => WoPost g now x (x.m.takeM now r).1 (x.m.takeM now r).2 w e w' := by
  have HT := Lib.hid (take_any h hi r hr hl)
  have b0 := hb.cell 0
  have b1 := hb.cell 1
  have b2 := hb.cell 2
  have b3 := hb.cell 3
  have b4 := hb.cell 4
  have b5 := hb.cell 5
  have b6 := hb.cell 6
  have b7 := hb.cell 7
  have b8 := hb.cell 8
  simp only [RsV.cells, List.getElem?_toArray, List.getElem?_cons_succ, List.getElem?_cons_zero] at b0 b1 b2 b3 b4 b5 b6 b7 b8
  clear h hi hr hl hb
  go_enter Tryz.func33, Tryz.ntmps33
  go_wp2_with fail
  refine HT.out.mono ?_
  rintro e w1 ⟨⟨v, rfl⟩, hq⟩
  have HQ := Lib.hid hq
  clear hq
  go_wp2
  go_end0
  exact ⟨⟨_, rfl⟩, HQ.out⟩
theorem size2 (w : World) (a b : Obj) : ((w.alloc a).alloc b).heap.size = w.heap.size + 1 + 1 := by simp only [World.size_alloc]
set_option maxRecDepth 100000 in
set_option maxHeartbeats 2000000 in
theorem Take_any (m : FeV) (now : Int) (hnow : u64ok now) (w : World) (h : m.ok w) (hi : m.m.In) (h2 : m.body.length ≤ 100000) (r : RsV) (hr : r.ok w) (hl : r.body.length ≤ 100000) :
    Calls Tryz.prog 15 #[m.val, .int .u64 now, r.val] w fun e w' => FetPost (m.m.still (m.m.takeM now r)) w e w' := by
  obtain ⟨W, hW⟩ : ∃ W, W = ((w.alloc (.cells m.cs.toArray 32)).alloc (.cells r.cells 42)).alloc (.cells zero32 32) := ⟨_, rfl⟩
  have hbel : Below w.heap.size w W := by rw [hW]; exact (Go.Joins.below_alloc2 w _ _).alloc (by rw [size2]; omega) _
  have hB : BoxC W w.heap.size 32 m.cs.toArray := by rw [hW]; exact ((BoxC.new _ _ _).alloc _).alloc _
  have hC : BoxC W (w.heap.size + 1) 42 r.cells := by
    rw [hW]
    have := BoxC.new (w.alloc (.cells m.cs.toArray 32)) 42 r.cells
    rw [World.size_alloc] at this
    exact this.alloc _
  have hR : BoxC W (w.heap.size + 1 + 1) 32 zero32 := by
    rw [hW]
    have := BoxC.new ((w.alloc (.cells m.cs.toArray 32)).alloc (.cells r.cells 42)) 32 zero32
    rwa [size2] at this
  have HK := Lib.hid (worked1_any (M := m.m.still (m.m.takeM now r)) (c := .pointer (some ⟨w.heap.size + 1, 0, none⟩)) (enters_of Tryz.func33 (by kernel_rfl) rfl) m now hnow W (h.below hbel) (by have := hi.len; have : m.set.length ≤ 1000 := this; omega) h2 (fun hd Z G y hw hZ hm => by
    have := taken_any hw (by rw [hm]; exact hi) r (hr.below (hbel.trans (hZ.mono hbel.size))) hl (hC.below hZ)
    rw [hm] at this
    unfold FeM.still
    rw [if_neg (show ¬ m.m.done = 1 from hd)]
    exact this) (fun hd => if_pos hd))
  have HW := Lib.hid (And.intro hbel hR)
  obtain ⟨c0, c1, c2, c3, c4, c5, c6, c7⟩ := FeV.c8 hB
  clear hbel hB hR hC h2 h hi hnow hr hl
  simp only [FeV.cs, zero32, RsV.cells] at hW
  go_enter Tryz.func15, Tryz.ntmps15
  go_wp2_with fail
  rw [← hW]
  clear hW
  go_wp2_with fail
  refine HK.out.mono ?_
  rintro e w1 ⟨y, ra, rc, rfl, q1, q2, q3, q4, q5⟩
  have HF := Lib.hid (FetPost.put HW.out.2 (show w.heap.size ≤ w.heap.size + 1 + 1 by omega) HW.out.1 q1 q2 q3 q4 q5)
  have HM := Lib.hid q1
  have hR1 := HW.out.2.below q4
  obtain ⟨r0, r1, r2, r3, r4, r5, r6, r7⟩ := t8 hR1
  have f0 := hR1.fz
  unfold put8n at HF
  clear q1 q2 q3 q4 q5 hR1 c0 c1 c2 c3 c4 c5 c6 c7
  go_wp2
  refine bodyPost_ret (results_f2 rfl _ _ (w.heap.size + 1 + 1) y rfl HF.out.1) rfl ?_
  exact ⟨y, ra, rc, rfl, HM.out, HF.out.2⟩
end Go.Proofs.YtpihogkhfmijcaaGreat
