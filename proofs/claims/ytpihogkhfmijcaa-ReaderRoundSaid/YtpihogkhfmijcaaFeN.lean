/- Moved. -/
import Derived.Test.YtpihogkhfmijcaaFeM
namespace Go.Proofs.Ytpihogkhfmijcaa
open Go.RowKit Go.Maps Go.Shelf
set_option linter.unusedSimpArgs false
set_option maxRecDepth 100000 in
theorem moves_any {g Rb : Nat} {x : FeV} {now : Int} {w : World} (h : Wo w g x now none 0 []) (hn : 1 ≤ x.n) (l : LgV) (hl : FsAt w (.slice l.a l.fs.length l.c) l.fs) (hs : ∀ x ∈ l.fs, x.ps.length ≤ 100000) (hb : BoxC w Rb 25 l.arr) :
    Calls Try.prog 27 #[pg g, .pointer (some ⟨Rb, 0, none⟩)] w fun e w' => WoPost g now x (x.m.movedM now l).1 (x.m.movedM now l).2 w e w' := by
  have HT := Lib.hid (move_any h hn l hl hs)
  have b0 := hb.cell 0
  have b1 := hb.cell 1
  have b2 := hb.cell 2
  have b3 := hb.cell 3
  have b4 := hb.cell 4
  have b5 := hb.cell 5
  simp only [LgV.arr, List.getElem?_toArray, List.getElem?_cons_succ, List.getElem?_cons_zero] at b0 b1 b2 b3 b4 b5
  simp only [LgV.val, LgV.arr] at HT
  clear h hn hl hs hb
  go_enter Try.func27, Try.ntmps27
  go_wp2_with fail
  refine HT.out.mono ?_
  rintro e w1 ⟨⟨v, rfl⟩, hq⟩
  have HQ := Lib.hid hq
  clear hq
  go_wp2
  go_end0
  exact ⟨⟨_, rfl⟩, HQ.out⟩
set_option maxRecDepth 100000 in
set_option maxHeartbeats 2000000 in
theorem Moved_any (m : FeV) (now : Int) (hnow : u64ok now) (w : World) (h : m.ok w) (h1 : m.set.length ≤ 100000) (h2 : m.body.length ≤ 100000) (hn : 1 ≤ m.n) (l : LgV) (hl : FsAt w (.slice l.a l.fs.length l.c) l.fs) (hs : ∀ x ∈ l.fs, x.ps.length ≤ 100000) :
    Calls Try.prog 12 #[m.val, .int .u64 now, l.val] w fun e w' => FetPost (m.m.still (m.m.movedM now l)) w e w' := by
  obtain ⟨W, hW⟩ : ∃ W, W = ((w.alloc (.cells m.cs.toArray 32)).alloc (.cells l.arr 25)).alloc (.cells zero32 32) := ⟨_, rfl⟩
  have hbel : Below w.heap.size w W := by rw [hW]; exact (Go.Joins.below_alloc2 w _ _).alloc (by rw [size2]; omega) _
  have hB : BoxC W w.heap.size 32 m.cs.toArray := by rw [hW]; exact ((BoxC.new _ _ _).alloc _).alloc _
  have hC : BoxC W (w.heap.size + 1) 25 l.arr := by
    rw [hW]
    have := BoxC.new (w.alloc (.cells m.cs.toArray 32)) 25 l.arr
    rw [World.size_alloc] at this
    exact this.alloc _
  have hR : BoxC W (w.heap.size + 1 + 1) 32 zero32 := by
    rw [hW]
    have := BoxC.new ((w.alloc (.cells m.cs.toArray 32)).alloc (.cells l.arr 25)) 32 zero32
    rwa [size2] at this
  have HK := Lib.hid (worked1_any (M := m.m.still (m.m.movedM now l)) (c := .pointer (some ⟨w.heap.size + 1, 0, none⟩)) (enters_of Try.func27 (by kernel_rfl) rfl) m now hnow W (h.below hbel) h1 h2 (fun hd Z G y hw hZ hm => by
    have := moves_any hw (by have e : y.n = m.n := congrArg FeM.n hm; rw [e]; exact hn) l (hl.below (hbel.trans (hZ.mono hbel.size))) hs (hC.below hZ)
    rw [hm] at this
    unfold FeM.still
    rw [if_neg (show ¬ m.m.done = 1 from hd)]
    exact this) (fun hd => if_pos hd))
  have HW := Lib.hid (And.intro hbel hR)
  obtain ⟨c0, c1, c2, c3, c4, c5, c6, c7⟩ := FeV.c8 hB
  clear hbel hB hR hC h2 h h1 hn hl hs hnow
  simp only [FeV.cs, zero32, LgV.arr] at hW
  simp only [LgV.val, LgV.arr]
  go_enter Try.func12, Try.ntmps12
  go_wp2_with fail
  rw [← hW]
  clear hW
  go_wp2_with fail
  refine HK.out.mono ?_
  rintro e w1 ⟨y, ra, rc, rfl, q1, q2, q3, q4, q5⟩
  have HF := Lib.hid (FetPost.put HW.out.2 (show w.heap.size ≤ w.heap.size + 1 + 1 by omega) HW.out.1 q1 q2 q3 q4 q5)
  have HM := Lib.hid q1
  have hR1 := HW.out.2.below q4
  obtain ⟨r0, r1, r2, r3, r4, r5, r6, r7⟩ := t8 hR1
  have f0 := hR1.fz
  unfold put8n at HF
  clear q1 q2 q3 q4 q5 hR1 c0 c1 c2 c3 c4 c5 c6 c7
  go_wp2
  refine bodyPost_ret (results_f2 rfl _ _ (w.heap.size + 1 + 1) y rfl HF.out.1) rfl ?_
  exact ⟨y, ra, rc, rfl, HM.out, HF.out.2⟩
end Go.Proofs.Ytpihogkhfmijcaa
