/- Moved. New. -/
import Derived.Test.YtpihogkhfmijcaaGreatFeM
namespace Go.Proofs.YtpihogkhfmijcaaGreat
open Go.RowKit Go.Maps Go.Shelf
set_option linter.unusedSimpArgs false
set_option maxRecDepth 100000 in
theorem moves_any {g Rb : Nat} {x : FeV} {now : Int} {w : World} (h : Wo w g x now none 0 []) (hn : 1 ≤ x.n) (l : LgV) (hl : FsAt w (.slice l.a l.fs.length l.c) l.fs) (hs : ∀ x ∈ l.fs, x.ps.length ≤ 100000) (hb : BoxC w Rb 25 l.arr) :
    Calls Tryz.prog 31 #[pg g, .pointer (some ⟨Rb, 0, none⟩)] w fun e w' => WoPost g now x (x.m.movedM now l).1 (x.m.movedM now l).2 w e w' := by
  have HT := Lib.hid (move_any h hn l hl hs)
  have b0 := hb.cell 0
  have b1 := hb.cell 1
  have b2 := hb.cell 2
  have b3 := hb.cell 3
  have b4 := hb.cell 4
  have b5 := hb.cell 5
  simp only [LgV.arr, List.getElem?_toArray, List.getElem?_cons_succ, List.getElem?_cons_zero] at b0 b1 b2 b3 b4 b5
  simp only [LgV.val, LgV.arr] at HT
  clear h hn hl hs hb
  go_enter Tryz.func31, Tryz.ntmps31
  go_wp2_with fail
  refine HT.out.mono ?_
  rintro e w1 ⟨⟨v, rfl⟩, hq⟩
  have HQ := Lib.hid hq
  clear hq
  go_wp2
  go_end0
  exact ⟨⟨_, rfl⟩, HQ.out⟩
set_option maxRecDepth 100000 in
set_option maxHeartbeats 2000000 in
theorem Moved_any (m : FeV) (now : Int) (hnow : u64ok now) (w : World) (h : m.ok w) (h1 : m.set.length ≤ 100000) (h2 : m.body.length ≤ 100000) (hn : 1 ≤ m.n) (l : LgV) (hl : FsAt w (.slice l.a l.fs.length l.c) l.fs) (hs : ∀ x ∈ l.fs, x.ps.length ≤ 100000) :
    Calls Tryz.prog 13 #[m.val, .int .u64 now, l.val] w fun e w' => FetPost (m.m.still (m.m.movedM now l)) w e w' := by
  obtain ⟨W, hW⟩ : ∃ W, W = ((w.alloc (.cells m.cs.toArray 32)).alloc (.cells l.arr 25)).alloc (.cells zero32 32) := ⟨_, rfl⟩
  have hbel : Below w.heap.size w W := by rw [hW]; exact (Go.Joins.below_alloc2 w _ _).alloc (by rw [size2]; omega) _
  have hB : BoxC W w.heap.size 32 m.cs.toArray := by rw [hW]; exact ((BoxC.new _ _ _).alloc _).alloc _
  have hC : BoxC W (w.heap.size + 1) 25 l.arr := by
    rw [hW]
    have := BoxC.new (w.alloc (.cells m.cs.toArray 32)) 25 l.arr
    rw [World.size_alloc] at this
    exact this.alloc _
  have hR : BoxC W (w.heap.size + 1 + 1) 32 zero32 := by
    rw [hW]
    have := BoxC.new ((w.alloc (.cells m.cs.toArray 32)).alloc (.cells l.arr 25)) 32 zero32
    rwa [size2] at this
  have HK := Lib.hid (worked1_any (M := m.m.still (m.m.movedM now l)) (c := .pointer (some ⟨w.heap.size + 1, 0, none⟩)) (enters_of Tryz.func31 (by kernel_rfl) rfl) m now hnow W (h.below hbel) h1 h2 (fun hd Z G y hw hZ hm => by
    have := moves_any hw (by have e : y.n = m.n := congrArg FeM.n hm; rw [e]; exact hn) l (hl.below (hbel.trans (hZ.mono hbel.size))) hs (hC.below hZ)
    rw [hm] at this
    unfold FeM.still
    rw [if_neg (show ¬ m.m.done = 1 from hd)]
    exact this) (fun hd => if_pos hd))
  have HW := Lib.hid (And.intro hbel hR)
  obtain ⟨c0, c1, c2, c3, c4, c5, c6, c7⟩ := FeV.c8 hB
  clear hbel hB hR hC h2 h h1 hn hl hs hnow
  simp only [FeV.cs, zero32, LgV.arr] at hW
  simp only [LgV.val, LgV.arr]
  go_enter Tryz.func13, Tryz.ntmps13
  go_wp2_with fail
  rw [← hW]
  clear hW
  go_wp2_with fail
  refine HK.out.mono ?_
  rintro e w1 ⟨y, ra, rc, rfl, q1, q2, q3, q4, q5⟩
  have HF := Lib.hid (FetPost.put HW.out.2 (show w.heap.size ≤ w.heap.size + 1 + 1 by omega) HW.out.1 q1 q2 q3 q4 q5)
  have HM := Lib.hid q1
  have hR1 := HW.out.2.below q4
  obtain ⟨r0, r1, r2, r3, r4, r5, r6, r7⟩ := t8 hR1
  have f0 := hR1.fz
  unfold put8n at HF
  clear q1 q2 q3 q4 q5 hR1 c0 c1 c2 c3 c4 c5 c6 c7
  go_wp2
  refine bodyPost_ret (results_f2 rfl _ _ (w.heap.size + 1 + 1) y rfl HF.out.1) rfl ?_
  exact ⟨y, ra, rc, rfl, HM.out, HF.out.2⟩
end Go.Proofs.YtpihogkhfmijcaaGreat
namespace Go.Proofs.YtpihogkhfmijcaaGreat
open Go.RowKit Go.Maps Go.Shelf
set_option linter.unusedSimpArgs false
/-- the ledger has such an entry -/
def NewOk (l : LgV) (n : Int) : Prop := l.May ∧ 1 ≤ n ∧ n ≤ 8 ∧ (l.cl = 1 → n ≤ l.last)
def newM (l : LgV) (n tag now : Int) : FeM × List RqM := FeM.beginM ⟨l.i, n, [], 0, 0, tag, 0, []⟩ now (setV l.fs l.W n)
def feZero : FeV := ⟨0, 0, none, 0, [], 0, 0, 0, 0, none, 0, []⟩
/-- what New answers -/
def NewPost (l : LgV) (n tag now : Int) (w : World) (e : Ending) (w' : World) : Prop :=
  (NewOk l n ∧ ∃ (y : FeV) (ra : Option Addr) (rc : Nat), e = .returned (.tuple #[y.val, .slice ra (newM l n tag now).2.length rc, .int .i64 0]) ∧ y.m = (newM l n tag now).1 ∧ y.ok w' ∧ QsAt w' (.slice ra (newM l n tag now).2.length rc) (newM l n tag now).2 ∧ Below w.heap.size w w' ∧ ∀ b, y.blk b ∨ ab ra = some b → w.heap.size ≤ b)
  ∨ (¬ NewOk l n ∧ e = .returned (.tuple #[feZero.val, .slice none 0 0, .int .i64 1]) ∧ Below w.heap.size w w')
theorem NewPost.good {l : LgV} {n tag now : Int} {w w' : World} {y : FeV} {ra : Option Addr} {rc : Nat} (h : NewOk l n) (h1 : y.m = (newM l n tag now).1) (h2 : y.ok w') (h3 : QsAt w' (.slice ra (newM l n tag now).2.length rc) (newM l n tag now).2) (h4 : Below w.heap.size w w') (h5 : ∀ b, y.blk b ∨ ab ra = some b → w.heap.size ≤ b) :
    NewPost l n tag now w (.returned (.tuple #[y.val, .slice ra (newM l n tag now).2.length rc, .int .i64 0])) w' := .inl ⟨h, y, ra, rc, rfl, h1, h2, h3, h4, h5⟩
theorem NewPost.bad {l : LgV} {n tag now : Int} {w w' : World} (h : ¬ NewOk l n) (h4 : Below w.heap.size w w') :
    NewPost l n tag now w (.returned (.tuple #[feZero.val, .slice none 0 0, .int .i64 1])) w' := .inr ⟨h, rfl, h4⟩
theorem below_zeros {w w1 : World} (h : Below w.heap.size w w1) : Below w.heap.size w (put8n w1 (w.heap.size + 1) feZero) := by
  rw [put8n_eq]
  exact Below.sets (Nat.le_succ _) _ h
set_option maxRecDepth 100000 in
set_option maxHeartbeats 8000000 in
theorem New_any (l0 : LgV) (n tag now : Int) (w : World) (hl : FsAt w (.slice l0.a l0.fs.length l0.c) l0.fs) (hs : ∀ x ∈ l0.fs, x.ps.length ≤ 100000) (hi : u64ok l0.i) (hn : u64ok n) (ht : u64ok tag) (hw : u64ok now) :
    Calls Tryz.prog 6 #[l0.val, .int .u64 n, .int .u64 tag, .int .u64 now] w fun e w' => NewPost l0 n tag now w e w' := by
  obtain ⟨W, hW⟩ : ∃ W, W = (w.alloc (.cells l0.arr 25)).alloc (.cells zero32 32) := ⟨_, rfl⟩
  have hbel : Below w.heap.size w W := by rw [hW]; exact Go.Joins.below_alloc2 w _ _
  have hB : BoxC W w.heap.size 25 l0.arr := by rw [hW]; exact (BoxC.new _ _ _).alloc _
  have hR : BoxC W (w.heap.size + 1) 32 zero32 := by
    rw [hW]
    have := BoxC.new (w.alloc (.cells l0.arr 25)) 32 zero32
    rwa [World.size_alloc] at this
  have HLG := Lib.hid (planLedger_any l0 W (hl.below hbel))
  have HW := Lib.hid (And.intro hbel (And.intro hB hR))
  have HST := Lib.hid (fun Z (hZ : Below w.heap.size w Z) => set_any (.slice l0.a l0.fs.length l0.c) l0.W n l0.fs Z (hl.below hZ) hs hn)
  have HSO := Lib.hid (setV_ok (n := l0.W) (k := n) (fs_ok hl))
  have HNU := Lib.hid (show FeV.nums ⟨l0.i, n, none, 0, [], 0, 0, tag, 0, none, 0, []⟩ ∧ u64ok now from ⟨⟨⟨hi, hn⟩, by unfold i64ok; dsimp only; omega, by unfold u64ok; dsimp only; omega, ht, by unfold i64ok; dsimp only; omega⟩, hw⟩)
  have HLN := Lib.hid (fun (hm : l0.May) (h1 : 1 ≤ n) => ledger_len hm h1)
  have HMA := Lib.hid (show l0.May → 1 ≤ l0.W ∧ l0.W ≤ 5 from fun hm => ⟨by have := hm.2.1; omega, hm.2.1.2.2⟩)
  have b0 := hB.cell 0
  have b1 := hB.cell 1
  have b2 := hB.cell 2
  have b3 := hB.cell 3
  have b4 := hB.cell 4
  have b5 := hB.cell 5
  obtain ⟨i, Wn, A, a, c, fs, cl, last⟩ := l0
  simp only [LgV.arr, List.getElem?_toArray, List.getElem?_cons_succ, List.getElem?_cons_zero] at b0 b1 b2 b3 b4 b5
  dsimp only at HST HSO HNU HLN HMA
  simp only [LgV.val, LgV.arr] at HLG ⊢
  simp only [LgV.arr, zero32] at hW
  obtain ⟨l0, hl0⟩ : ∃ l0 : LgV, l0 = ⟨i, Wn, A, a, c, fs, cl, last⟩ := ⟨_, rfl⟩
  rw [← hl0]
  have HL0 := Lib.hid hl0
  clear hbel hB hR hl hs hi hn ht hw hl0
  go_enter Tryz.func6, Tryz.ntmps6
  go_wp2_with fail
  rw [← hW]
  clear hW
  go_wp2_with fail
  refine HLG.out.mono ?_
  rintro e w1 ⟨R, rfl, hR, hb1⟩
  have HR := Lib.hid hR
  have HB1 := Lib.hid (HW.out.1.trans (hb1.mono HW.out.1.size))
  have HW1 := Lib.hid (And.intro HB1.out (HW.out.2.2.below hb1))
  have hB1 := HW.out.2.1.below hb1
  have b0 := hB1.cell 0
  have b1 := hB1.cell 1
  have b3 := hB1.cell 3
  have b4 := hB1.cell 4
  have b5 := hB1.cell 5
  simp only [LgV.arr, List.getElem?_toArray, List.getElem?_cons_succ, List.getElem?_cons_zero] at b0 b1 b3 b4 b5
  have b1a : ∀ o, (w1.alloc o).cell? ⟨w.heap.size, 1, none⟩ = some (.int .i64 Wn) := fun o => ((Go.Joins.below_alloc1 w1 o).cell (p := ⟨w.heap.size, 1, none⟩) hB1.lt).trans b1
  have b3a : ∀ o, (w1.alloc o).cell? ⟨w.heap.size, 3, none⟩ = some (.slice a fs.length c) := fun o => ((Go.Joins.below_alloc1 w1 o).cell (p := ⟨w.heap.size, 3, none⟩) hB1.lt).trans b3
  clear hR hb1 hB1 HLG HW
  cases R with
  | false =>
    have HBAD := Lib.hid (show ¬ NewOk l0 n from fun hh => by have := HR.out.2 (by have := hh.1; rw [HL0.out] at this; exact this); cases this)
    clear HLN HMA
    obtain ⟨r0, r1, r2, r3, r4, r5, r6, r7⟩ := t8 HW1.out.2
    have f0 := HW1.out.2.fz
    go_wp2
    refine bodyPost_ret (results_f3 rfl _ _ (w.heap.size + 1) feZero rfl ((HW1.out.2.full feZero.cs rfl))) rfl ?_
    exact NewPost.bad HBAD.out (below_zeros HW1.out.1)
  | true =>
    have HM := Lib.hid (show l0.May by rw [HL0.out]; exact HR.out.1 rfl)
    have hM0 := HM.out
    rw [HL0.out] at hM0
    have HM0 := Lib.hid hM0
    clear hM0
    by_cases g1 : n < 1
    · have e1 : decide (n < 1) = true := decide_eq_true g1
      have HBAD := Lib.hid (show ¬ NewOk l0 n from fun hh => by have := hh.2.1; omega)
      clear HLN HMA
      obtain ⟨r0, r1, r2, r3, r4, r5, r6, r7⟩ := t8 HW1.out.2
      have f0 := HW1.out.2.fz
      go_wp2
      refine bodyPost_ret (results_f3 rfl _ _ (w.heap.size + 1) feZero rfl ((HW1.out.2.full feZero.cs rfl))) rfl ?_
      exact NewPost.bad HBAD.out (below_zeros HW1.out.1)
    · have e1 : decide (n < 1) = false := decide_eq_false g1
      by_cases g2 : 8 < n
      · have e2 : decide (8 < n) = true := decide_eq_true g2
        have HBAD := Lib.hid (show ¬ NewOk l0 n from fun hh => by have := hh.2.2.1; omega)
        clear HLN HMA
        obtain ⟨r0, r1, r2, r3, r4, r5, r6, r7⟩ := t8 HW1.out.2
        have f0 := HW1.out.2.fz
        go_wp2
        refine bodyPost_ret (results_f3 rfl _ _ (w.heap.size + 1) feZero rfl ((HW1.out.2.full feZero.cs rfl))) rfl ?_
        exact NewPost.bad HBAD.out (below_zeros HW1.out.1)
      · have e2 : decide (8 < n) = false := decide_eq_false g2
        have HLN1 := Lib.hid (HLN.out HM0.out (by omega))
        have HMA1 := Lib.hid (HMA.out HM0.out)
        by_cases g3 : cl = 1
        · subst g3
          by_cases g4 : last < n
          · have e4 : decide (last < n) = true := decide_eq_true g4
            have HBAD := Lib.hid (show ¬ NewOk l0 n from fun hh => by have := hh.2.2.2 (by rw [HL0.out]); rw [HL0.out] at this; dsimp only at this; omega)
            clear HLN HMA
            obtain ⟨r0, r1, r2, r3, r4, r5, r6, r7⟩ := t8 HW1.out.2
            have f0 := HW1.out.2.fz
            go_wp2
            refine bodyPost_ret (results_f3 rfl _ _ (w.heap.size + 1) feZero rfl ((HW1.out.2.full feZero.cs rfl))) rfl ?_
            exact NewPost.bad HBAD.out (below_zeros HW1.out.1)
          · have e4 : decide (last < n) = false := decide_eq_false g4
            have HGOOD := Lib.hid (show NewOk l0 n from ⟨HM.out, by omega, by omega, fun _ => by rw [HL0.out]; dsimp only; omega⟩)
            have HSL := Lib.hid (HLN1.out)
            have HMW := Lib.hid (HMA1.out)
            clear HLN HMA
            go_wp2_with fail
            refine Calls.mono (HST.out _ (HB1.out.alloc HB1.out.size _)) ?_
            rintro e w2 ⟨v2, rfl, ho2, hb2⟩
            obtain ⟨a2, c2, hv2⟩ := OwnPs.form ho2 HSO.out
            subst hv2
            have hwo0 : Wo (w1.alloc (.cells (woC ⟨i, n, none, 0, [], 0, 0, tag, 0, none, 0, []⟩ now (.slice none 0 0)) 60)) w1.heap.size ⟨i, n, none, 0, [], 0, 0, tag, 0, none, 0, []⟩ now none 0 [] := ⟨BoxC.new _ _ _, ⟨HNU.out.1, RowAt.nil _, RowAt.nil _⟩, HNU.out.2, QsAt.nil _, fun b hb => (by cases hb), fun b hb => (by cases hb), fun b hb => (by cases hb)⟩
            have hwo := hwo0.below hb2
            have hlo := (fun b hb => (OwnRow.ab ho2 b hb).1 : ∀ b, ab a2 = some b → _ ≤ b)
            have hsz := World.size_alloc w1 (.cells (woC ⟨i, n, none, 0, [], 0, 0, tag, 0, none, 0, []⟩ now (.slice none 0 0)) 60)
            have HBG := Lib.hid (begin_any hwo (OwnPs.at ho2 HSO.out) (fun b hb => by have h3 : w1.heap.size + 1 ≤ b := (by rw [← hsz]; exact hlo b hb); omega) (by have := HSL.out; have := HMW.out; omega) (by have := HSL.out; have := HMW.out; omega))
            have HW2 := Lib.hid (And.intro (show Below w1.heap.size w1 w2 from (Go.Joins.below_alloc1 w1 _).trans (hb2.mono (by rw [World.size_alloc]; omega))) (show ∀ b, ab a2 = some b → w1.heap.size + 1 ≤ b from fun b hb => by rw [← hsz]; exact hlo b hb))
            have HGL := Lib.hid (show w1.heap.size < w2.heap.size from hwo.box.lt)
            clear hwo0 hwo hlo hsz ho2 hb2
            go_wp2_with fail
            refine HBG.out.mono ?_
            rintro e w3 ⟨⟨v, rfl⟩, y3, ra, rc, hm3, hw3, hc3, hk3⟩
            have HSW := Lib.hid (show w.heap.size + 1 + 1 ≤ w1.heap.size by have := HW1.out.2.lt; omega)
            have hR3 : BoxC w3 (w.heap.size + 1) 32 zero32 := Chg.heap hc3 (HW1.out.2.below HW2.out.1) (by have := HSW.out; omega)
            have hB2 : Below w.heap.size w w2 := HW1.out.1.trans (HW2.out.1.mono HW1.out.1.size)
            have hB3 : Below w.heap.size w w3 := hB2.trans (hc3.below (B := w.heap.size) hB2.size (fun k hk => by have := HSW.out; omega))
            have hlo : ∀ b, y3.blk b ∨ ab ra = some b → b ≠ w.heap.size + 1 ∧ w.heap.size ≤ b := fun b hb => by
              have := HSW.out
              rcases hk3 b hb with (h5 | h5) | h5
              · have := HW2.out.2 b h5; omega
              · cases h5
              · have := HGL.out; omega
            have HE := Lib.hid (FetEnd.mk hw3 hR3 HSW.out hB3 (fun b hb => (hlo b (.inl (.inl hb))).1) (fun b hb => (hlo b (.inl (.inr hb))).1) (fun b hb => (hlo b (.inr hb)).1))
            obtain ⟨r0, r1, r2, r3, r4, r5, r6, r7⟩ := t8 hR3
            have f0 := hR3.fz
            have HF := Lib.hid HE.out.fin
            have HM3 := Lib.hid hm3
            have HRA := Lib.hid (fun b hb => (hlo b hb).2)
            clear hm3 hw3 hc3 hk3 hR3 hB3 hB2 hlo
            go_wp2_with fail
            have HS0 := Lib.hid (ResS.of HE.out.drew.wo.box)
            have HF2 := Lib.hid HE.out.fin2
            unfold put8 at HF HF2
            refine wp_region_held_drew (S := ResS w1.heap.size y3 (.slice ra (newM l0 n tag now).2.length rc)) (by kernel_rfl) HS0.out (fun hHeld => ?_)
            refine wpAnyH_take (i := 0) (oi := _) (v := ?v1) rfl (by kernel_rfl) (by kernel_rfl) (by kernel_rfl) (fun _ _ _ h => h) (Or.inl ⟨by rfl, ?h1⟩) hHeld ?r1
            case h1 => (intro w hSw; (try unfold ResS at hSw); (try dsimp only at hSw); go_simp; try with_reducible rfl)
            try simp only [List.getElem_toArray, List.getElem_cons_succ, List.getElem_cons_zero, Act.put, List.setIfInBounds_toArray, List.set_cons_zero, List.set_cons_succ]
            refine wpAnyH_take (i := 1) (oi := _) (v := ?v2) rfl (by kernel_rfl) (by kernel_rfl) (by kernel_rfl) (fun _ _ _ h => h) (Or.inl ⟨by rfl, ?h2⟩) hHeld ?r2
            case h2 => (intro w hSw; (try unfold ResS at hSw); (try dsimp only at hSw); go_simp; try with_reducible rfl)
            try simp only [List.getElem_toArray, List.getElem_cons_succ, List.getElem_cons_zero, Act.put, List.setIfInBounds_toArray, List.set_cons_zero, List.set_cons_succ]
            refine wpAnyH_take (i := 2) (oi := _) (v := ?v3) rfl (by kernel_rfl) (by kernel_rfl) (by kernel_rfl) (fun _ _ _ h => h) (Or.inl ⟨by rfl, ?h3⟩) hHeld ?r3
            case h3 => (intro w hSw; (try unfold ResS at hSw); (try dsimp only at hSw); go_simp; try with_reducible rfl)
            try simp only [List.getElem_toArray, List.getElem_cons_succ, List.getElem_cons_zero, Act.put, List.setIfInBounds_toArray, List.set_cons_zero, List.set_cons_succ]
            refine wpAnyH_take (i := 3) (oi := _) (v := ?v4) rfl (by kernel_rfl) (by kernel_rfl) (by kernel_rfl) (fun _ _ _ h => h) (Or.inl ⟨by rfl, ?h4⟩) hHeld ?r4
            case h4 => (intro w hSw; (try unfold ResS at hSw); (try dsimp only at hSw); go_simp; try with_reducible rfl)
            try simp only [List.getElem_toArray, List.getElem_cons_succ, List.getElem_cons_zero, Act.put, List.setIfInBounds_toArray, List.set_cons_zero, List.set_cons_succ]
            refine wpAnyH_ready (rs := [4]) (by kernel_rfl) (by simp) ?_
            refine AllReadyH.cons rfl (fun K hK => ?_) ?_
            · go_simp
              refine hK.out _ _ ?_ (fun hHeld => ?_)
              · exact HF2.out
              clear hK K
              refine wpAnyH_take (i := 5) (oi := _) (v := ?v5) rfl (by kernel_rfl) (by kernel_rfl) (by kernel_rfl) (fun _ _ _ h => h) (Or.inl ⟨by rfl, ?h5⟩) hHeld ?r5
              case h5 => (intro w hSw; (try unfold ResS at hSw); (try dsimp only at hSw); go_simp; try with_reducible rfl)
              try simp only [List.getElem_toArray, List.getElem_cons_succ, List.getElem_cons_zero, Act.put, List.setIfInBounds_toArray, List.set_cons_zero, List.set_cons_succ]
              refine wpAnyH_take (i := 6) (oi := _) (v := ?v6) rfl (by kernel_rfl) (by kernel_rfl) (by kernel_rfl) (fun _ _ _ h => h) (Or.inl ⟨by rfl, ?h6⟩) hHeld ?r6
              case h6 => (intro w hSw; (try unfold ResS at hSw); (try dsimp only at hSw); go_simp; try with_reducible rfl)
              try simp only [List.getElem_toArray, List.getElem_cons_succ, List.getElem_cons_zero, Act.put, List.setIfInBounds_toArray, List.set_cons_zero, List.set_cons_succ]
              refine wpAnyH_done (by kernel_rfl) ?_ _
              go_wp2
              refine bodyPost_ret (results_f3 rfl _ _ (w.heap.size + 1) y3 rfl HF.out.1) rfl ?_
              exact NewPost.good HGOOD.out (by rw [HL0.out]; exact HM3.out) HF.out.2.1 (by rw [HL0.out]; exact HF.out.2.2.1) HF.out.2.2.2 HRA.out
            exact AllReadyH.nil
        · have e3 : (cl == 1) = false := by simpa using g3
          have e3' : decide (cl = 1) = false := decide_eq_false g3
          have HGOOD := Lib.hid (show NewOk l0 n from ⟨HM.out, by omega, by omega, fun hh => absurd (by rw [HL0.out] at hh; exact hh) g3⟩)
          have HSL := Lib.hid (HLN1.out)
          have HMW := Lib.hid (HMA1.out)
          clear HLN HMA g3
          go_wp2_with fail
          refine Calls.mono (HST.out _ (HB1.out.alloc HB1.out.size _)) ?_
          rintro e w2 ⟨v2, rfl, ho2, hb2⟩
          obtain ⟨a2, c2, hv2⟩ := OwnPs.form ho2 HSO.out
          subst hv2
          have hwo0 : Wo (w1.alloc (.cells (woC ⟨i, n, none, 0, [], 0, 0, tag, 0, none, 0, []⟩ now (.slice none 0 0)) 60)) w1.heap.size ⟨i, n, none, 0, [], 0, 0, tag, 0, none, 0, []⟩ now none 0 [] := ⟨BoxC.new _ _ _, ⟨HNU.out.1, RowAt.nil _, RowAt.nil _⟩, HNU.out.2, QsAt.nil _, fun b hb => (by cases hb), fun b hb => (by cases hb), fun b hb => (by cases hb)⟩
          have hwo := hwo0.below hb2
          have hlo := (fun b hb => (OwnRow.ab ho2 b hb).1 : ∀ b, ab a2 = some b → _ ≤ b)
          have hsz := World.size_alloc w1 (.cells (woC ⟨i, n, none, 0, [], 0, 0, tag, 0, none, 0, []⟩ now (.slice none 0 0)) 60)
          have HBG := Lib.hid (begin_any hwo (OwnPs.at ho2 HSO.out) (fun b hb => by have h3 : w1.heap.size + 1 ≤ b := (by rw [← hsz]; exact hlo b hb); omega) (by have := HSL.out; have := HMW.out; omega) (by have := HSL.out; have := HMW.out; omega))
          have HW2 := Lib.hid (And.intro (show Below w1.heap.size w1 w2 from (Go.Joins.below_alloc1 w1 _).trans (hb2.mono (by rw [World.size_alloc]; omega))) (show ∀ b, ab a2 = some b → w1.heap.size + 1 ≤ b from fun b hb => by rw [← hsz]; exact hlo b hb))
          have HGL := Lib.hid (show w1.heap.size < w2.heap.size from hwo.box.lt)
          clear hwo0 hwo hlo hsz ho2 hb2
          go_wp2_with fail
          refine HBG.out.mono ?_
          rintro e w3 ⟨⟨v, rfl⟩, y3, ra, rc, hm3, hw3, hc3, hk3⟩
          have HSW := Lib.hid (show w.heap.size + 1 + 1 ≤ w1.heap.size by have := HW1.out.2.lt; omega)
          have hR3 : BoxC w3 (w.heap.size + 1) 32 zero32 := Chg.heap hc3 (HW1.out.2.below HW2.out.1) (by have := HSW.out; omega)
          have hB2 : Below w.heap.size w w2 := HW1.out.1.trans (HW2.out.1.mono HW1.out.1.size)
          have hB3 : Below w.heap.size w w3 := hB2.trans (hc3.below (B := w.heap.size) hB2.size (fun k hk => by have := HSW.out; omega))
          have hlo : ∀ b, y3.blk b ∨ ab ra = some b → b ≠ w.heap.size + 1 ∧ w.heap.size ≤ b := fun b hb => by
            have := HSW.out
            rcases hk3 b hb with (h5 | h5) | h5
            · have := HW2.out.2 b h5; omega
            · cases h5
            · have := HGL.out; omega
          have HE := Lib.hid (FetEnd.mk hw3 hR3 HSW.out hB3 (fun b hb => (hlo b (.inl (.inl hb))).1) (fun b hb => (hlo b (.inl (.inr hb))).1) (fun b hb => (hlo b (.inr hb)).1))
          obtain ⟨r0, r1, r2, r3, r4, r5, r6, r7⟩ := t8 hR3
          have f0 := hR3.fz
          have HF := Lib.hid HE.out.fin
          have HM3 := Lib.hid hm3
          have HRA := Lib.hid (fun b hb => (hlo b hb).2)
          clear hm3 hw3 hc3 hk3 hR3 hB3 hB2 hlo
          go_wp2_with fail
          have HS0 := Lib.hid (ResS.of HE.out.drew.wo.box)
          have HF2 := Lib.hid HE.out.fin2
          unfold put8 at HF HF2
          refine wp_region_held_drew (S := ResS w1.heap.size y3 (.slice ra (newM l0 n tag now).2.length rc)) (by kernel_rfl) HS0.out (fun hHeld => ?_)
          refine wpAnyH_take (i := 0) (oi := _) (v := ?v7) rfl (by kernel_rfl) (by kernel_rfl) (by kernel_rfl) (fun _ _ _ h => h) (Or.inl ⟨by rfl, ?h7⟩) hHeld ?r7
          case h7 => (intro w hSw; (try unfold ResS at hSw); (try dsimp only at hSw); go_simp; try with_reducible rfl)
          try simp only [List.getElem_toArray, List.getElem_cons_succ, List.getElem_cons_zero, Act.put, List.setIfInBounds_toArray, List.set_cons_zero, List.set_cons_succ]
          refine wpAnyH_take (i := 1) (oi := _) (v := ?v8) rfl (by kernel_rfl) (by kernel_rfl) (by kernel_rfl) (fun _ _ _ h => h) (Or.inl ⟨by rfl, ?h8⟩) hHeld ?r8
          case h8 => (intro w hSw; (try unfold ResS at hSw); (try dsimp only at hSw); go_simp; try with_reducible rfl)
          try simp only [List.getElem_toArray, List.getElem_cons_succ, List.getElem_cons_zero, Act.put, List.setIfInBounds_toArray, List.set_cons_zero, List.set_cons_succ]
          refine wpAnyH_take (i := 2) (oi := _) (v := ?v9) rfl (by kernel_rfl) (by kernel_rfl) (by kernel_rfl) (fun _ _ _ h => h) (Or.inl ⟨by rfl, ?h9⟩) hHeld ?r9
          case h9 => (intro w hSw; (try unfold ResS at hSw); (try dsimp only at hSw); go_simp; try with_reducible rfl)
          try simp only [List.getElem_toArray, List.getElem_cons_succ, List.getElem_cons_zero, Act.put, List.setIfInBounds_toArray, List.set_cons_zero, List.set_cons_succ]
          refine wpAnyH_take (i := 3) (oi := _) (v := ?v10) rfl (by kernel_rfl) (by kernel_rfl) (by kernel_rfl) (fun _ _ _ h => h) (Or.inl ⟨by rfl, ?h10⟩) hHeld ?r10
          case h10 => (intro w hSw; (try unfold ResS at hSw); (try dsimp only at hSw); go_simp; try with_reducible rfl)
          try simp only [List.getElem_toArray, List.getElem_cons_succ, List.getElem_cons_zero, Act.put, List.setIfInBounds_toArray, List.set_cons_zero, List.set_cons_succ]
          refine wpAnyH_ready (rs := [4]) (by kernel_rfl) (by simp) ?_
          refine AllReadyH.cons rfl (fun K hK => ?_) ?_
          · go_simp
            refine hK.out _ _ ?_ (fun hHeld => ?_)
            · exact HF2.out
            clear hK K
            refine wpAnyH_take (i := 5) (oi := _) (v := ?v11) rfl (by kernel_rfl) (by kernel_rfl) (by kernel_rfl) (fun _ _ _ h => h) (Or.inl ⟨by rfl, ?h11⟩) hHeld ?r11
            case h11 => (intro w hSw; (try unfold ResS at hSw); (try dsimp only at hSw); go_simp; try with_reducible rfl)
            try simp only [List.getElem_toArray, List.getElem_cons_succ, List.getElem_cons_zero, Act.put, List.setIfInBounds_toArray, List.set_cons_zero, List.set_cons_succ]
            refine wpAnyH_take (i := 6) (oi := _) (v := ?v12) rfl (by kernel_rfl) (by kernel_rfl) (by kernel_rfl) (fun _ _ _ h => h) (Or.inl ⟨by rfl, ?h12⟩) hHeld ?r12
            case h12 => (intro w hSw; (try unfold ResS at hSw); (try dsimp only at hSw); go_simp; try with_reducible rfl)
            try simp only [List.getElem_toArray, List.getElem_cons_succ, List.getElem_cons_zero, Act.put, List.setIfInBounds_toArray, List.set_cons_zero, List.set_cons_succ]
            refine wpAnyH_done (by kernel_rfl) ?_ _
            go_wp2
            refine bodyPost_ret (results_f3 rfl _ _ (w.heap.size + 1) y3 rfl HF.out.1) rfl ?_
            exact NewPost.good HGOOD.out (by rw [HL0.out]; exact HM3.out) HF.out.2.1 (by rw [HL0.out]; exact HF.out.2.2.1) HF.out.2.2.2 HRA.out
          exact AllReadyH.nil
end Go.Proofs.YtpihogkhfmijcaaGreat
