/- A fetch is worked on. -/
import Derived.Test.YtpihogkhfmijcaaGreatPf
import Derived.Deep.RegionHeldLaw
namespace Go.Proofs.YtpihogkhfmijcaaGreat
open Go.RowKit Go.Maps Go.Shelf
set_option linter.unusedSimpArgs false
/-- what a call on a fetch answers -/
def FetPost (M : FeM × List RqM) (w : World) (e : Ending) (w' : World) : Prop :=
  ∃ (y : FeV) (ra : Option Addr) (rc : Nat), e = .returned (.tuple #[y.val, .slice ra M.2.length rc]) ∧ y.m = M.1 ∧ y.ok w' ∧ QsAt w' (.slice ra M.2.length rc) M.2 ∧ Below w.heap.size w w' ∧ ∀ b, y.blk b ∨ ab ra = some b → w.heap.size ≤ b
/-- where the work ends: its block, the answer's block -/
structure FetEnd (w X : World) (G : Nat) (y : FeV) (now : Int) (ra : Option Addr) (rc : Nat) (qs : List RqM) : Prop where
  wo : Wo X G y now ra rc qs
  res : BoxC X (w.heap.size + 1) 32 zero32
  lo : w.heap.size + 1 + 1 ≤ G
  bel : Below w.heap.size w X
  sr : ∀ b, ab y.sa = some b → b ≠ w.heap.size + 1
  br : ∀ b, ab y.ba = some b → b ≠ w.heap.size + 1
  rr : ∀ b, ab ra = some b → b ≠ w.heap.size + 1
theorem FetEnd.drew {w X : World} {G : Nat} {y : FeV} {now : Int} {ra : Option Addr} {rc : Nat} {qs : List RqM} (h : FetEnd w X G y now ra rc qs) : FetEnd w X.drew G y now ra rc qs :=
  ⟨h.wo.below (Below.drew (Below.refl _ _)), h.res, h.lo, Below.drew h.bel, h.sr, h.br, h.rr⟩
/-- the answer's block, written -/
def put8 (X : World) (R : Nat) (y : FeV) : World := (((((((((X.setCell ⟨R, 0, none⟩ (.int .u64 y.id)).setCell ⟨R, 1, none⟩ (.int .u64 y.n)).setCell ⟨R, 2, none⟩ (.slice y.sa y.set.length y.sc)).setCell ⟨R, 3, none⟩ (.int .i64 y.at')).setCell ⟨R, 4, none⟩ (.int .u64 y.since)).setCell ⟨R, 5, none⟩ (.int .u64 y.tag)).setCell ⟨R, 6, none⟩ (.int .i64 y.done)).setCell ⟨R, 7, none⟩ (.slice y.ba y.body.length y.bc)).drew)
theorem put8_eq (X : World) (R : Nat) (y : FeV) : put8 X R y = (X.setCells R 0 y.cs).drew := by
  unfold put8 FeV.cs
  simp only [World.setCells, Nat.reduceAdd, Nat.zero_add]
theorem FetEnd.fin {w X : World} {G : Nat} {y : FeV} {now : Int} {ra : Option Addr} {rc : Nat} {qs : List RqM} (h : FetEnd w X G y now ra rc qs) :
    BoxC (put8 X (w.heap.size + 1) y) (w.heap.size + 1) 32 y.cs.toArray ∧ y.ok (put8 X (w.heap.size + 1) y) ∧ QsAt (put8 X (w.heap.size + 1) y) (.slice ra qs.length rc) qs ∧ Below w.heap.size w (put8 X (w.heap.size + 1) y) := by
  rw [put8_eq]
  have hc := Ch1.sets X (w.heap.size + 1) y.cs
  have hd : Below (X.setCells (w.heap.size + 1) 0 y.cs).heap.size (X.setCells (w.heap.size + 1) 0 y.cs) (X.setCells (w.heap.size + 1) 0 y.cs).drew := Below.drew (Below.refl _ _)
  exact ⟨(h.res.full y.cs rfl).below hd, (h.wo.ok.ch1 h.sr h.br hc).below hd, QsAt.below (QsAt.ch1 h.wo.rq h.rr hc) hd, Below.drew (Below.sets (by omega) _ h.bel)⟩
/-- what the answer's making reads -/
def ResS (G : Nat) (y : FeV) (q : Value) (X : World) : Prop := (X.cell? ⟨G, 0, none⟩ = some (.int .u64 y.id) ∧ X.cell? ⟨G, 1, none⟩ = some (.int .u64 y.n) ∧ X.cell? ⟨G, 2, none⟩ = some (.slice y.sa y.set.length y.sc) ∧ X.cell? ⟨G, 3, none⟩ = some (.int .i64 y.at') ∧ X.cell? ⟨G, 4, none⟩ = some (.int .u64 y.since) ∧ X.cell? ⟨G, 5, none⟩ = some (.int .u64 y.tag) ∧ X.cell? ⟨G, 6, none⟩ = some (.int .i64 y.done) ∧ X.cell? ⟨G, 7, none⟩ = some (.slice y.ba y.body.length y.bc)) ∧ X.cell? ⟨G, 9, none⟩ = some q
theorem ResS.of {X : World} {G : Nat} {y : FeV} {now : Int} {q : Value} (h : BoxC X G 60 (woC y now q)) : ResS G y q X := ⟨⟨h.cell 0, h.cell 1, h.cell 2, h.cell 3, h.cell 4, h.cell 5, h.cell 6, h.cell 7⟩, h.cell 9⟩
theorem FetEnd.fin2 {w X : World} {G : Nat} {y : FeV} {now : Int} {ra : Option Addr} {rc : Nat} {qs : List RqM} (h : FetEnd w X G y now ra rc qs) : ResS G y (.slice ra qs.length rc) (put8 X (w.heap.size + 1) y) := by
  rw [put8_eq]
  have hb : BoxC (X.setCells (w.heap.size + 1) 0 y.cs) G 60 (woC y now (.slice ra qs.length rc)) := (setCells_other (w.heap.size + 1) y.cs 0 X G (by have := h.lo; omega)).trans h.wo.box
  have hd : Below (X.setCells (w.heap.size + 1) 0 y.cs).heap.size (X.setCells (w.heap.size + 1) 0 y.cs) (X.setCells (w.heap.size + 1) 0 y.cs).drew := Below.drew (Below.refl _ _)
  exact ResS.of (hb.below hd)
set_option maxRecDepth 100000 in
set_option maxHeartbeats 4000000 in
theorem worked0_any {f : Nat} (hen : ∀ args w, (callFunc f args).run Tryz.prog w = .ok (.enter f args) w) (m : FeV) (now : Int) (hnow : u64ok now) (w : World) (h : m.ok w) (h1 : m.set.length ≤ 100000) (h2 : m.body.length ≤ 100000) {M : FeM × List RqM}
    (hd : m.done ≠ 1 → ∀ Z G y, Wo Z G y now none 0 [] → Below w.heap.size w Z → y.m = m.m → Calls Tryz.prog f #[pg G] Z fun e w' => WoPost G now y M.1 M.2 Z e w') (hM : m.done = 1 → M = (m.m, [])) :
    Calls Tryz.prog 29 #[m.val, .int .u64 now, .func (.func f) #[] #[]] w fun e w' => FetPost M w e w' := by
  obtain ⟨W, hW⟩ : ∃ W, W = (w.alloc (.cells m.cs.toArray 32)).alloc (.cells zero32 32) := ⟨_, rfl⟩
  have hbel : Below w.heap.size w W := by rw [hW]; exact Go.Joins.below_alloc2 w _ _
  have hsz : W.heap.size = w.heap.size + 1 + 1 := by rw [hW]; simp only [World.size_alloc]
  have hB : BoxC W w.heap.size 32 m.cs.toArray := by rw [hW]; exact (BoxC.new _ _ _).alloc _
  have hR : BoxC W (w.heap.size + 1) 32 zero32 := by
    rw [hW]
    have := BoxC.new (w.alloc (.cells m.cs.toArray 32)) 32 zero32
    rwa [World.size_alloc] at this
  have HOWN := Lib.hid (own_any m W (h.below hbel) h1 h2)
  have HW := Lib.hid (And.intro hbel (And.intro hsz (And.intro hB hR)))
  have HD := Lib.hid (And.intro hd hM)
  have HN := Lib.hid hnow
  obtain ⟨c0, c1, c2, c3, c4, c5, c6, c7⟩ := FeV.c8 hB
  clear hbel hsz hB hR h1 h2 h hd hM hnow
  simp only [FeV.cs, zero32] at hW
  go_enter Tryz.func29, Tryz.ntmps29
  go_wp2_with fail
  rw [← hW]
  clear hW
  go_wp2_with fail
  refine HOWN.out.mono ?_
  rintro e w1 ⟨y, rfl, hy⟩
  have HY := Lib.hid hy
  have hZ : Wo (w1.alloc (.cells (woC y now (.slice none 0 0)) 60)) w1.heap.size y now none 0 [] := by
    have hb := Go.Joins.below_alloc1 w1 (.cells (woC y now (.slice none 0 0)) 60)
    refine ⟨BoxC.new _ _ _, hy.ok.below hb, HN.out, QsAt.nil _, fun b hb => ?_, fun b hb => ?_, fun b hb => by cases hb⟩
    · have := hy.old.1 b hb
      omega
    · have := hy.old.2 b hb
      omega
  have HB1 := Lib.hid ((HW.out.1.trans (hy.bel.mono HW.out.1.size)).alloc (HW.out.1.trans (hy.bel.mono HW.out.1.size)).size (.cells (woC y now (.slice none 0 0)) 60))
  have HR1 := Lib.hid ((HW.out.2.2.2.below hy.bel).alloc (.cells (woC y now (.slice none 0 0)) 60))
  have HG := Lib.hid (show w.heap.size + 1 + 1 ≤ w1.heap.size by have := hy.bel.size; have := HW.out.2.1; omega)
  have HZ := Lib.hid hZ
  unfold woC at hZ HB1 HR1 HZ
  obtain ⟨d0, d1, d2, d3, d4, d5, d6, d7, d8, d9⟩ := hZ.cells
  have HBK := Lib.hid (show ∀ b, y.blk b → w.heap.size + 1 + 1 ≤ b from fun b hb => by
    have := HW.out.2.1
    rcases hb with hb | hb
    · have := hy.sn b hb; omega
    · have := hy.bn b hb; omega)
  have hmm : y.done = m.done := congrArg FeM.done hy.m
  clear hy hZ c0 c1 c2 c3 c4 c5 c6 c7 HOWN d0 d1 d2 d3 d4 d5 d7 d8 d9
  by_cases hdone : m.done = 1
  · have dk : (y.done == 1) = true := by rw [hmm, hdone]; rfl
    have dk2 : decide (y.done = 1) = true := by rw [hmm, hdone]; rfl
    have dk3 : (y.done != 1) = false := by rw [hmm, hdone]; rfl
    have HM := Lib.hid (HD.out.2 hdone)
    have HE := Lib.hid (FetEnd.mk HZ.out HR1.out HG.out HB1.out (fun b hb => by have := HBK.out b (.inl hb); omega) (fun b hb => by have := HBK.out b (.inr hb); omega) (fun b hb => by cases hb))
    clear hdone hmm HD
    obtain ⟨q0, q1, q2, q3, q4, q5, q6, q7, -, q9⟩ := HZ.out.cells
    obtain ⟨r0, r1, r2, r3, r4, r5, r6, r7⟩ := t8 HR1.out
    have f0 := HR1.out.fz
    have HF := Lib.hid HE.out.fin
    clear d6
    go_wp2_with fail
    clear q0 q1 q2 q3 q4 q5 q6 q7 q9
    have HS0 := Lib.hid (ResS.of HE.out.drew.wo.box)
    have HF2 := Lib.hid HE.out.fin2
    unfold put8 at HF HF2
    refine wp_region_held_drew (S := ResS w1.heap.size y (.slice none 0 0)) (by kernel_rfl) HS0.out (fun hHeld => ?_)
    refine wpAnyH_take (i := 0) (oi := _) (v := ?v1) rfl (by kernel_rfl) (by kernel_rfl) (by kernel_rfl) (fun _ _ _ h => h) (Or.inl ⟨by rfl, ?h1⟩) hHeld ?r1
    case h1 => (intro w hSw; (try unfold ResS at hSw); (try dsimp only at hSw); go_simp; try with_reducible rfl)
    try simp only [List.getElem_toArray, List.getElem_cons_succ, List.getElem_cons_zero, Act.put, List.setIfInBounds_toArray, List.set_cons_zero, List.set_cons_succ]
    refine wpAnyH_take (i := 1) (oi := _) (v := ?v2) rfl (by kernel_rfl) (by kernel_rfl) (by kernel_rfl) (fun _ _ _ h => h) (Or.inl ⟨by rfl, ?h2⟩) hHeld ?r2
    case h2 => (intro w hSw; (try unfold ResS at hSw); (try dsimp only at hSw); go_simp; try with_reducible rfl)
    try simp only [List.getElem_toArray, List.getElem_cons_succ, List.getElem_cons_zero, Act.put, List.setIfInBounds_toArray, List.set_cons_zero, List.set_cons_succ]
    refine wpAnyH_take (i := 2) (oi := _) (v := ?v3) rfl (by kernel_rfl) (by kernel_rfl) (by kernel_rfl) (fun _ _ _ h => h) (Or.inl ⟨by rfl, ?h3⟩) hHeld ?r3
    case h3 => (intro w hSw; (try unfold ResS at hSw); (try dsimp only at hSw); go_simp; try with_reducible rfl)
    try simp only [List.getElem_toArray, List.getElem_cons_succ, List.getElem_cons_zero, Act.put, List.setIfInBounds_toArray, List.set_cons_zero, List.set_cons_succ]
    refine wpAnyH_take (i := 3) (oi := _) (v := ?v4) rfl (by kernel_rfl) (by kernel_rfl) (by kernel_rfl) (fun _ _ _ h => h) (Or.inl ⟨by rfl, ?h4⟩) hHeld ?r4
    case h4 => (intro w hSw; (try unfold ResS at hSw); (try dsimp only at hSw); go_simp; try with_reducible rfl)
    try simp only [List.getElem_toArray, List.getElem_cons_succ, List.getElem_cons_zero, Act.put, List.setIfInBounds_toArray, List.set_cons_zero, List.set_cons_succ]
    refine wpAnyH_ready (rs := [4]) (by kernel_rfl) (by simp) ?_
    refine AllReadyH.cons rfl (fun K hK => ?_) ?_
    · go_simp
      refine hK.out _ _ ?_ (fun hHeld => ?_)
      · exact HF2.out
      clear hK K
      refine wpAnyH_take (i := 5) (oi := _) (v := ?v5) rfl (by kernel_rfl) (by kernel_rfl) (by kernel_rfl) (fun _ _ _ h => h) (Or.inl ⟨by rfl, ?h5⟩) hHeld ?r5
      case h5 => (intro w hSw; (try unfold ResS at hSw); (try dsimp only at hSw); go_simp; try with_reducible rfl)
      try simp only [List.getElem_toArray, List.getElem_cons_succ, List.getElem_cons_zero, Act.put, List.setIfInBounds_toArray, List.set_cons_zero, List.set_cons_succ]
      refine wpAnyH_done (by kernel_rfl) ?_ _
      go_wp2
      refine bodyPost_ret (results_f2 rfl _ _ (w.heap.size + 1) y rfl HF.out.1) rfl ?_
      rw [HM.out]
      exact ⟨y, none, 0, rfl, HY.out.m, HF.out.2.1, HF.out.2.2.1, HF.out.2.2.2, fun b hb => by
        rcases hb with hb | hb
        · have := HBK.out b hb; omega
        · cases hb⟩
    exact AllReadyH.nil
  · have dk : (y.done == 1) = false := by rw [hmm]; simpa using hdone
    have dk2 : decide (y.done = 1) = false := by rw [hmm]; exact decide_eq_false hdone
    have dk3 : (y.done != 1) = true := by rw [hmm]; simpa using hdone
    have HDO := Lib.hid (HD.out.1 hdone _ _ y HZ.out HB1.out HY.out.m)
    clear hdone hmm HD
    go_wp2_with fail
    refine HDO.out.mono ?_
    rintro e w3 ⟨⟨v, rfl⟩, y3, ra, rc, hm3, hw3, hc3, hk3⟩
    have hR3 : BoxC w3 (w.heap.size + 1) 32 zero32 := Chg.heap hc3 HR1.out (by have := HG.out; omega)
    have hB3 : Below w.heap.size w w3 := HB1.out.trans (hc3.below (B := w.heap.size) HB1.out.size (fun k hk => by have := HG.out; omega))
    have hlo : ∀ b, y3.blk b ∨ ab ra = some b → b ≠ w.heap.size + 1 := fun b hb => by
      rcases hk3 b hb with h5 | h5
      · have := HBK.out b h5; omega
      · have := HG.out; rw [World.size_alloc] at h5; omega
    have HE := Lib.hid (FetEnd.mk hw3 hR3 HG.out hB3 (fun b hb => hlo b (.inl (.inl hb))) (fun b hb => hlo b (.inl (.inr hb))) (fun b hb => hlo b (.inr hb)))
    obtain ⟨q0, q1, q2, q3, q4, q5, q6, q7, -, q9⟩ := hw3.cells
    obtain ⟨r0, r1, r2, r3, r4, r5, r6, r7⟩ := t8 hR3
    have f0 := hR3.fz
    have HF := Lib.hid HE.out.fin
    have HM3 := Lib.hid hm3
    have HLO := Lib.hid (show ∀ b, y3.blk b ∨ ab ra = some b → w.heap.size ≤ b from fun b hb => by
      rcases hk3 b hb with h5 | h5
      · have := HBK.out b h5; omega
      · have := HG.out; rw [World.size_alloc] at h5; omega)
    clear d6 dk dk2 dk3 hm3 hw3 hc3 hk3 hR3 hB3 hlo HDO
    go_wp2_with fail
    clear q0 q1 q2 q3 q4 q5 q6 q7 q9
    have HS0 := Lib.hid (ResS.of HE.out.drew.wo.box)
    have HF2 := Lib.hid HE.out.fin2
    unfold put8 at HF HF2
    refine wp_region_held_drew (S := ResS w1.heap.size y3 (.slice ra M.2.length rc)) (by kernel_rfl) HS0.out (fun hHeld => ?_)
    refine wpAnyH_take (i := 0) (oi := _) (v := ?v6) rfl (by kernel_rfl) (by kernel_rfl) (by kernel_rfl) (fun _ _ _ h => h) (Or.inl ⟨by rfl, ?h6⟩) hHeld ?r6
    case h6 => (intro w hSw; (try unfold ResS at hSw); (try dsimp only at hSw); go_simp; try with_reducible rfl)
    try simp only [List.getElem_toArray, List.getElem_cons_succ, List.getElem_cons_zero, Act.put, List.setIfInBounds_toArray, List.set_cons_zero, List.set_cons_succ]
    refine wpAnyH_take (i := 1) (oi := _) (v := ?v7) rfl (by kernel_rfl) (by kernel_rfl) (by kernel_rfl) (fun _ _ _ h => h) (Or.inl ⟨by rfl, ?h7⟩) hHeld ?r7
    case h7 => (intro w hSw; (try unfold ResS at hSw); (try dsimp only at hSw); go_simp; try with_reducible rfl)
    try simp only [List.getElem_toArray, List.getElem_cons_succ, List.getElem_cons_zero, Act.put, List.setIfInBounds_toArray, List.set_cons_zero, List.set_cons_succ]
    refine wpAnyH_take (i := 2) (oi := _) (v := ?v8) rfl (by kernel_rfl) (by kernel_rfl) (by kernel_rfl) (fun _ _ _ h => h) (Or.inl ⟨by rfl, ?h8⟩) hHeld ?r8
    case h8 => (intro w hSw; (try unfold ResS at hSw); (try dsimp only at hSw); go_simp; try with_reducible rfl)
    try simp only [List.getElem_toArray, List.getElem_cons_succ, List.getElem_cons_zero, Act.put, List.setIfInBounds_toArray, List.set_cons_zero, List.set_cons_succ]
    refine wpAnyH_take (i := 3) (oi := _) (v := ?v9) rfl (by kernel_rfl) (by kernel_rfl) (by kernel_rfl) (fun _ _ _ h => h) (Or.inl ⟨by rfl, ?h9⟩) hHeld ?r9
    case h9 => (intro w hSw; (try unfold ResS at hSw); (try dsimp only at hSw); go_simp; try with_reducible rfl)
    try simp only [List.getElem_toArray, List.getElem_cons_succ, List.getElem_cons_zero, Act.put, List.setIfInBounds_toArray, List.set_cons_zero, List.set_cons_succ]
    refine wpAnyH_ready (rs := [4]) (by kernel_rfl) (by simp) ?_
    refine AllReadyH.cons rfl (fun K hK => ?_) ?_
    · go_simp
      refine hK.out _ _ ?_ (fun hHeld => ?_)
      · exact HF2.out
      clear hK K
      refine wpAnyH_take (i := 5) (oi := _) (v := ?v10) rfl (by kernel_rfl) (by kernel_rfl) (by kernel_rfl) (fun _ _ _ h => h) (Or.inl ⟨by rfl, ?h10⟩) hHeld ?r10
      case h10 => (intro w hSw; (try unfold ResS at hSw); (try dsimp only at hSw); go_simp; try with_reducible rfl)
      try simp only [List.getElem_toArray, List.getElem_cons_succ, List.getElem_cons_zero, Act.put, List.setIfInBounds_toArray, List.set_cons_zero, List.set_cons_succ]
      refine wpAnyH_done (by kernel_rfl) ?_ _
      go_wp2
      refine bodyPost_ret (results_f2 rfl _ _ (w.heap.size + 1) y3 rfl HF.out.1) rfl ?_
      exact ⟨y3, ra, rc, rfl, HM3.out, HF.out.2.1, HF.out.2.2.1, HF.out.2.2.2, HLO.out⟩
    exact AllReadyH.nil
set_option maxRecDepth 100000 in
set_option maxHeartbeats 4000000 in
theorem worked1_any {f : Nat} {c : Value} (hen : ∀ args w, (callFunc f args).run Tryz.prog w = .ok (.enter f args) w) (m : FeV) (now : Int) (hnow : u64ok now) (w : World) (h : m.ok w) (h1 : m.set.length ≤ 100000) (h2 : m.body.length ≤ 100000) {M : FeM × List RqM}
    (hd : m.done ≠ 1 → ∀ Z G y, Wo Z G y now none 0 [] → Below w.heap.size w Z → y.m = m.m → Calls Tryz.prog f #[pg G, c] Z fun e w' => WoPost G now y M.1 M.2 Z e w') (hM : m.done = 1 → M = (m.m, [])) :
    Calls Tryz.prog 29 #[m.val, .int .u64 now, .func (.func f) #[] #[c]] w fun e w' => FetPost M w e w' := by
  obtain ⟨W, hW⟩ : ∃ W, W = (w.alloc (.cells m.cs.toArray 32)).alloc (.cells zero32 32) := ⟨_, rfl⟩
  have hbel : Below w.heap.size w W := by rw [hW]; exact Go.Joins.below_alloc2 w _ _
  have hsz : W.heap.size = w.heap.size + 1 + 1 := by rw [hW]; simp only [World.size_alloc]
  have hB : BoxC W w.heap.size 32 m.cs.toArray := by rw [hW]; exact (BoxC.new _ _ _).alloc _
  have hR : BoxC W (w.heap.size + 1) 32 zero32 := by
    rw [hW]
    have := BoxC.new (w.alloc (.cells m.cs.toArray 32)) 32 zero32
    rwa [World.size_alloc] at this
  have HOWN := Lib.hid (own_any m W (h.below hbel) h1 h2)
  have HW := Lib.hid (And.intro hbel (And.intro hsz (And.intro hB hR)))
  have HD := Lib.hid (And.intro hd hM)
  have HN := Lib.hid hnow
  obtain ⟨c0, c1, c2, c3, c4, c5, c6, c7⟩ := FeV.c8 hB
  clear hbel hsz hB hR h1 h2 h hd hM hnow
  simp only [FeV.cs, zero32] at hW
  go_enter Tryz.func29, Tryz.ntmps29
  go_wp2_with fail
  rw [← hW]
  clear hW
  go_wp2_with fail
  refine HOWN.out.mono ?_
  rintro e w1 ⟨y, rfl, hy⟩
  have HY := Lib.hid hy
  have hZ : Wo (w1.alloc (.cells (woC y now (.slice none 0 0)) 60)) w1.heap.size y now none 0 [] := by
    have hb := Go.Joins.below_alloc1 w1 (.cells (woC y now (.slice none 0 0)) 60)
    refine ⟨BoxC.new _ _ _, hy.ok.below hb, HN.out, QsAt.nil _, fun b hb => ?_, fun b hb => ?_, fun b hb => by cases hb⟩
    · have := hy.old.1 b hb
      omega
    · have := hy.old.2 b hb
      omega
  have HB1 := Lib.hid ((HW.out.1.trans (hy.bel.mono HW.out.1.size)).alloc (HW.out.1.trans (hy.bel.mono HW.out.1.size)).size (.cells (woC y now (.slice none 0 0)) 60))
  have HR1 := Lib.hid ((HW.out.2.2.2.below hy.bel).alloc (.cells (woC y now (.slice none 0 0)) 60))
  have HG := Lib.hid (show w.heap.size + 1 + 1 ≤ w1.heap.size by have := hy.bel.size; have := HW.out.2.1; omega)
  have HZ := Lib.hid hZ
  unfold woC at hZ HB1 HR1 HZ
  obtain ⟨d0, d1, d2, d3, d4, d5, d6, d7, d8, d9⟩ := hZ.cells
  have HBK := Lib.hid (show ∀ b, y.blk b → w.heap.size + 1 + 1 ≤ b from fun b hb => by
    have := HW.out.2.1
    rcases hb with hb | hb
    · have := hy.sn b hb; omega
    · have := hy.bn b hb; omega)
  have hmm : y.done = m.done := congrArg FeM.done hy.m
  clear hy hZ c0 c1 c2 c3 c4 c5 c6 c7 HOWN d0 d1 d2 d3 d4 d5 d7 d8 d9
  by_cases hdone : m.done = 1
  · have dk : (y.done == 1) = true := by rw [hmm, hdone]; rfl
    have dk2 : decide (y.done = 1) = true := by rw [hmm, hdone]; rfl
    have dk3 : (y.done != 1) = false := by rw [hmm, hdone]; rfl
    have HM := Lib.hid (HD.out.2 hdone)
    have HE := Lib.hid (FetEnd.mk HZ.out HR1.out HG.out HB1.out (fun b hb => by have := HBK.out b (.inl hb); omega) (fun b hb => by have := HBK.out b (.inr hb); omega) (fun b hb => by cases hb))
    clear hdone hmm HD
    obtain ⟨q0, q1, q2, q3, q4, q5, q6, q7, -, q9⟩ := HZ.out.cells
    obtain ⟨r0, r1, r2, r3, r4, r5, r6, r7⟩ := t8 HR1.out
    have f0 := HR1.out.fz
    have HF := Lib.hid HE.out.fin
    clear d6
    go_wp2_with fail
    clear q0 q1 q2 q3 q4 q5 q6 q7 q9
    have HS0 := Lib.hid (ResS.of HE.out.drew.wo.box)
    have HF2 := Lib.hid HE.out.fin2
    unfold put8 at HF HF2
    refine wp_region_held_drew (S := ResS w1.heap.size y (.slice none 0 0)) (by kernel_rfl) HS0.out (fun hHeld => ?_)
    refine wpAnyH_take (i := 0) (oi := _) (v := ?v11) rfl (by kernel_rfl) (by kernel_rfl) (by kernel_rfl) (fun _ _ _ h => h) (Or.inl ⟨by rfl, ?h11⟩) hHeld ?r11
    case h11 => (intro w hSw; (try unfold ResS at hSw); (try dsimp only at hSw); go_simp; try with_reducible rfl)
    try simp only [List.getElem_toArray, List.getElem_cons_succ, List.getElem_cons_zero, Act.put, List.setIfInBounds_toArray, List.set_cons_zero, List.set_cons_succ]
    refine wpAnyH_take (i := 1) (oi := _) (v := ?v12) rfl (by kernel_rfl) (by kernel_rfl) (by kernel_rfl) (fun _ _ _ h => h) (Or.inl ⟨by rfl, ?h12⟩) hHeld ?r12
    case h12 => (intro w hSw; (try unfold ResS at hSw); (try dsimp only at hSw); go_simp; try with_reducible rfl)
    try simp only [List.getElem_toArray, List.getElem_cons_succ, List.getElem_cons_zero, Act.put, List.setIfInBounds_toArray, List.set_cons_zero, List.set_cons_succ]
    refine wpAnyH_take (i := 2) (oi := _) (v := ?v13) rfl (by kernel_rfl) (by kernel_rfl) (by kernel_rfl) (fun _ _ _ h => h) (Or.inl ⟨by rfl, ?h13⟩) hHeld ?r13
    case h13 => (intro w hSw; (try unfold ResS at hSw); (try dsimp only at hSw); go_simp; try with_reducible rfl)
    try simp only [List.getElem_toArray, List.getElem_cons_succ, List.getElem_cons_zero, Act.put, List.setIfInBounds_toArray, List.set_cons_zero, List.set_cons_succ]
    refine wpAnyH_take (i := 3) (oi := _) (v := ?v14) rfl (by kernel_rfl) (by kernel_rfl) (by kernel_rfl) (fun _ _ _ h => h) (Or.inl ⟨by rfl, ?h14⟩) hHeld ?r14
    case h14 => (intro w hSw; (try unfold ResS at hSw); (try dsimp only at hSw); go_simp; try with_reducible rfl)
    try simp only [List.getElem_toArray, List.getElem_cons_succ, List.getElem_cons_zero, Act.put, List.setIfInBounds_toArray, List.set_cons_zero, List.set_cons_succ]
    refine wpAnyH_ready (rs := [4]) (by kernel_rfl) (by simp) ?_
    refine AllReadyH.cons rfl (fun K hK => ?_) ?_
    · go_simp
      refine hK.out _ _ ?_ (fun hHeld => ?_)
      · exact HF2.out
      clear hK K
      refine wpAnyH_take (i := 5) (oi := _) (v := ?v15) rfl (by kernel_rfl) (by kernel_rfl) (by kernel_rfl) (fun _ _ _ h => h) (Or.inl ⟨by rfl, ?h15⟩) hHeld ?r15
      case h15 => (intro w hSw; (try unfold ResS at hSw); (try dsimp only at hSw); go_simp; try with_reducible rfl)
      try simp only [List.getElem_toArray, List.getElem_cons_succ, List.getElem_cons_zero, Act.put, List.setIfInBounds_toArray, List.set_cons_zero, List.set_cons_succ]
      refine wpAnyH_done (by kernel_rfl) ?_ _
      go_wp2
      refine bodyPost_ret (results_f2 rfl _ _ (w.heap.size + 1) y rfl HF.out.1) rfl ?_
      rw [HM.out]
      exact ⟨y, none, 0, rfl, HY.out.m, HF.out.2.1, HF.out.2.2.1, HF.out.2.2.2, fun b hb => by
        rcases hb with hb | hb
        · have := HBK.out b hb; omega
        · cases hb⟩
    exact AllReadyH.nil
  · have dk : (y.done == 1) = false := by rw [hmm]; simpa using hdone
    have dk2 : decide (y.done = 1) = false := by rw [hmm]; exact decide_eq_false hdone
    have dk3 : (y.done != 1) = true := by rw [hmm]; simpa using hdone
    have HDO := Lib.hid (HD.out.1 hdone _ _ y HZ.out HB1.out HY.out.m)
    clear hdone hmm HD
    go_wp2_with fail
    refine HDO.out.mono ?_
    rintro e w3 ⟨⟨v, rfl⟩, y3, ra, rc, hm3, hw3, hc3, hk3⟩
    have hR3 : BoxC w3 (w.heap.size + 1) 32 zero32 := Chg.heap hc3 HR1.out (by have := HG.out; omega)
    have hB3 : Below w.heap.size w w3 := HB1.out.trans (hc3.below (B := w.heap.size) HB1.out.size (fun k hk => by have := HG.out; omega))
    have hlo : ∀ b, y3.blk b ∨ ab ra = some b → b ≠ w.heap.size + 1 := fun b hb => by
      rcases hk3 b hb with h5 | h5
      · have := HBK.out b h5; omega
      · have := HG.out; rw [World.size_alloc] at h5; omega
    have HE := Lib.hid (FetEnd.mk hw3 hR3 HG.out hB3 (fun b hb => hlo b (.inl (.inl hb))) (fun b hb => hlo b (.inl (.inr hb))) (fun b hb => hlo b (.inr hb)))
    obtain ⟨q0, q1, q2, q3, q4, q5, q6, q7, -, q9⟩ := hw3.cells
    obtain ⟨r0, r1, r2, r3, r4, r5, r6, r7⟩ := t8 hR3
    have f0 := hR3.fz
    have HF := Lib.hid HE.out.fin
    have HM3 := Lib.hid hm3
    have HLO := Lib.hid (show ∀ b, y3.blk b ∨ ab ra = some b → w.heap.size ≤ b from fun b hb => by
      rcases hk3 b hb with h5 | h5
      · have := HBK.out b h5; omega
      · have := HG.out; rw [World.size_alloc] at h5; omega)
    clear d6 dk dk2 dk3 hm3 hw3 hc3 hk3 hR3 hB3 hlo HDO
    go_wp2_with fail
    clear q0 q1 q2 q3 q4 q5 q6 q7 q9
    have HS0 := Lib.hid (ResS.of HE.out.drew.wo.box)
    have HF2 := Lib.hid HE.out.fin2
    unfold put8 at HF HF2
    refine wp_region_held_drew (S := ResS w1.heap.size y3 (.slice ra M.2.length rc)) (by kernel_rfl) HS0.out (fun hHeld => ?_)
    refine wpAnyH_take (i := 0) (oi := _) (v := ?v16) rfl (by kernel_rfl) (by kernel_rfl) (by kernel_rfl) (fun _ _ _ h => h) (Or.inl ⟨by rfl, ?h16⟩) hHeld ?r16
    case h16 => (intro w hSw; (try unfold ResS at hSw); (try dsimp only at hSw); go_simp; try with_reducible rfl)
    try simp only [List.getElem_toArray, List.getElem_cons_succ, List.getElem_cons_zero, Act.put, List.setIfInBounds_toArray, List.set_cons_zero, List.set_cons_succ]
    refine wpAnyH_take (i := 1) (oi := _) (v := ?v17) rfl (by kernel_rfl) (by kernel_rfl) (by kernel_rfl) (fun _ _ _ h => h) (Or.inl ⟨by rfl, ?h17⟩) hHeld ?r17
    case h17 => (intro w hSw; (try unfold ResS at hSw); (try dsimp only at hSw); go_simp; try with_reducible rfl)
    try simp only [List.getElem_toArray, List.getElem_cons_succ, List.getElem_cons_zero, Act.put, List.setIfInBounds_toArray, List.set_cons_zero, List.set_cons_succ]
    refine wpAnyH_take (i := 2) (oi := _) (v := ?v18) rfl (by kernel_rfl) (by kernel_rfl) (by kernel_rfl) (fun _ _ _ h => h) (Or.inl ⟨by rfl, ?h18⟩) hHeld ?r18
    case h18 => (intro w hSw; (try unfold ResS at hSw); (try dsimp only at hSw); go_simp; try with_reducible rfl)
    try simp only [List.getElem_toArray, List.getElem_cons_succ, List.getElem_cons_zero, Act.put, List.setIfInBounds_toArray, List.set_cons_zero, List.set_cons_succ]
    refine wpAnyH_take (i := 3) (oi := _) (v := ?v19) rfl (by kernel_rfl) (by kernel_rfl) (by kernel_rfl) (fun _ _ _ h => h) (Or.inl ⟨by rfl, ?h19⟩) hHeld ?r19
    case h19 => (intro w hSw; (try unfold ResS at hSw); (try dsimp only at hSw); go_simp; try with_reducible rfl)
    try simp only [List.getElem_toArray, List.getElem_cons_succ, List.getElem_cons_zero, Act.put, List.setIfInBounds_toArray, List.set_cons_zero, List.set_cons_succ]
    refine wpAnyH_ready (rs := [4]) (by kernel_rfl) (by simp) ?_
    refine AllReadyH.cons rfl (fun K hK => ?_) ?_
    · go_simp
      refine hK.out _ _ ?_ (fun hHeld => ?_)
      · exact HF2.out
      clear hK K
      refine wpAnyH_take (i := 5) (oi := _) (v := ?v20) rfl (by kernel_rfl) (by kernel_rfl) (by kernel_rfl) (fun _ _ _ h => h) (Or.inl ⟨by rfl, ?h20⟩) hHeld ?r20
      case h20 => (intro w hSw; (try unfold ResS at hSw); (try dsimp only at hSw); go_simp; try with_reducible rfl)
      try simp only [List.getElem_toArray, List.getElem_cons_succ, List.getElem_cons_zero, Act.put, List.setIfInBounds_toArray, List.set_cons_zero, List.set_cons_succ]
      refine wpAnyH_done (by kernel_rfl) ?_ _
      go_wp2
      refine bodyPost_ret (results_f2 rfl _ _ (w.heap.size + 1) y3 rfl HF.out.1) rfl ?_
      exact ⟨y3, ra, rc, rfl, HM3.out, HF.out.2.1, HF.out.2.2.1, HF.out.2.2.2, HLO.out⟩
    exact AllReadyH.nil
end Go.Proofs.YtpihogkhfmijcaaGreat
