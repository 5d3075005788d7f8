/- A fetch in memory of its own. -/
import Derived.Test.YtpihogkhfmijcaaFeT
namespace Go.Proofs.Ytpihogkhfmijcaa
open Go.RowKit Go.Maps Go.Shelf
set_option linter.unusedSimpArgs false
/-- a fetch whose memory is new -/
structure FeNew (w w' : World) (y : FeV) (m : FeM) : Prop where
  m : y.m = m
  ok : y.ok w'
  sn : ∀ b, ab y.sa = some b → w.heap.size ≤ b
  bn : ∀ b, ab y.ba = some b → w.heap.size ≤ b
  old : (∀ b, ab y.sa = some b → b < w'.heap.size) ∧ (∀ b, ab y.ba = some b → b < w'.heap.size)
  bel : Below w.heap.size w w'
/-- the cells of a fetch in a block -/
def C8 (W : World) (g : Nat) (x : FeV) : Prop := W.cell? ⟨g, 0, none⟩ = some (.int .u64 x.id) ∧ W.cell? ⟨g, 1, none⟩ = some (.int .u64 x.n) ∧ W.cell? ⟨g, 2, none⟩ = some (.slice x.sa x.set.length x.sc) ∧ W.cell? ⟨g, 3, none⟩ = some (.int .i64 x.at') ∧ W.cell? ⟨g, 4, none⟩ = some (.int .u64 x.since) ∧ W.cell? ⟨g, 5, none⟩ = some (.int .u64 x.tag) ∧ W.cell? ⟨g, 6, none⟩ = some (.int .i64 x.done) ∧ W.cell? ⟨g, 7, none⟩ = some (.slice x.ba x.body.length x.bc)
theorem FeV.c8 {W : World} {g : Nat} {x : FeV} (h : BoxC W g 32 x.cs.toArray) : C8 W g x := ⟨h.cell 0, h.cell 1, h.cell 2, h.cell 3, h.cell 4, h.cell 5, h.cell 6, h.cell 7⟩
/-- there are eight cells -/
def T8 (W : World) (g : Nat) : Prop := W.cell? ⟨g, 0, none⟩ = some (.int .u64 0) ∧ W.cell? ⟨g, 1, none⟩ = some (.int .u64 0) ∧ W.cell? ⟨g, 2, none⟩ = some (.slice none 0 0) ∧ W.cell? ⟨g, 3, none⟩ = some (.int .i64 0) ∧ W.cell? ⟨g, 4, none⟩ = some (.int .u64 0) ∧ W.cell? ⟨g, 5, none⟩ = some (.int .u64 0) ∧ W.cell? ⟨g, 6, none⟩ = some (.int .i64 0) ∧ W.cell? ⟨g, 7, none⟩ = some (.slice none 0 0)
theorem t8 {W : World} {g : Nat} (h : BoxC W g 32 zero32) : T8 W g := ⟨h.cell 0, h.cell 1, h.cell 2, h.cell 3, h.cell 4, h.cell 5, h.cell 6, h.cell 7⟩
theorem Below.sets {base : Nat} {w W : World} {g : Nat} (hg : base ≤ g) (vs : List Value) (h : Below base w W) : Below base w (W.setCells g 0 vs) := setCells_below g hg vs 0 h
theorem Ch1.sets (W : World) (g : Nat) (vs : List Value) : Ch1 g W (W.setCells g 0 vs) := chg_setCells g vs 0 W W (Chg.refl _ _) rfl
set_option maxRecDepth 100000 in
set_option maxHeartbeats 2000000 in
theorem own_any (m : FeV) (w : World) (h : m.ok w) (h1 : m.set.length ≤ 100000) (h2 : m.body.length ≤ 100000) :
    Calls Try.prog 37 #[m.val] w fun e w' => ∃ y : FeV, e = .returned y.val ∧ FeNew w w' y m.m := by
  obtain ⟨W, hW⟩ : ∃ W, W = (w.alloc (.cells m.cs.toArray 32)).alloc (.cells zero32 32) := ⟨_, rfl⟩
  have hbel : Below w.heap.size w W := by rw [hW]; exact Go.Joins.below_alloc2 w _ _
  have hsz : W.heap.size = w.heap.size + 1 + 1 := by rw [hW]; simp only [World.size_alloc]
  have hB : BoxC W w.heap.size 32 m.cs.toArray := by rw [hW]; exact (BoxC.new _ _ _).alloc _
  have hR : BoxC W (w.heap.size + 1) 32 zero32 := by
    rw [hW]
    have := BoxC.new (w.alloc (.cells m.cs.toArray 32)) 32 zero32
    rwa [World.size_alloc] at this
  have HC1 := Lib.hid (clone_any (.slice m.sa m.set.length m.sc) m.set W (h.st.below hbel) h1)
  have HC2 := Lib.hid (fun Z (hZ : Below w.heap.size w Z) => bclone_any (.slice m.ba m.body.length m.bc) m.body Z (h.bd.below hZ) h2)
  have HW := Lib.hid (And.intro hbel (And.intro hsz (And.intro hB hR)))
  have HOK := Lib.hid h
  obtain ⟨-, -, c2, -, -, -, -, -⟩ := FeV.c8 hB
  clear hbel hsz hB hR h1 h2 h
  simp only [FeV.cs, zero32] at hW
  go_enter Try.func37, Try.ntmps37
  go_wp2_with fail
  rw [← hW]
  clear hW
  go_wp2_with fail
  refine HC1.out.mono ?_
  rintro e w1 ⟨v1, rfl, ho1, hb1⟩
  obtain ⟨a1, k1, rfl⟩ := OwnPs.form ho1 HOK.out.st.ok
  have HB1 := Lib.hid (HW.out.2.2.1.below hb1)
  have HR1 := Lib.hid (HW.out.2.2.2.below hb1)
  have HP1 := Lib.hid (And.intro ho1 (And.intro hb1 (HW.out.1.trans (hb1.mono HW.out.1.size))))
  have d2 := HB1.out.cell 2
  have f1 := HB1.out.fz
  clear c2 ho1 hb1 HC1
  simp only [FeV.cs, List.getElem?_toArray, List.getElem?_cons_succ, List.getElem?_cons_zero] at d2
  have HB2 := Lib.hid (HB1.out.set 2 (.slice a1 m.set.length k1))
  have HL2 := Lib.hid (HP1.out.2.2.setCell (p := ⟨w.heap.size, 2, none⟩) (Nat.le_refl _) (.slice a1 m.set.length k1))
  have HR2 := Lib.hid (HR1.out.other (show w.heap.size + 1 ≠ w.heap.size by omega) 2 (.slice a1 m.set.length k1))
  have c7 := HB2.out.cell 7
  simp only [FeV.cs, List.getElem?_toArray, List.getElem?_cons_succ, List.getElem?_cons_zero, List.setIfInBounds_toArray, List.set_cons_succ, List.set_cons_zero] at c7
  have HC3 := Lib.hid (HC2.out _ HL2.out)
  clear HC2
  go_wp2_with fail
  refine HC3.out.mono ?_
  rintro e w2 ⟨a2, k2, rfl, ho2, hb2⟩
  obtain ⟨y, hy⟩ : ∃ y : FeV, y = { m with sa := a1, sc := k1, ba := a2, bc := k2 } := ⟨_, rfl⟩
  have hb2' := HL2.out.trans (hb2.mono HL2.out.size)
  have hB3 : BoxC (w2.setCell ⟨w.heap.size, 7, none⟩ (.slice a2 m.body.length k2)) w.heap.size 32 y.cs.toArray := by rw [hy]; exact (HB2.out.below hb2).set 7 (.slice a2 m.body.length k2)
  have hR3 : BoxC (w2.setCell ⟨w.heap.size, 7, none⟩ (.slice a2 m.body.length k2)) (w.heap.size + 1) 32 zero32 := (HR2.out.below hb2).other (show w.heap.size + 1 ≠ w.heap.size by omega) 7 _
  have e7 := (HB2.out.below hb2).cell 7
  have g7 := (HB2.out.below hb2).fz
  simp only [FeV.cs, List.getElem?_toArray, List.getElem?_cons_succ, List.getElem?_cons_zero, List.setIfInBounds_toArray, List.set_cons_succ, List.set_cons_zero] at e7
  have HFIN := Lib.hid (show BoxC ((w2.setCell ⟨w.heap.size, 7, none⟩ (.slice a2 m.body.length k2)).setCells (w.heap.size + 1) 0 y.cs) (w.heap.size + 1) 32 y.cs.toArray ∧ FeNew w ((w2.setCell ⟨w.heap.size, 7, none⟩ (.slice a2 m.body.length k2)).setCells (w.heap.size + 1) 0 y.cs) y m.m from by
    refine ⟨hR3.full y.cs rfl, ⟨by rw [hy]; rfl, ⟨by rw [hy]; exact HOK.out.nums, ?_, ?_⟩, fun b hb => ?_, fun b hb => ?_, ⟨fun b hb => ?_, fun b hb => ?_⟩, Below.sets (by omega) _ (hb2'.setCell (p := ⟨w.heap.size, 7, none⟩) (Nat.le_refl _) _)⟩⟩
    · rw [hy]
      have hlo : ∀ b, ab a1 = some b → w.heap.size + 1 + 1 ≤ b := fun b hb => by have := (OwnRow.ab HP1.out.1 b hb).1; have := HW.out.2.1; omega
      have q1 := OwnPs.at HP1.out.1 HOK.out.st.ok
      have q2 := RowAt.ch1 q1 (fun b hb => by have := hlo b hb; omega) (Ch1.set w1 w.heap.size 2 (.slice a1 m.set.length k1))
      have q3 := PsAt.below q2 hb2
      have q4 := RowAt.ch1 q3 (fun b hb => by have := hlo b hb; omega) (Ch1.set w2 w.heap.size 7 (.slice a2 m.body.length k2))
      exact RowAt.ch1 q4 (fun b hb => by have := hlo b hb; omega) (Ch1.sets _ (w.heap.size + 1) _)
    · rw [hy]
      have hlo : ∀ b, ab a2 = some b → w.heap.size + 1 + 1 ≤ b := fun b hb => by have := (OwnRow.ab ho2 b hb).1; have h3 := HP1.out.2.1.size; have := HW.out.2.1; rw [setCell_size] at *; omega
      have q1 : BsAt w2 (.slice a2 m.body.length k2) m.body := OwnRow.at (fun _ => rfl) ho2 HOK.out.bd.each
      have q4 := RowAt.ch1 q1 (fun b hb => by have := hlo b hb; omega) (Ch1.set w2 w.heap.size 7 (.slice a2 m.body.length k2))
      exact RowAt.ch1 q4 (fun b hb => by have := hlo b hb; omega) (Ch1.sets _ (w.heap.size + 1) _)
    · rw [hy] at hb
      have := (OwnRow.ab HP1.out.1 b hb).1
      have := HW.out.2.1
      omega
    · rw [hy] at hb
      have := (OwnRow.ab ho2 b hb).1
      have h3 := HP1.out.2.1.size
      have := HW.out.2.1
      rw [setCell_size] at *
      omega
    · rw [hy] at hb
      have := (OwnRow.ab HP1.out.1 b hb).2
      have := hb2.size
      rw [setCells_size]
      simp only [setCell_size] at *
      omega
    · rw [hy] at hb
      have := (OwnRow.ab ho2 b hb).2
      rw [setCells_size]
      simp only [setCell_size] at *
      omega)
  obtain ⟨q0, q1, q2, q3, q4, q5, q6, q7⟩ := FeV.c8 hB3
  obtain ⟨r0, r1, r2, r3, r4, r5, r6, r7⟩ := t8 hR3
  have g8 := hR3.fz
  have HYY := Lib.hid hy
  clear hy hb2' hB3 hR3 ho2 hb2 c7 d2 f1
  go_wp2
  refine bodyPost_ret (results_f1 rfl _ _ (w.heap.size + 1) y rfl HFIN.out.1) rfl ?_
  exact ⟨y, rfl, HFIN.out.2⟩
end Go.Proofs.Ytpihogkhfmijcaa
