/- The ledger as it is by now. -/
import Derived.Test.YtpihogkhfmijcaaGreatFeX
import Derived.Test.YtpihogkhfmijcaaGreatPLed
namespace Go.Proofs.YtpihogkhfmijcaaGreat
open Go.RowKit Go.Maps Go.Shelf
set_option linter.unusedSimpArgs false
/-- the write set of an entry of a ledger that may be -/
theorem setV_len {fs : List FV} {W n : Int} (h : MayFr W fs) (hW : 1 ≤ W) (hn : 1 ≤ n) : (setV fs W n).length = W.toNat := by
  obtain ⟨h1, -, h3, h4⟩ := h
  obtain ⟨x0, hx0⟩ : ∃ x, fs[0]? = some x := ⟨_, List.getElem?_eq_getElem (by omega)⟩
  have hf := h3 x0 hx0
  unfold setV
  cases hv : fragV fs n with
  | none =>
    unfold fragV at hv
    rw [List.find?_eq_none] at hv
    have := hv x0 (List.mem_reverse.2 (List.mem_of_getElem? hx0))
    simp at this
    omega
  | some x =>
    obtain ⟨hm, hle⟩ := fragV_mem hv
    obtain ⟨i, hi⟩ := List.getElem?_of_mem hm
    have ho := (h4 i x hi).2.2.1
    dsimp only
    unfold setL hasB
    rw [if_pos ⟨hle, by simp; omega⟩, rot_length]
theorem setV_ok {fs : List FV} {n k : Int} (h : ∀ x ∈ fs, ∀ p ∈ x.ps, p.ok) : ∀ q ∈ setV fs n k, q.ok := by
  unfold setV
  cases hv : fragV fs k with
  | none => intro q hq; cases hq
  | some x => exact setL_ok (h x (fragV_mem hv).1)
theorem fs_ok {w : World} {v : Value} {fs : List FV} (h : FsAt w v fs) : ∀ x ∈ fs, ∀ p ∈ x.ps, p.ok := fun x hx => (RowAt.each h x hx).2.ok
open Classical in
/-- what a ledger as it is by now comes to -/
noncomputable def FeM.movedM (m : FeM) (now : Int) (l : LgV) : FeM × List RqM :=
  if l.i = m.id ∧ l.May then (if setV l.fs l.W m.n = m.set then (m, []) else m.beginM now (setV l.fs l.W m.n)) else (m, [])
theorem movedM_no {m : FeM} {now : Int} {l : LgV} (h : ¬ (l.i = m.id ∧ l.May)) : m.movedM now l = (m, []) := if_neg h
theorem movedM_same {m : FeM} {now : Int} {l : LgV} (h : l.i = m.id ∧ l.May) (hs : setV l.fs l.W m.n = m.set) : m.movedM now l = (m, []) := by unfold FeM.movedM; rw [if_pos h, if_pos hs]
theorem movedM_new {m : FeM} {now : Int} {l : LgV} (h : l.i = m.id ∧ l.May) (hs : ¬ setV l.fs l.W m.n = m.set) : m.movedM now l = m.beginM now (setV l.fs l.W m.n) := by unfold FeM.movedM; rw [if_pos h, if_neg hs]
theorem ledger_len {l : LgV} (h : l.May) {n : Int} (hn : 1 ≤ n) : (setV l.fs l.W n).length = l.W.toNat := setV_len h.2.2.1 (by have := h.2.1; omega) hn
set_option maxRecDepth 100000 in
set_option maxHeartbeats 4000000 in
theorem move_any {g : Nat} {x : FeV} {now : Int} {w : World} (h : Wo w g x now none 0 []) (hn : 1 ≤ x.n) (l : LgV) (hl : FsAt w (.slice l.a l.fs.length l.c) l.fs) (hs : ∀ x ∈ l.fs, x.ps.length ≤ 100000) :
    Calls Tryz.prog 32 #[pg g, l.val] w fun e w' => WoPost g now x (x.m.movedM now l).1 (x.m.movedM now l).2 w e w' := by
  obtain ⟨W, hW⟩ : ∃ W, W = w.alloc (.cells l.arr 25) := ⟨_, rfl⟩
  have hbel : Below w.heap.size w W := by rw [hW]; exact Go.Joins.below_alloc1 w _
  have hB : BoxC W w.heap.size 25 l.arr := by rw [hW]; exact BoxC.new _ _ _
  have HU := Lib.hid h
  have HB := Lib.hid (And.intro hbel hB)
  have hx := h.below hbel
  obtain ⟨k0, k1, k2, -⟩ := hx.cells
  have b0 := hB.cell 0
  have b1 := hB.cell 1
  have b2 := hB.cell 2
  have b3 := hB.cell 3
  have b4 := hB.cell 4
  have b5 := hB.cell 5
  have HLG := Lib.hid (fun Z (hZ : Below W.heap.size W Z) => planLedger_any l Z ((hl.below hbel).below hZ))
  have HNO := Lib.hid (@movedM_no x.m now l)
  have HSA := Lib.hid (@movedM_same x.m now l)
  have HNW := Lib.hid (@movedM_new x.m now l)
  have HLN := Lib.hid (fun (hm : l.May) => ledger_len hm hn)
  have HMA := Lib.hid (show l.May → 1 ≤ l.W ∧ l.W ≤ 5 from fun hm => ⟨by have := hm.2.1; omega, hm.2.1.2.2⟩)
  have HST := Lib.hid (fun Z (hZ : Below W.heap.size W Z) => set_any (.slice l.a l.fs.length l.c) l.W x.n l.fs Z ((hl.below hbel).below hZ) hs (by have := h.ok.nums.1.2; unfold u64ok at this; exact this))
  have HF := Lib.hid (show ∀ Z, Below W.heap.size W Z → (Z.cell? ⟨w.heap.size, 1, none⟩ = some (.int .i64 l.W) ∧ Z.cell? ⟨w.heap.size, 3, none⟩ = some (.slice l.a l.fs.length l.c)) ∧ (Z.cell? ⟨g, 1, none⟩ = some (.int .u64 x.n) ∧ Z.cell? ⟨g, 2, none⟩ = some (.slice x.sa x.set.length x.sc)) from fun Z hZ => ⟨⟨(hB.below hZ).cell 1, (hB.below hZ).cell 3⟩, ⟨(hx.below hZ).cells.2.1, (hx.below hZ).cells.2.2.1⟩⟩)
  have HSO := Lib.hid (setV_ok (n := l.W) (k := x.n) (fs_ok hl))
  obtain ⟨i, Wn, A, a, c, fs, cl, last⟩ := l
  simp only [LgV.arr, List.getElem?_toArray, List.getElem?_cons_succ, List.getElem?_cons_zero] at b0 b1 b2 b3 b4 b5
  dsimp only [LgV.arr] at hW HF HSA HNW HNO HLN HST HSO HMA
  simp only [LgV.val, LgV.arr] at HLG ⊢
  clear hbel hB hx h hl hs
  rcases Classical.em (i = x.id) with hid | hid
  · subst hid
    have HII := Lib.hid (show x.id = x.m.id from rfl)
    obtain ⟨sm, hsm⟩ : ∃ b, decide (setV fs Wn x.n = x.set) = b := ⟨_, rfl⟩
    have HSM := Lib.hid hsm
    clear hsm
    go_enter Tryz.func32, Tryz.ntmps32
    go_wp2_with fail
    rw [← hW]
    clear hW
    go_region_law (go_simp; (with_reducible refine Calls.mono (HLG.out _ (by first | exact Below.refl _ _ | exact Below.drew (Below.refl _ _) | exact below_drewN (Below.refl _ _) _)) ?_); rintro e w1 ⟨R, rfl, hR, hb1⟩; have HR := Lib.hid hR; have HB1 := Lib.hid (show Below W.heap.size W w1 by first | exact hb1 | exact Below.trans (Below.drew (Below.refl _ _)) hb1); clear hR hb1)
    all_goals clear b0 b1 b2 b3 b4 b5 k0 k1 k2 HLG
    all_goals obtain ⟨⟨b1, b3⟩, k1, k2⟩ := HF.out w1 HB1.out
    all_goals (cases R with
      | false =>
        have HT := Lib.hid (HNO.out (fun hh => by simpa using HR.out.2 hh.2))
        go_wp2
        go_end0
        rw [HT.out]
        exact HU.out.same ⟨_, rfl⟩ (HB.out.1.trans (HB1.out.mono HB.out.1.size))
      | true =>
        have HM := Lib.hid (HR.out.1 rfl)
        have HS1 := Lib.hid (fun Z (hZ : Below w1.heap.size w1 Z) => HST.out Z (HB1.out.trans (hZ.mono HB1.out.size)))
        go_wp2_with fail
        go_region_law (go_simp; (with_reducible refine Calls.mono (HS1.out _ (by first | exact Below.refl _ _ | exact Below.drew (Below.refl _ _) | exact below_drewN (Below.refl _ _) _)) ?_); rintro e w2 ⟨v2, rfl, ho2, hb2⟩; have HO2 := Lib.hid ho2; have HB2 := Lib.hid (show Below w1.heap.size w1 w2 by first | exact hb2 | exact Below.trans (Below.drew (Below.refl _ _)) hb2); clear ho2 hb2)
        all_goals clear b1 b3 k1 k2
        all_goals have HBW := Lib.hid (HB1.out.trans (HB2.out.mono HB1.out.size))
        all_goals obtain ⟨-, -, k2⟩ := HF.out w2 HBW.out
        all_goals obtain ⟨a2, c2, hv2⟩ := OwnPs.form HO2.out HSO.out
        all_goals subst hv2
        all_goals have HPS := Lib.hid (OwnPs.at HO2.out HSO.out)
        all_goals have HWO := Lib.hid (HU.out.below (HB.out.1.trans (HBW.out.mono HB.out.1.size)))
        all_goals have HEQ := Lib.hid (equal_any (.slice a2 (setV fs Wn x.n).length c2) (.slice x.sa x.set.length x.sc) (setV fs Wn x.n) x.set w2 HPS.out HWO.out.ok.st)
        all_goals have HSZ := Lib.hid (show w.heap.size + 1 ≤ w2.heap.size ∧ ∀ b, ab a2 = some b → w.heap.size ≤ b from ⟨by have := HBW.out.size; have := HB.out.2.lt; omega, fun b hb => by have := (OwnRow.ab HO2.out b hb).1; have := HB1.out.size; have := HB.out.1.size; first | omega | (have e1 : w1.drew.heap.size = w1.heap.size := rfl; omega)⟩)
        all_goals have HLL := Lib.hid (show 0 < (setV fs Wn x.n).length ∧ (setV fs Wn x.n).length ≤ 1000 from by have := HLN.out HM.out; have := HMA.out HM.out; omega)
        all_goals have HBG := Lib.hid (fun Z (hZ : Below w2.heap.size w2 Z) => begin_any (HWO.out.below hZ) (HPS.out.below hZ) (fun b hb => by have := HSZ.out.2 b hb; have := HU.out.box.lt; omega) HLL.out.1 HLL.out.2)
        all_goals rw [HSM.out] at HEQ
        all_goals (cases sm with
          | true =>
            have HT := Lib.hid (HSA.out ⟨HII.out, HM.out⟩ (of_decide_eq_true HSM.out))
            go_wp2_with fail
            refine HEQ.out.mono ?_
            rintro e w3 ⟨rfl, hb3⟩
            have HB3 := Lib.hid hb3
            clear hb3
            go_wp2
            go_end0
            rw [HT.out]
            exact HU.out.same ⟨_, rfl⟩ ((HB.out.1.trans (HBW.out.mono HB.out.1.size)).trans (HB3.out.mono (by have := HSZ.out.1; omega)))
          | false =>
            have HT := Lib.hid (HNW.out ⟨HII.out, HM.out⟩ (of_decide_eq_false HSM.out))
            go_wp2_with fail
            refine HEQ.out.mono ?_
            rintro e w3 ⟨rfl, hb3⟩
            have HB3 := Lib.hid hb3
            have HBG3 := Lib.hid (HBG.out w3 hb3)
            clear hb3
            go_wp2_with fail
            refine HBG3.out.mono ?_
            rintro e w4 ⟨⟨v, rfl⟩, hq⟩
            have HQ := Lib.hid (WoPost.trans (x := x) (e := .returned (.tuple #[])) ⟨⟨_, rfl⟩, hq⟩ (Ch1.of ((HB.out.1.trans (HBW.out.mono HB.out.1.size)).trans (HB3.out.mono (by have := HSZ.out.1; omega)))) (fun b hb => by
              rcases hb with hb | hb
              · exact .inr (HSZ.out.2 b hb)
              · exact .inl (.inr hb)))
            clear hq
            go_wp2
            go_end0
            rw [HT.out]
            exact HQ.out))
  · have dk : (i == x.id) = false := by simpa using hid
    have dk2 : decide (i = x.id) = false := decide_eq_false hid
    have dk3 : (i != x.id) = true := by simpa using hid
    have HR := Lib.hid (HNO.out (fun hh => hid hh.1))
    clear hid
    go_enter Tryz.func32, Tryz.ntmps32
    go_wp2_with fail
    rw [← hW]
    clear hW
    go_quiet (fail)
    go_wp2
    go_end0
    rw [HR.out]
    exact HU.out.same ⟨_, rfl⟩ (drewN_below HB.out.1 _)
end Go.Proofs.YtpihogkhfmijcaaGreat
