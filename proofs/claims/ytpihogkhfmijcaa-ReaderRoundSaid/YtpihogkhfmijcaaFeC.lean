/- Refused, found; an answer is taken. -/
import Derived.Test.YtpihogkhfmijcaaFeB
namespace Go.Proofs.Ytpihogkhfmijcaa
open Go.RowKit Go.Maps Go.Shelf
set_option linter.unusedSimpArgs false
theorem fit_all {W : World} {Rb : Nat} {r : RsV} (hR : BoxC W Rb 40 r.cells) : ∀ Z, Below W.heap.size W Z → BoxC Z Rb 40 r.cells := fun _ h => hR.below h
set_option maxRecDepth 100000 in
theorem is_any {W : World} {Rb : Nat} {r : RsV} (hR : BoxC W Rb 40 r.cells) (p : PL) :
    Calls Try.prog 42 #[p.val, .pointer (some ⟨Rb, 0, none⟩)] W fun e w' => e = .returned (.bool (decide (p = r.frm))) ∧ Below W.heap.size W w' := by
  have HB := Lib.hid (Go.Joins.below_alloc1 W (.cells #[.int .i64 p.n, .int .u64 p.s] 38))
  have hR' := hR.below HB.out
  have b0 := hR'.cell 0
  have b1 := hR'.cell 1
  simp only [RsV.cells, List.getElem?_toArray, List.getElem?_cons_succ, List.getElem?_cons_zero] at b0 b1
  have k1 := fun w => eql38 p r.frm w
  have kg := guard38
  clear hR hR'
  go_enter Try.func42, Try.ntmps42
  go_wp2
  go_ret
  exact ⟨rfl, HB.out⟩
set_option maxRecDepth 100000 in
theorem of_any {W : World} {Rb : Nat} {r : RsV} (hR : BoxC W Rb 40 r.cells) (p : PL) :
    Calls Try.prog 43 #[p.val, .pointer (some ⟨Rb, 0, none⟩)] W fun e w' => e = .returned (.bool (decide (p.n = r.frm.n))) ∧ Below W.heap.size W w' := by
  have HB := Lib.hid (Go.Joins.below_alloc1 W (.cells #[.int .i64 p.n, .int .u64 p.s] 38))
  have hR' := hR.below HB.out
  have b0 := hR'.cell 0
  simp only [RsV.cells, List.getElem?_toArray, List.getElem?_cons_succ, List.getElem?_cons_zero] at b0
  clear hR hR'
  go_enter Try.func43, Try.ntmps43
  go_wp2
  go_ret
  exact ⟨rfl, HB.out⟩
theorem asks42 {W : World} {Rb : Nat} {r : RsV} (hR : BoxC W Rb 40 r.cells) : AsksAt W 42 (.pointer (some ⟨Rb, 0, none⟩)) (fun p => decide (p = r.frm)) :=
  ⟨enters_of Try.func42 (by kernel_rfl) rfl, fun W' hW p _ => is_any (hR.below hW) p⟩
theorem asks43 {W : World} {Rb : Nat} {r : RsV} (hR : BoxC W Rb 40 r.cells) : AsksAt W 43 (.pointer (some ⟨Rb, 0, none⟩)) (fun p => decide (p.n = r.frm.n)) :=
  ⟨enters_of Try.func43 (by kernel_rfl) rfl, fun W' hW p _ => of_any (hR.below hW) p⟩
/-- the place that is asked -/
def FeM.cur (m : FeM) : PL := m.set.getD m.at'.toNat default
set_option maxRecDepth 100000 in
set_option maxHeartbeats 2000000 in
theorem refused_any {g : Nat} {x : FeV} {now : Int} {w : World} (h : Wo w g x now none 0 []) (hi : x.m.In) {f : Nat} {c : Value} {q : PL → Bool} (ha : AsksAt w f c q) :
    Calls Try.prog 41 #[pg g, .func (.func f) #[] #[c]] w fun e w' => if q x.m.cur = true then WoPost g now x (x.m.passM now).1 (x.m.passM now).2 w e w' else WoPost g now x x.m [] w e w' := by
  obtain ⟨p, hp, hd⟩ := hi.get
  rw [show x.m.cur = p from hd]
  have hpo := h.place hp
  have HA := Lib.hid (asked_any h hi.lo hp)
  have hen := ha.enters
  have HC := Lib.hid (fun W (hW : Below w.heap.size w W) => ha.calls W hW p hpo)
  have HP := Lib.hid (fun Z (hZ : Below w.heap.size w Z) => pass_any (h.below hZ) hi)
  have HU := Lib.hid h
  obtain ⟨b, hb⟩ : ∃ b, q p = b := ⟨_, rfl⟩
  rw [hb] at HC ⊢
  clear h hi ha hp hd hpo hb
  go_enter Try.func41, Try.ntmps41
  go_wp2_with fail
  refine HA.out.mono ?_
  rintro e w1 ⟨rfl, hb1⟩
  have HB1 := Lib.hid (hb1.alloc hb1.size (.cells #[.int .i64 p.n, .int .u64 p.s] 38))
  have HC1 := Lib.hid (HC.out _ HB1.out)
  clear hb1 HC
  go_wp2_with fail
  refine HC1.out.mono ?_
  rintro e w2 ⟨rfl, hb2⟩
  have HB2 := Lib.hid (HB1.out.trans (hb2.mono HB1.out.size))
  have HP2 := Lib.hid (HP.out _ HB2.out)
  clear hb2
  cases b with
  | true =>
    go_wp2_with fail
    refine HP2.out.mono ?_
    rintro e w3 ⟨⟨v, rfl⟩, hq⟩
    have HQ := Lib.hid (WoPost.trans (x := x) (e := .returned (.tuple #[])) ⟨⟨_, rfl⟩, hq⟩ (Ch1.of HB2.out) (fun _ h => .inl h))
    clear hq
    go_wp2
    go_end0
    exact HQ.out
  | false =>
    go_wp2
    go_end0
    exact HU.out.same ⟨_, rfl⟩ HB2.out
/-- the entry, where one of its places tells it -/
def FeM.foundM (m : FeM) (r : RsV) : FeM := if r.frm ∈ m.set then { m with done := 1, body := r.body } else m
theorem Wo.done {w : World} {g : Nat} {x : FeV} {now : Int} {ra : Option Addr} {rc : Nat} {qs : List RqM} (h : Wo w g x now ra rc qs) {sa : Option Addr} {sc : Nat} {S : List Int} (hS : BsAt w (.slice sa S.length sc) S) (hg : ∀ b, ab sa = some b → b ≠ g) :
    Wo ((w.setCell ⟨g, 6, none⟩ (.int .i64 1)).setCell ⟨g, 7, none⟩ (.slice sa S.length sc)) g { x with done := 1, ba := sa, bc := sc, body := S } now ra rc qs :=
  (h.set6 1 (by unfold i64ok; omega)).set7 (RowAt.ch1 hS hg (Ch1.set w g 6 _)) hg
set_option maxRecDepth 100000 in
set_option maxHeartbeats 2000000 in
theorem found_any {g : Nat} {x : FeV} {now : Int} {w : World} (h : Wo w g x now none 0 []) (hi : x.m.In) (r : RsV) (hr : r.ok w) (hl : r.body.length ≤ 100000) :
    Calls Try.prog 40 #[pg g, r.val] w fun e w' => WoPost g now x (x.m.foundM r) [] w e w' := by
  have HB := Lib.hid (Go.Joins.below_alloc1 w (.cells r.cells 40))
  have hx := h.below HB.out
  obtain ⟨-, -, c2, -⟩ := hx.cells
  have HC := Lib.hid (fun Z (hZ : Below (w.alloc (.cells r.cells 40)).heap.size (w.alloc (.cells r.cells 40)) Z) => containsP_any (.slice x.sa x.set.length x.sc) x.set r.frm Z (hx.ok.st.below hZ) (by have := hi.len; have : x.set.length ≤ 1000 := this; omega))
  have HR := Lib.hid (And.intro hr hl)
  have HU := Lib.hid h
  have HK := Lib.hid (fun Z (hZ : Below (w.alloc (.cells r.cells 40)).heap.size (w.alloc (.cells r.cells 40)) Z) => And.intro ((BoxC.new w 40 r.cells).below hZ) (HB.out.trans (hZ.mono HB.out.size)))
  obtain ⟨N, hN⟩ : ∃ N, x.set.length = N := ⟨_, rfl⟩
  rw [hN] at c2 HC
  obtain ⟨frm, kind, code, ledger, n, epoch, sure, ba, bc, body⟩ := r
  dsimp only [RsV.cells] at HB HC HK c2
  obtain ⟨m, hm⟩ : ∃ m, decide (frm ∈ x.set) = m := ⟨_, rfl⟩
  rw [hm] at HC
  have HM := Lib.hid hm
  clear h hi hx hr hl hN hm
  cases m with
  | false =>
    have HF := Lib.hid (show x.m.foundM ⟨frm, kind, code, ledger, n, epoch, sure, ba, bc, body⟩ = x.m from if_neg (of_decide_eq_false HM.out))
    go_enter Try.func40, Try.ntmps40
    go_wp2_with fail
    go_region_law (go_simp; (with_reducible refine Calls.mono (HC.out _ (by first | exact Below.refl _ _ | exact Below.drew (Below.refl _ _) | exact below_drewN (Below.refl _ _) _)) ?_); rintro e w1 ⟨rfl, hb1⟩; have HK1 := Lib.hid (HK.out w1 (by first | exact hb1 | exact Below.trans (Below.drew (Below.refl _ _)) hb1)); clear hb1)
    all_goals go_wp2
    all_goals go_end0
    all_goals rw [HF.out]
    all_goals exact HU.out.same ⟨_, rfl⟩ HK1.out.2
  | true =>
    have HF := Lib.hid (show x.m.foundM ⟨frm, kind, code, ledger, n, epoch, sure, ba, bc, body⟩ = { x.m with done := 1, body := body } from if_pos (of_decide_eq_true HM.out))
    have HBC := Lib.hid (fun Z (hZ : Below w.heap.size w Z) => bclone_any (.slice ba body.length bc) body Z (HR.out.1.bd.below hZ) HR.out.2)
    have HBO := Lib.hid (show ∀ q ∈ body, 0 ≤ q ∧ q ≤ 255 from HR.out.1.bd.each)
    obtain ⟨BL, hBL⟩ : ∃ BL, body.length = BL := ⟨_, rfl⟩
    rw [hBL] at HBC HB HC HK c2
    have HBL := Lib.hid hBL
    rw [show RsV.val ⟨frm, kind, code, ledger, n, epoch, sure, ba, bc, body⟩ = .agg #[.int .i64 frm.n, .int .u64 frm.s, .int .i64 kind, .int .i64 code, .int .u64 ledger, .int .u64 n, .int .u64 epoch, .int .u64 sure, .slice ba BL bc] from by rw [← hBL]]
    clear hBL
    go_enter Try.func40, Try.ntmps40
    go_wp2_with fail
    go_region_law (go_simp; (with_reducible refine Calls.mono (HC.out _ (by first | exact Below.refl _ _ | exact Below.drew (Below.refl _ _) | exact below_drewN (Below.refl _ _) _)) ?_); rintro e w1 ⟨rfl, hb1⟩; have HK1 := Lib.hid (HK.out w1 (by first | exact hb1 | exact Below.trans (Below.drew (Below.refl _ _)) hb1)); have b7 := HK1.out.1.cell 8; simp only [List.getElem?_toArray, List.getElem?_cons_succ, List.getElem?_cons_zero] at b7; clear hb1)
    all_goals go_wp2_with fail
    all_goals refine Calls.mono (HBC.out _ HK1.out.2) ?_
    all_goals rintro e w2 ⟨a2, c2', rfl, ho2, hb2⟩
    all_goals have hx2 := HU.out.below (HK1.out.2.trans (hb2.mono HK1.out.2.size))
    all_goals obtain ⟨-, -, -, -, -, -, k6, k7, -, -⟩ := hx2.cells
    all_goals have f2 := hx2.fz
    all_goals have HX2 := Lib.hid (And.intro hx2 (And.intro ho2 (HK1.out.2.trans (hb2.mono HK1.out.2.size))))
    all_goals have HS1 := Lib.hid HK1.out.2.size
    all_goals clear hx2 ho2 hb2 b7
    all_goals go_wp2
    all_goals go_end0
    all_goals rw [HF.out]
    all_goals (
      have hS : BsAt w2 (.slice a2 body.length c2') body := by rw [HBL.out]; exact OwnRow.at (fun _ => rfl) HX2.out.2.1 HBO.out
      have hne : ∀ b, ab a2 = some b → b ≠ g := fun b hb => by have := (OwnRow.ab HX2.out.2.1 b hb).1; have := HU.out.box.lt; have := HS1.out; omega
      have hd := HX2.out.1.done hS hne
      rw [HBL.out] at hd
      exact ⟨⟨_, rfl⟩, _, _, _, rfl, hd, ((Ch1.of HX2.out.2.2).trans (Ch1.set _ g 6 _)).trans (Ch1.set _ g 7 _), fun b hb => by
        rcases hb with (hb | hb) | hb
        · exact .inl (.inl hb)
        · exact .inr (Nat.le_trans HS1.out (OwnRow.ab HX2.out.2.1 b hb).1)
        · cases hb⟩)
/-- what an answer comes to -/
def FeM.takeM (m : FeM) (now : Int) (r : RsV) : FeM × List RqM :=
  if m.fits r then
    if r.code = 0 then (m.foundM r, [])
    else if r.code = 3 ∨ r.code = 2 ∨ r.code = 1 then (if m.cur = r.frm then m.passM now else (m, []))
    else if r.code = 4 then (if m.cur.n = r.frm.n then m.passM now else (m, []))
    else (m, [])
  else (m, [])
theorem takeM_no {m : FeM} {now : Int} {r : RsV} (h : ¬ m.fits r) : m.takeM now r = (m, []) := if_neg h
theorem takeM_0 {m : FeM} {now : Int} {r : RsV} (h : m.fits r) (hc : r.code = 0) : m.takeM now r = (m.foundM r, []) := by unfold FeM.takeM; rw [if_pos h, if_pos hc]
theorem takeM_1 {m : FeM} {now : Int} {r : RsV} (h : m.fits r) (hc : r.code = 3 ∨ r.code = 2 ∨ r.code = 1) : m.takeM now r = if m.cur = r.frm then m.passM now else (m, []) := by unfold FeM.takeM; rw [if_pos h, if_neg (by omega), if_pos hc]
theorem takeM_4 {m : FeM} {now : Int} {r : RsV} (h : m.fits r) (hc : r.code = 4) : m.takeM now r = if m.cur.n = r.frm.n then m.passM now else (m, []) := by unfold FeM.takeM; rw [if_pos h, if_neg (by omega), if_neg (by omega), if_pos hc]
theorem takeM_x {m : FeM} {now : Int} {r : RsV} (hc : ¬ r.code = 0 ∧ ¬ r.code = 1 ∧ ¬ r.code = 2 ∧ ¬ r.code = 3 ∧ ¬ r.code = 4) : m.takeM now r = (m, []) := by
  unfold FeM.takeM
  split
  · rw [if_neg hc.1, if_neg (by omega), if_neg hc.2.2.2.2]
  · rfl
end Go.Proofs.Ytpihogkhfmijcaa
