/- An answer; what it fits; the entry found; refused. Refused, found; an answer is taken. An answer is taken. A fetch in memory of its own. -/
import Derived.Test.YtpihogkhfmijcaaGreatPe
namespace Go.Proofs.YtpihogkhfmijcaaGreat
open Go.RowKit Go.Maps Go.Shelf
set_option linter.unusedSimpArgs false
/-- an answer, and where it lies -/
structure RsV where
  frm : PL
  kind : Int
  code : Int
  ledger : Int
  n : Int
  epoch : Int
  sure : Int
  ba : Option Addr
  bc : Nat
  body : List Int
def RsV.cells (r : RsV) : Array Value := #[.int .i64 r.frm.n, .int .u64 r.frm.s, .int .i64 r.kind, .int .i64 r.code, .int .u64 r.ledger, .int .u64 r.n, .int .u64 r.epoch, .int .u64 r.sure, .slice r.ba r.body.length r.bc]
abbrev RsV.val (r : RsV) : Value := .agg #[.int .i64 r.frm.n, .int .u64 r.frm.s, .int .i64 r.kind, .int .i64 r.code, .int .u64 r.ledger, .int .u64 r.n, .int .u64 r.epoch, .int .u64 r.sure, .slice r.ba r.body.length r.bc]
structure RsV.ok (w : World) (r : RsV) : Prop where
  frm : r.frm.ok
  bd : BsAt w (.slice r.ba r.body.length r.bc) r.body
theorem RsV.ok.below {w w' : World} {r : RsV} (h : r.ok w) (hb : Below w.heap.size w w') : r.ok w' := ⟨h.frm, h.bd.below hb⟩
/-- does an answer fit what was asked? -/
def FeM.fits (m : FeM) (r : RsV) : Prop := r.kind = 3 ∧ r.ledger = m.id ∧ r.n = m.n ∧ r.epoch = m.tag
instance (m : FeM) (r : RsV) : Decidable (m.fits r) := by unfold FeM.fits; exact inferInstance
set_option maxRecDepth 100000 in
set_option maxHeartbeats 8000000 in
theorem answers_any {g : Nat} {x : FeV} {now : Int} {w : World} (h : Wo w g x now none 0 []) (r : RsV) :
    Calls Tryz.prog 50 #[pg g, r.val] w fun e w' => e = .returned (.bool (decide (x.m.fits r))) ∧ Below w.heap.size w w' := by
  have HB := Lib.hid (Go.Joins.below_alloc1 w (.cells r.cells 42))
  obtain ⟨W, hW⟩ : ∃ W, W = w.alloc (.cells r.cells 42) := ⟨_, rfl⟩
  have hwo : Wo W g x now none 0 [] := by rw [hW]; exact h.below HB.out
  have hbx : BoxC W w.heap.size 42 r.cells := by rw [hW]; exact BoxC.new _ _ _
  have hbl : Below w.heap.size w W := by rw [hW]; exact HB.out
  obtain ⟨c0, c1, -, -, -, c5, -⟩ := hwo.cells
  have b2 := hbx.cell 2
  have b4 := hbx.cell 4
  have b5 := hbx.cell 5
  have b6 := hbx.cell 6
  obtain ⟨frm, kind, code, ledger, n, epoch, sure, ba, bc, body⟩ := r
  simp only [RsV.cells, List.getElem?_toArray, List.getElem?_cons_succ, List.getElem?_cons_zero] at b2 b4 b5 b6
  dsimp only [RsV.cells] at hW
  have HL := Lib.hid hbl
  clear h hwo hbx hbl HB
  rcases Classical.em (kind = 3) with h0 | h0
  · subst h0
    rcases Classical.em (ledger = x.id) with h1 | h1
    · subst h1
      rcases Classical.em (n = x.n) with h2 | h2
      · subst h2
        rcases Classical.em (epoch = x.tag) with h3 | h3
        · subst h3
          have HT := Lib.hid (show decide (x.m.fits ⟨frm, 3, code, x.id, x.n, x.tag, sure, ba, bc, body⟩) = true from decide_eq_true ⟨rfl, rfl, rfl, rfl⟩)
          go_enter Tryz.func50, Tryz.ntmps50
          go_wp2_with fail
          rw [← hW]
          clear hW
          go_quiet (fail)
          go_wp2
          go_ret
          rw [HT.out]
          exact ⟨rfl, drewN_below HL.out _⟩
        · have HT := Lib.hid (show decide (x.m.fits ⟨frm, 3, code, x.id, x.n, epoch, sure, ba, bc, body⟩) = false from decide_eq_false fun hh => h3 hh.2.2.2)
          have dk : (epoch == x.tag) = false := by simpa using h3
          have dk2 : decide (epoch = x.tag) = false := decide_eq_false h3
          clear h3
          go_enter Tryz.func50, Tryz.ntmps50
          go_wp2_with fail
          rw [← hW]
          clear hW
          go_quiet (fail)
          go_wp2
          go_ret
          rw [HT.out]
          exact ⟨rfl, drewN_below HL.out _⟩
      · have HT := Lib.hid (show decide (x.m.fits ⟨frm, 3, code, x.id, n, epoch, sure, ba, bc, body⟩) = false from decide_eq_false fun hh => h2 hh.2.2.1)
        have dk : (n == x.n) = false := by simpa using h2
        have dk2 : decide (n = x.n) = false := decide_eq_false h2
        clear h2
        go_enter Tryz.func50, Tryz.ntmps50
        go_wp2_with fail
        rw [← hW]
        clear hW
        go_quiet (fail)
        go_wp2
        go_ret
        rw [HT.out]
        exact ⟨rfl, drewN_below HL.out _⟩
    · have HT := Lib.hid (show decide (x.m.fits ⟨frm, 3, code, ledger, n, epoch, sure, ba, bc, body⟩) = false from decide_eq_false fun hh => h1 hh.2.1)
      have dk : (ledger == x.id) = false := by simpa using h1
      have dk2 : decide (ledger = x.id) = false := decide_eq_false h1
      clear h1
      go_enter Tryz.func50, Tryz.ntmps50
      go_wp2_with fail
      rw [← hW]
      clear hW
      go_quiet (fail)
      go_wp2
      go_ret
      rw [HT.out]
      exact ⟨rfl, drewN_below HL.out _⟩
  · have HT := Lib.hid (show decide (x.m.fits ⟨frm, kind, code, ledger, n, epoch, sure, ba, bc, body⟩) = false from decide_eq_false fun hh => h0 hh.1)
    have dk : (kind == 3) = false := by simpa using h0
    have dk2 : decide (kind = 3) = false := decide_eq_false h0
    clear h0
    go_enter Tryz.func50, Tryz.ntmps50
    go_wp2_with fail
    rw [← hW]
    clear hW
    go_quiet (fail)
    go_wp2
    go_ret
    rw [HT.out]
    exact ⟨rfl, drewN_below HL.out _⟩
end Go.Proofs.YtpihogkhfmijcaaGreat
namespace Go.Proofs.YtpihogkhfmijcaaGreat
open Go.RowKit Go.Maps Go.Shelf
set_option linter.unusedSimpArgs false
theorem fit_all {W : World} {Rb : Nat} {r : RsV} (hR : BoxC W Rb 42 r.cells) : ∀ Z, Below W.heap.size W Z → BoxC Z Rb 42 r.cells := fun _ h => hR.below h
set_option maxRecDepth 100000 in
theorem is_any {W : World} {Rb : Nat} {r : RsV} (hR : BoxC W Rb 42 r.cells) (p : PL) :
    Calls Tryz.prog 53 #[p.val, .pointer (some ⟨Rb, 0, none⟩)] W fun e w' => e = .returned (.bool (decide (p = r.frm))) ∧ Below W.heap.size W w' := by
  have HB := Lib.hid (Go.Joins.below_alloc1 W (.cells #[.int .i64 p.n, .int .u64 p.s] 40))
  have hR' := hR.below HB.out
  have b0 := hR'.cell 0
  have b1 := hR'.cell 1
  simp only [RsV.cells, List.getElem?_toArray, List.getElem?_cons_succ, List.getElem?_cons_zero] at b0 b1
  have k1 := fun w => eql38 p r.frm w
  have kg := guard38
  clear hR hR'
  go_enter Tryz.func53, Tryz.ntmps53
  go_wp2
  go_ret
  exact ⟨rfl, HB.out⟩
set_option maxRecDepth 100000 in
theorem of_any {W : World} {Rb : Nat} {r : RsV} (hR : BoxC W Rb 42 r.cells) (p : PL) :
    Calls Tryz.prog 54 #[p.val, .pointer (some ⟨Rb, 0, none⟩)] W fun e w' => e = .returned (.bool (decide (p.n = r.frm.n))) ∧ Below W.heap.size W w' := by
  have HB := Lib.hid (Go.Joins.below_alloc1 W (.cells #[.int .i64 p.n, .int .u64 p.s] 40))
  have hR' := hR.below HB.out
  have b0 := hR'.cell 0
  simp only [RsV.cells, List.getElem?_toArray, List.getElem?_cons_succ, List.getElem?_cons_zero] at b0
  clear hR hR'
  go_enter Tryz.func54, Tryz.ntmps54
  go_wp2
  go_ret
  exact ⟨rfl, HB.out⟩
theorem asks42 {W : World} {Rb : Nat} {r : RsV} (hR : BoxC W Rb 42 r.cells) : AsksAt W 53 (.pointer (some ⟨Rb, 0, none⟩)) (fun p => decide (p = r.frm)) :=
  ⟨enters_of Tryz.func53 (by kernel_rfl) rfl, fun W' hW p _ => is_any (hR.below hW) p⟩
theorem asks43 {W : World} {Rb : Nat} {r : RsV} (hR : BoxC W Rb 42 r.cells) : AsksAt W 54 (.pointer (some ⟨Rb, 0, none⟩)) (fun p => decide (p.n = r.frm.n)) :=
  ⟨enters_of Tryz.func54 (by kernel_rfl) rfl, fun W' hW p _ => of_any (hR.below hW) p⟩
/-- the place that is asked -/
def FeM.cur (m : FeM) : PL := m.set.getD m.at'.toNat default
set_option maxRecDepth 100000 in
set_option maxHeartbeats 2000000 in
theorem refused_any {g : Nat} {x : FeV} {now : Int} {w : World} (h : Wo w g x now none 0 []) (hi : x.m.In) {f : Nat} {c : Value} {q : PL → Bool} (ha : AsksAt w f c q) :
    Calls Tryz.prog 52 #[pg g, .func (.func f) #[] #[c]] w fun e w' => if q x.m.cur = true then WoPost g now x (x.m.passM now).1 (x.m.passM now).2 w e w' else WoPost g now x x.m [] w e w' := by
  obtain ⟨p, hp, hd⟩ := hi.get
  rw [show x.m.cur = p from hd]
  have hpo := h.place hp
  have HA := Lib.hid (asked_any h hi.lo hp)
  have hen := ha.enters
  have HC := Lib.hid (fun W (hW : Below w.heap.size w W) => ha.calls W hW p hpo)
  have HP := Lib.hid (fun Z (hZ : Below w.heap.size w Z) => pass_any (h.below hZ) hi)
  have HU := Lib.hid h
  obtain ⟨b, hb⟩ : ∃ b, q p = b := ⟨_, rfl⟩
  rw [hb] at HC ⊢
  clear h hi ha hp hd hpo hb
  go_enter Tryz.func52, Tryz.ntmps52
  go_wp2_with fail
  refine HA.out.mono ?_
  rintro e w1 ⟨rfl, hb1⟩
  have HB1 := Lib.hid (hb1.alloc hb1.size (.cells #[.int .i64 p.n, .int .u64 p.s] 40))
  have HC1 := Lib.hid (HC.out _ HB1.out)
  clear hb1 HC
  go_wp2_with fail
  refine HC1.out.mono ?_
  rintro e w2 ⟨rfl, hb2⟩
  have HB2 := Lib.hid (HB1.out.trans (hb2.mono HB1.out.size))
  have HP2 := Lib.hid (HP.out _ HB2.out)
  clear hb2
  cases b with
  | true =>
    go_wp2_with fail
    refine HP2.out.mono ?_
    rintro e w3 ⟨⟨v, rfl⟩, hq⟩
    have HQ := Lib.hid (WoPost.trans (x := x) (e := .returned (.tuple #[])) ⟨⟨_, rfl⟩, hq⟩ (Ch1.of HB2.out) (fun _ h => .inl h))
    clear hq
    go_wp2
    go_end0
    exact HQ.out
  | false =>
    go_wp2
    go_end0
    exact HU.out.same ⟨_, rfl⟩ HB2.out
/-- the entry, where one of its places tells it -/
def FeM.foundM (m : FeM) (r : RsV) : FeM := if r.frm ∈ m.set then { m with done := 1, body := r.body } else m
theorem Wo.done {w : World} {g : Nat} {x : FeV} {now : Int} {ra : Option Addr} {rc : Nat} {qs : List RqM} (h : Wo w g x now ra rc qs) {sa : Option Addr} {sc : Nat} {S : List Int} (hS : BsAt w (.slice sa S.length sc) S) (hg : ∀ b, ab sa = some b → b ≠ g) :
    Wo ((w.setCell ⟨g, 6, none⟩ (.int .i64 1)).setCell ⟨g, 7, none⟩ (.slice sa S.length sc)) g { x with done := 1, ba := sa, bc := sc, body := S } now ra rc qs :=
  (h.set6 1 (by unfold i64ok; omega)).set7 (RowAt.ch1 hS hg (Ch1.set w g 6 _)) hg
set_option maxRecDepth 100000 in
set_option maxHeartbeats 2000000 in
theorem found_any {g : Nat} {x : FeV} {now : Int} {w : World} (h : Wo w g x now none 0 []) (hi : x.m.In) (r : RsV) (hr : r.ok w) (hl : r.body.length ≤ 100000) :
    Calls Tryz.prog 51 #[pg g, r.val] w fun e w' => WoPost g now x (x.m.foundM r) [] w e w' := by
  have HB := Lib.hid (Go.Joins.below_alloc1 w (.cells r.cells 42))
  have hx := h.below HB.out
  obtain ⟨-, -, c2, -⟩ := hx.cells
  have HC := Lib.hid (fun Z (hZ : Below (w.alloc (.cells r.cells 42)).heap.size (w.alloc (.cells r.cells 42)) Z) => containsP_any (.slice x.sa x.set.length x.sc) x.set r.frm Z (hx.ok.st.below hZ) (by have := hi.len; have : x.set.length ≤ 1000 := this; omega))
  have HR := Lib.hid (And.intro hr hl)
  have HU := Lib.hid h
  have HK := Lib.hid (fun Z (hZ : Below (w.alloc (.cells r.cells 42)).heap.size (w.alloc (.cells r.cells 42)) Z) => And.intro ((BoxC.new w 42 r.cells).below hZ) (HB.out.trans (hZ.mono HB.out.size)))
  obtain ⟨N, hN⟩ : ∃ N, x.set.length = N := ⟨_, rfl⟩
  rw [hN] at c2 HC
  obtain ⟨frm, kind, code, ledger, n, epoch, sure, ba, bc, body⟩ := r
  dsimp only [RsV.cells] at HB HC HK c2
  obtain ⟨m, hm⟩ : ∃ m, decide (frm ∈ x.set) = m := ⟨_, rfl⟩
  rw [hm] at HC
  have HM := Lib.hid hm
  clear h hi hx hr hl hN hm
  cases m with
  | false =>
    have HF := Lib.hid (show x.m.foundM ⟨frm, kind, code, ledger, n, epoch, sure, ba, bc, body⟩ = x.m from if_neg (of_decide_eq_false HM.out))
    go_enter Tryz.func51, Tryz.ntmps51
    go_wp2_with fail
    go_region_law (go_simp; (with_reducible refine Calls.mono (HC.out _ (by first | exact Below.refl _ _ | exact Below.drew (Below.refl _ _) | exact below_drewN (Below.refl _ _) _)) ?_); rintro e w1 ⟨rfl, hb1⟩; have HK1 := Lib.hid (HK.out w1 (by first | exact hb1 | exact Below.trans (Below.drew (Below.refl _ _)) hb1)); clear hb1)
    all_goals go_wp2
    all_goals go_end0
    all_goals rw [HF.out]
    all_goals exact HU.out.same ⟨_, rfl⟩ HK1.out.2
  | true =>
    have HF := Lib.hid (show x.m.foundM ⟨frm, kind, code, ledger, n, epoch, sure, ba, bc, body⟩ = { x.m with done := 1, body := body } from if_pos (of_decide_eq_true HM.out))
    have HBC := Lib.hid (fun Z (hZ : Below w.heap.size w Z) => bclone_any (.slice ba body.length bc) body Z (HR.out.1.bd.below hZ) HR.out.2)
    have HBO := Lib.hid (show ∀ q ∈ body, 0 ≤ q ∧ q ≤ 255 from HR.out.1.bd.each)
    obtain ⟨BL, hBL⟩ : ∃ BL, body.length = BL := ⟨_, rfl⟩
    rw [hBL] at HBC HB HC HK c2
    have HBL := Lib.hid hBL
    rw [show RsV.val ⟨frm, kind, code, ledger, n, epoch, sure, ba, bc, body⟩ = .agg #[.int .i64 frm.n, .int .u64 frm.s, .int .i64 kind, .int .i64 code, .int .u64 ledger, .int .u64 n, .int .u64 epoch, .int .u64 sure, .slice ba BL bc] from by rw [← hBL]]
    clear hBL
    go_enter Tryz.func51, Tryz.ntmps51
    go_wp2_with fail
    go_region_law (go_simp; (with_reducible refine Calls.mono (HC.out _ (by first | exact Below.refl _ _ | exact Below.drew (Below.refl _ _) | exact below_drewN (Below.refl _ _) _)) ?_); rintro e w1 ⟨rfl, hb1⟩; have HK1 := Lib.hid (HK.out w1 (by first | exact hb1 | exact Below.trans (Below.drew (Below.refl _ _)) hb1)); have b7 := HK1.out.1.cell 8; simp only [List.getElem?_toArray, List.getElem?_cons_succ, List.getElem?_cons_zero] at b7; clear hb1)
    all_goals go_wp2_with fail
    all_goals refine Calls.mono (HBC.out _ HK1.out.2) ?_
    all_goals rintro e w2 ⟨a2, c2', rfl, ho2, hb2⟩
    all_goals have hx2 := HU.out.below (HK1.out.2.trans (hb2.mono HK1.out.2.size))
    all_goals obtain ⟨-, -, -, -, -, -, k6, k7, -, -⟩ := hx2.cells
    all_goals have f2 := hx2.fz
    all_goals have HX2 := Lib.hid (And.intro hx2 (And.intro ho2 (HK1.out.2.trans (hb2.mono HK1.out.2.size))))
    all_goals have HS1 := Lib.hid HK1.out.2.size
    all_goals clear hx2 ho2 hb2 b7
    all_goals go_wp2
    all_goals go_end0
    all_goals rw [HF.out]
    all_goals (
      have hS : BsAt w2 (.slice a2 body.length c2') body := by rw [HBL.out]; exact OwnRow.at (fun _ => rfl) HX2.out.2.1 HBO.out
      have hne : ∀ b, ab a2 = some b → b ≠ g := fun b hb => by have := (OwnRow.ab HX2.out.2.1 b hb).1; have := HU.out.box.lt; have := HS1.out; omega
      have hd := HX2.out.1.done hS hne
      rw [HBL.out] at hd
      exact ⟨⟨_, rfl⟩, _, _, _, rfl, hd, ((Ch1.of HX2.out.2.2).trans (Ch1.set _ g 6 _)).trans (Ch1.set _ g 7 _), fun b hb => by
        rcases hb with (hb | hb) | hb
        · exact .inl (.inl hb)
        · exact .inr (Nat.le_trans HS1.out (OwnRow.ab HX2.out.2.1 b hb).1)
        · cases hb⟩)
/-- what an answer comes to -/
def FeM.takeM (m : FeM) (now : Int) (r : RsV) : FeM × List RqM :=
  if m.fits r then
    if r.code = 0 then (m.foundM r, [])
    else if r.code = 3 ∨ r.code = 2 ∨ r.code = 1 then (if m.cur = r.frm then m.passM now else (m, []))
    else if r.code = 4 then (if m.cur.n = r.frm.n then m.passM now else (m, []))
    else (m, [])
  else (m, [])
theorem takeM_no {m : FeM} {now : Int} {r : RsV} (h : ¬ m.fits r) : m.takeM now r = (m, []) := if_neg h
theorem takeM_0 {m : FeM} {now : Int} {r : RsV} (h : m.fits r) (hc : r.code = 0) : m.takeM now r = (m.foundM r, []) := by unfold FeM.takeM; rw [if_pos h, if_pos hc]
theorem takeM_1 {m : FeM} {now : Int} {r : RsV} (h : m.fits r) (hc : r.code = 3 ∨ r.code = 2 ∨ r.code = 1) : m.takeM now r = if m.cur = r.frm then m.passM now else (m, []) := by unfold FeM.takeM; rw [if_pos h, if_neg (by omega), if_pos hc]
theorem takeM_4 {m : FeM} {now : Int} {r : RsV} (h : m.fits r) (hc : r.code = 4) : m.takeM now r = if m.cur.n = r.frm.n then m.passM now else (m, []) := by unfold FeM.takeM; rw [if_pos h, if_neg (by omega), if_neg (by omega), if_pos hc]
theorem takeM_x {m : FeM} {now : Int} {r : RsV} (hc : ¬ r.code = 0 ∧ ¬ r.code = 1 ∧ ¬ r.code = 2 ∧ ¬ r.code = 3 ∧ ¬ r.code = 4) : m.takeM now r = (m, []) := by
  unfold FeM.takeM
  split
  · rw [if_neg hc.1, if_neg (by omega), if_neg hc.2.2.2.2]
  · rfl
end Go.Proofs.YtpihogkhfmijcaaGreat
namespace Go.Proofs.YtpihogkhfmijcaaGreat
open Go.RowKit Go.Maps Go.Shelf
set_option linter.unusedSimpArgs false
set_option maxRecDepth 100000 in
set_option maxHeartbeats 8000000 in
theorem take_any {g : Nat} {x : FeV} {now : Int} {w : World} (h : Wo w g x now none 0 []) (hi : x.m.In) (r : RsV) (hr : r.ok w) (hl : r.body.length ≤ 100000) :
    Calls Tryz.prog 34 #[pg g, r.val] w fun e w' => WoPost g now x (x.m.takeM now r).1 (x.m.takeM now r).2 w e w' := by
  have HB := Lib.hid (Go.Joins.below_alloc1 w (.cells r.cells 42))
  have HA := Lib.hid (answers_any (h.below HB.out) r)
  have HK := Lib.hid (fun Z (hZ : Below (w.alloc (.cells r.cells 42)).heap.size (w.alloc (.cells r.cells 42)) Z) => And.intro ((BoxC.new w 42 r.cells).below hZ) (HB.out.trans (hZ.mono HB.out.size)))
  have HU := Lib.hid h
  have HFO := Lib.hid (fun Z (hZ : Below w.heap.size w Z) => found_any (h.below hZ) hi r (hr.below hZ) hl)
  have HRE := Lib.hid (fun Z (hZ : Below w.heap.size w Z) (hb : BoxC Z w.heap.size 42 r.cells) => refused_any (h.below hZ) hi (asks42 hb))
  have HRS := Lib.hid (fun Z (hZ : Below w.heap.size w Z) (hb : BoxC Z w.heap.size 42 r.cells) => refused_any (h.below hZ) hi (asks43 hb))
  have HT := Lib.hid (And.intro (@takeM_no x.m now r) (And.intro (@takeM_0 x.m now r) (And.intro (@takeM_1 x.m now r) (And.intro (@takeM_4 x.m now r) (@takeM_x x.m now r)))))
  obtain ⟨T, hT⟩ : ∃ T, x.m.takeM now r = T := ⟨_, rfl⟩
  rw [hT] at HT ⊢
  obtain ⟨b, hb⟩ : ∃ b, decide (x.m.fits r) = b := ⟨_, rfl⟩
  rw [hb] at HA
  have HBB := Lib.hid hb
  obtain ⟨frm, kind, code, ledger, n, epoch, sure, ba, bc, body⟩ := r
  dsimp only [RsV.cells] at HB HA HK HRE HRS HT
  clear h hi hr hl hT hb
  cases b with
  | false =>
    have HN := Lib.hid (HT.out.1 (of_decide_eq_false HBB.out))
    go_enter Tryz.func34, Tryz.ntmps34
    go_wp2_with fail
    refine HA.out.mono ?_
    rintro e w1 ⟨rfl, hb1⟩
    have HK1 := Lib.hid (HK.out w1 hb1)
    clear hb1
    go_wp2
    go_end0
    rw [HN.out]
    exact HU.out.same ⟨_, rfl⟩ HK1.out.2
  | true =>
    have HFT := Lib.hid (of_decide_eq_true HBB.out)
    rcases Classical.em (code = 0) with h0 | h0
    · subst h0
      have HN := Lib.hid (HT.out.2.1 HFT.out rfl)
      go_enter Tryz.func34, Tryz.ntmps34
      go_wp2_with fail
      refine HA.out.mono ?_
      rintro e w1 ⟨rfl, hb1⟩
      have HK1 := Lib.hid (HK.out w1 hb1)
      have b0 := HK1.out.1.cell 0
      have b1 := HK1.out.1.cell 1
      have b2 := HK1.out.1.cell 2
      have b3 := HK1.out.1.cell 3
      have b4 := HK1.out.1.cell 4
      have b5 := HK1.out.1.cell 5
      have b6 := HK1.out.1.cell 6
      have b7 := HK1.out.1.cell 7
      have b8 := HK1.out.1.cell 8
      simp only [List.getElem?_toArray, List.getElem?_cons_succ, List.getElem?_cons_zero] at b0 b1 b2 b3 b4 b5 b6 b7 b8
      have HC := Lib.hid (HFO.out w1 HK1.out.2)
      clear hb1
      go_wp2_with fail
      refine HC.out.mono ?_
      rintro e w2 ⟨⟨v, rfl⟩, hq⟩
      have HQ := Lib.hid (WoPost.trans (x := x) (e := .returned (.tuple #[])) ⟨⟨_, rfl⟩, hq⟩ (Ch1.of HK1.out.2) (fun _ h => .inl h))
      clear hq
      go_wp2
      go_end0
      rw [HN.out]
      exact HQ.out
    · have e0 : (code == 0) = false := by simpa using h0
      rcases Classical.em (code = 3) with h3 | h3
      · subst h3
        have HN := Lib.hid (HT.out.2.2.1 HFT.out (by decide))
        go_enter Tryz.func34, Tryz.ntmps34
        go_wp2_with fail
        refine HA.out.mono ?_
        rintro e w1 ⟨rfl, hb1⟩
        have HK1 := Lib.hid (HK.out w1 hb1)
        have b0 := HK1.out.1.cell 0
        have b1 := HK1.out.1.cell 1
        have b2 := HK1.out.1.cell 2
        have b3 := HK1.out.1.cell 3
        have b4 := HK1.out.1.cell 4
        have b5 := HK1.out.1.cell 5
        have b6 := HK1.out.1.cell 6
        have b7 := HK1.out.1.cell 7
        have b8 := HK1.out.1.cell 8
        simp only [List.getElem?_toArray, List.getElem?_cons_succ, List.getElem?_cons_zero] at b0 b1 b2 b3 b4 b5 b6 b7 b8
        have HC := Lib.hid (HRE.out w1 HK1.out.2 HK1.out.1)
        clear hb1
        go_wp2_with fail
        refine HC.out.mono ?_
        intro e w2 hq
        have hv : ∃ v, e = .returned v := by
          split at hq <;> exact hq.1
        obtain ⟨v, rfl⟩ := hv
        have HQ := Lib.hid hq
        clear hq
        go_wp2
        go_end0
        rw [HN.out]
        have hq := HQ.out
        by_cases hc : x.m.cur = frm
        · rw [if_pos (decide_eq_true hc)] at hq
          rw [if_pos hc]
          exact WoPost.trans ⟨⟨_, rfl⟩, hq.2⟩ (Ch1.of HK1.out.2) (fun _ h => .inl h)
        · rw [if_neg (by simpa using hc)] at hq
          rw [if_neg hc]
          exact WoPost.trans ⟨⟨_, rfl⟩, hq.2⟩ (Ch1.of HK1.out.2) (fun _ h => .inl h)
      · have e3 : (code == 3) = false := by simpa using h3
        rcases Classical.em (code = 2) with h2 | h2
        · subst h2
          have HN := Lib.hid (HT.out.2.2.1 HFT.out (by decide))
          go_enter Tryz.func34, Tryz.ntmps34
          go_wp2_with fail
          refine HA.out.mono ?_
          rintro e w1 ⟨rfl, hb1⟩
          have HK1 := Lib.hid (HK.out w1 hb1)
          have b0 := HK1.out.1.cell 0
          have b1 := HK1.out.1.cell 1
          have b2 := HK1.out.1.cell 2
          have b3 := HK1.out.1.cell 3
          have b4 := HK1.out.1.cell 4
          have b5 := HK1.out.1.cell 5
          have b6 := HK1.out.1.cell 6
          have b7 := HK1.out.1.cell 7
          have b8 := HK1.out.1.cell 8
          simp only [List.getElem?_toArray, List.getElem?_cons_succ, List.getElem?_cons_zero] at b0 b1 b2 b3 b4 b5 b6 b7 b8
          have HC := Lib.hid (HRE.out w1 HK1.out.2 HK1.out.1)
          clear hb1
          go_wp2_with fail
          refine HC.out.mono ?_
          intro e w2 hq
          have hv : ∃ v, e = .returned v := by
            split at hq <;> exact hq.1
          obtain ⟨v, rfl⟩ := hv
          have HQ := Lib.hid hq
          clear hq
          go_wp2
          go_end0
          rw [HN.out]
          have hq := HQ.out
          by_cases hc : x.m.cur = frm
          · rw [if_pos (decide_eq_true hc)] at hq
            rw [if_pos hc]
            exact WoPost.trans ⟨⟨_, rfl⟩, hq.2⟩ (Ch1.of HK1.out.2) (fun _ h => .inl h)
          · rw [if_neg (by simpa using hc)] at hq
            rw [if_neg hc]
            exact WoPost.trans ⟨⟨_, rfl⟩, hq.2⟩ (Ch1.of HK1.out.2) (fun _ h => .inl h)
        · have e2 : (code == 2) = false := by simpa using h2
          rcases Classical.em (code = 1) with h1 | h1
          · subst h1
            have HN := Lib.hid (HT.out.2.2.1 HFT.out (by decide))
            go_enter Tryz.func34, Tryz.ntmps34
            go_wp2_with fail
            refine HA.out.mono ?_
            rintro e w1 ⟨rfl, hb1⟩
            have HK1 := Lib.hid (HK.out w1 hb1)
            have b0 := HK1.out.1.cell 0
            have b1 := HK1.out.1.cell 1
            have b2 := HK1.out.1.cell 2
            have b3 := HK1.out.1.cell 3
            have b4 := HK1.out.1.cell 4
            have b5 := HK1.out.1.cell 5
            have b6 := HK1.out.1.cell 6
            have b7 := HK1.out.1.cell 7
            have b8 := HK1.out.1.cell 8
            simp only [List.getElem?_toArray, List.getElem?_cons_succ, List.getElem?_cons_zero] at b0 b1 b2 b3 b4 b5 b6 b7 b8
            have HC := Lib.hid (HRE.out w1 HK1.out.2 HK1.out.1)
            clear hb1
            go_wp2_with fail
            refine HC.out.mono ?_
            intro e w2 hq
            have hv : ∃ v, e = .returned v := by
              split at hq <;> exact hq.1
            obtain ⟨v, rfl⟩ := hv
            have HQ := Lib.hid hq
            clear hq
            go_wp2
            go_end0
            rw [HN.out]
            have hq := HQ.out
            by_cases hc : x.m.cur = frm
            · rw [if_pos (decide_eq_true hc)] at hq
              rw [if_pos hc]
              exact WoPost.trans ⟨⟨_, rfl⟩, hq.2⟩ (Ch1.of HK1.out.2) (fun _ h => .inl h)
            · rw [if_neg (by simpa using hc)] at hq
              rw [if_neg hc]
              exact WoPost.trans ⟨⟨_, rfl⟩, hq.2⟩ (Ch1.of HK1.out.2) (fun _ h => .inl h)
          · have e1 : (code == 1) = false := by simpa using h1
            rcases Classical.em (code = 4) with h4 | h4
            · subst h4
              have HN := Lib.hid (HT.out.2.2.2.1 HFT.out rfl)
              go_enter Tryz.func34, Tryz.ntmps34
              go_wp2_with fail
              refine HA.out.mono ?_
              rintro e w1 ⟨rfl, hb1⟩
              have HK1 := Lib.hid (HK.out w1 hb1)
              have b0 := HK1.out.1.cell 0
              have b1 := HK1.out.1.cell 1
              have b2 := HK1.out.1.cell 2
              have b3 := HK1.out.1.cell 3
              have b4 := HK1.out.1.cell 4
              have b5 := HK1.out.1.cell 5
              have b6 := HK1.out.1.cell 6
              have b7 := HK1.out.1.cell 7
              have b8 := HK1.out.1.cell 8
              simp only [List.getElem?_toArray, List.getElem?_cons_succ, List.getElem?_cons_zero] at b0 b1 b2 b3 b4 b5 b6 b7 b8
              have HC := Lib.hid (HRS.out w1 HK1.out.2 HK1.out.1)
              clear hb1
              go_wp2_with fail
              refine HC.out.mono ?_
              intro e w2 hq
              have hv : ∃ v, e = .returned v := by
                split at hq <;> exact hq.1
              obtain ⟨v, rfl⟩ := hv
              have HQ := Lib.hid hq
              clear hq
              go_wp2
              go_end0
              rw [HN.out]
              have hq := HQ.out
              by_cases hc : x.m.cur.n = frm.n
              · rw [if_pos (decide_eq_true hc)] at hq
                rw [if_pos hc]
                exact WoPost.trans ⟨⟨_, rfl⟩, hq.2⟩ (Ch1.of HK1.out.2) (fun _ h => .inl h)
              · rw [if_neg (by simpa using hc)] at hq
                rw [if_neg hc]
                exact WoPost.trans ⟨⟨_, rfl⟩, hq.2⟩ (Ch1.of HK1.out.2) (fun _ h => .inl h)
            · have e4 : (code == 4) = false := by simpa using h4
              have HN := Lib.hid (HT.out.2.2.2.2 ⟨h0, h1, h2, h3, h4⟩)
              clear h0 h1 h2 h3 h4
              go_enter Tryz.func34, Tryz.ntmps34
              go_wp2_with fail
              refine HA.out.mono ?_
              rintro e w1 ⟨rfl, hb1⟩
              have HK1 := Lib.hid (HK.out w1 hb1)
              have b0 := HK1.out.1.cell 0
              have b1 := HK1.out.1.cell 1
              have b2 := HK1.out.1.cell 2
              have b3 := HK1.out.1.cell 3
              have b4 := HK1.out.1.cell 4
              have b5 := HK1.out.1.cell 5
              have b6 := HK1.out.1.cell 6
              have b7 := HK1.out.1.cell 7
              have b8 := HK1.out.1.cell 8
              simp only [List.getElem?_toArray, List.getElem?_cons_succ, List.getElem?_cons_zero] at b0 b1 b2 b3 b4 b5 b6 b7 b8
              clear hb1
              go_wp2
              go_end0
              rw [HN.out]
              exact HU.out.same ⟨_, rfl⟩ HK1.out.2
end Go.Proofs.YtpihogkhfmijcaaGreat
namespace Go.Proofs.YtpihogkhfmijcaaGreat
open Go.RowKit Go.Maps Go.Shelf
set_option linter.unusedSimpArgs false
/-- a fetch whose memory is new -/
structure FeNew (w w' : World) (y : FeV) (m : FeM) : Prop where
  m : y.m = m
  ok : y.ok w'
  sn : ∀ b, ab y.sa = some b → w.heap.size ≤ b
  bn : ∀ b, ab y.ba = some b → w.heap.size ≤ b
  old : (∀ b, ab y.sa = some b → b < w'.heap.size) ∧ (∀ b, ab y.ba = some b → b < w'.heap.size)
  bel : Below w.heap.size w w'
/-- the cells of a fetch in a block -/
def C8 (W : World) (g : Nat) (x : FeV) : Prop := W.cell? ⟨g, 0, none⟩ = some (.int .u64 x.id) ∧ W.cell? ⟨g, 1, none⟩ = some (.int .u64 x.n) ∧ W.cell? ⟨g, 2, none⟩ = some (.slice x.sa x.set.length x.sc) ∧ W.cell? ⟨g, 3, none⟩ = some (.int .i64 x.at') ∧ W.cell? ⟨g, 4, none⟩ = some (.int .u64 x.since) ∧ W.cell? ⟨g, 5, none⟩ = some (.int .u64 x.tag) ∧ W.cell? ⟨g, 6, none⟩ = some (.int .i64 x.done) ∧ W.cell? ⟨g, 7, none⟩ = some (.slice x.ba x.body.length x.bc)
theorem FeV.c8 {W : World} {g : Nat} {x : FeV} (h : BoxC W g 32 x.cs.toArray) : C8 W g x := ⟨h.cell 0, h.cell 1, h.cell 2, h.cell 3, h.cell 4, h.cell 5, h.cell 6, h.cell 7⟩
/-- there are eight cells -/
def T8 (W : World) (g : Nat) : Prop := W.cell? ⟨g, 0, none⟩ = some (.int .u64 0) ∧ W.cell? ⟨g, 1, none⟩ = some (.int .u64 0) ∧ W.cell? ⟨g, 2, none⟩ = some (.slice none 0 0) ∧ W.cell? ⟨g, 3, none⟩ = some (.int .i64 0) ∧ W.cell? ⟨g, 4, none⟩ = some (.int .u64 0) ∧ W.cell? ⟨g, 5, none⟩ = some (.int .u64 0) ∧ W.cell? ⟨g, 6, none⟩ = some (.int .i64 0) ∧ W.cell? ⟨g, 7, none⟩ = some (.slice none 0 0)
theorem t8 {W : World} {g : Nat} (h : BoxC W g 32 zero32) : T8 W g := ⟨h.cell 0, h.cell 1, h.cell 2, h.cell 3, h.cell 4, h.cell 5, h.cell 6, h.cell 7⟩
theorem Below.sets {base : Nat} {w W : World} {g : Nat} (hg : base ≤ g) (vs : List Value) (h : Below base w W) : Below base w (W.setCells g 0 vs) := setCells_below g hg vs 0 h
theorem Ch1.sets (W : World) (g : Nat) (vs : List Value) : Ch1 g W (W.setCells g 0 vs) := chg_setCells g vs 0 W W (Chg.refl _ _) rfl
set_option maxRecDepth 100000 in
set_option maxHeartbeats 2000000 in
theorem own_any (m : FeV) (w : World) (h : m.ok w) (h1 : m.set.length ≤ 100000) (h2 : m.body.length ≤ 100000) :
    Calls Tryz.prog 48 #[m.val] w fun e w' => ∃ y : FeV, e = .returned y.val ∧ FeNew w w' y m.m := by
  obtain ⟨W, hW⟩ : ∃ W, W = (w.alloc (.cells m.cs.toArray 32)).alloc (.cells zero32 32) := ⟨_, rfl⟩
  have hbel : Below w.heap.size w W := by rw [hW]; exact Go.Joins.below_alloc2 w _ _
  have hsz : W.heap.size = w.heap.size + 1 + 1 := by rw [hW]; simp only [World.size_alloc]
  have hB : BoxC W w.heap.size 32 m.cs.toArray := by rw [hW]; exact (BoxC.new _ _ _).alloc _
  have hR : BoxC W (w.heap.size + 1) 32 zero32 := by
    rw [hW]
    have := BoxC.new (w.alloc (.cells m.cs.toArray 32)) 32 zero32
    rwa [World.size_alloc] at this
  have HC1 := Lib.hid (clone_any (.slice m.sa m.set.length m.sc) m.set W (h.st.below hbel) h1)
  have HC2 := Lib.hid (fun Z (hZ : Below w.heap.size w Z) => bclone_any (.slice m.ba m.body.length m.bc) m.body Z (h.bd.below hZ) h2)
  have HW := Lib.hid (And.intro hbel (And.intro hsz (And.intro hB hR)))
  have HOK := Lib.hid h
  obtain ⟨-, -, c2, -, -, -, -, -⟩ := FeV.c8 hB
  clear hbel hsz hB hR h1 h2 h
  simp only [FeV.cs, zero32] at hW
  go_enter Tryz.func48, Tryz.ntmps48
  go_wp2_with fail
  rw [← hW]
  clear hW
  go_wp2_with fail
  refine HC1.out.mono ?_
  rintro e w1 ⟨v1, rfl, ho1, hb1⟩
  obtain ⟨a1, k1, rfl⟩ := OwnPs.form ho1 HOK.out.st.ok
  have HB1 := Lib.hid (HW.out.2.2.1.below hb1)
  have HR1 := Lib.hid (HW.out.2.2.2.below hb1)
  have HP1 := Lib.hid (And.intro ho1 (And.intro hb1 (HW.out.1.trans (hb1.mono HW.out.1.size))))
  have d2 := HB1.out.cell 2
  have f1 := HB1.out.fz
  clear c2 ho1 hb1 HC1
  simp only [FeV.cs, List.getElem?_toArray, List.getElem?_cons_succ, List.getElem?_cons_zero] at d2
  have HB2 := Lib.hid (HB1.out.set 2 (.slice a1 m.set.length k1))
  have HL2 := Lib.hid (HP1.out.2.2.setCell (p := ⟨w.heap.size, 2, none⟩) (Nat.le_refl _) (.slice a1 m.set.length k1))
  have HR2 := Lib.hid (HR1.out.other (show w.heap.size + 1 ≠ w.heap.size by omega) 2 (.slice a1 m.set.length k1))
  have c7 := HB2.out.cell 7
  simp only [FeV.cs, List.getElem?_toArray, List.getElem?_cons_succ, List.getElem?_cons_zero, List.setIfInBounds_toArray, List.set_cons_succ, List.set_cons_zero] at c7
  have HC3 := Lib.hid (HC2.out _ HL2.out)
  clear HC2
  go_wp2_with fail
  refine HC3.out.mono ?_
  rintro e w2 ⟨a2, k2, rfl, ho2, hb2⟩
  obtain ⟨y, hy⟩ : ∃ y : FeV, y = { m with sa := a1, sc := k1, ba := a2, bc := k2 } := ⟨_, rfl⟩
  have hb2' := HL2.out.trans (hb2.mono HL2.out.size)
  have hB3 : BoxC (w2.setCell ⟨w.heap.size, 7, none⟩ (.slice a2 m.body.length k2)) w.heap.size 32 y.cs.toArray := by rw [hy]; exact (HB2.out.below hb2).set 7 (.slice a2 m.body.length k2)
  have hR3 : BoxC (w2.setCell ⟨w.heap.size, 7, none⟩ (.slice a2 m.body.length k2)) (w.heap.size + 1) 32 zero32 := (HR2.out.below hb2).other (show w.heap.size + 1 ≠ w.heap.size by omega) 7 _
  have e7 := (HB2.out.below hb2).cell 7
  have g7 := (HB2.out.below hb2).fz
  simp only [FeV.cs, List.getElem?_toArray, List.getElem?_cons_succ, List.getElem?_cons_zero, List.setIfInBounds_toArray, List.set_cons_succ, List.set_cons_zero] at e7
  have HFIN := Lib.hid (show BoxC ((w2.setCell ⟨w.heap.size, 7, none⟩ (.slice a2 m.body.length k2)).setCells (w.heap.size + 1) 0 y.cs) (w.heap.size + 1) 32 y.cs.toArray ∧ FeNew w ((w2.setCell ⟨w.heap.size, 7, none⟩ (.slice a2 m.body.length k2)).setCells (w.heap.size + 1) 0 y.cs) y m.m from by
    refine ⟨hR3.full y.cs rfl, ⟨by rw [hy]; rfl, ⟨by rw [hy]; exact HOK.out.nums, ?_, ?_⟩, fun b hb => ?_, fun b hb => ?_, ⟨fun b hb => ?_, fun b hb => ?_⟩, Below.sets (by omega) _ (hb2'.setCell (p := ⟨w.heap.size, 7, none⟩) (Nat.le_refl _) _)⟩⟩
    · rw [hy]
      have hlo : ∀ b, ab a1 = some b → w.heap.size + 1 + 1 ≤ b := fun b hb => by have := (OwnRow.ab HP1.out.1 b hb).1; have := HW.out.2.1; omega
      have q1 := OwnPs.at HP1.out.1 HOK.out.st.ok
      have q2 := RowAt.ch1 q1 (fun b hb => by have := hlo b hb; omega) (Ch1.set w1 w.heap.size 2 (.slice a1 m.set.length k1))
      have q3 := PsAt.below q2 hb2
      have q4 := RowAt.ch1 q3 (fun b hb => by have := hlo b hb; omega) (Ch1.set w2 w.heap.size 7 (.slice a2 m.body.length k2))
      exact RowAt.ch1 q4 (fun b hb => by have := hlo b hb; omega) (Ch1.sets _ (w.heap.size + 1) _)
    · rw [hy]
      have hlo : ∀ b, ab a2 = some b → w.heap.size + 1 + 1 ≤ b := fun b hb => by have := (OwnRow.ab ho2 b hb).1; have h3 := HP1.out.2.1.size; have := HW.out.2.1; rw [setCell_size] at *; omega
      have q1 : BsAt w2 (.slice a2 m.body.length k2) m.body := OwnRow.at (fun _ => rfl) ho2 HOK.out.bd.each
      have q4 := RowAt.ch1 q1 (fun b hb => by have := hlo b hb; omega) (Ch1.set w2 w.heap.size 7 (.slice a2 m.body.length k2))
      exact RowAt.ch1 q4 (fun b hb => by have := hlo b hb; omega) (Ch1.sets _ (w.heap.size + 1) _)
    · rw [hy] at hb
      have := (OwnRow.ab HP1.out.1 b hb).1
      have := HW.out.2.1
      omega
    · rw [hy] at hb
      have := (OwnRow.ab ho2 b hb).1
      have h3 := HP1.out.2.1.size
      have := HW.out.2.1
      rw [setCell_size] at *
      omega
    · rw [hy] at hb
      have := (OwnRow.ab HP1.out.1 b hb).2
      have := hb2.size
      rw [setCells_size]
      simp only [setCell_size] at *
      omega
    · rw [hy] at hb
      have := (OwnRow.ab ho2 b hb).2
      rw [setCells_size]
      simp only [setCell_size] at *
      omega)
  obtain ⟨q0, q1, q2, q3, q4, q5, q6, q7⟩ := FeV.c8 hB3
  obtain ⟨r0, r1, r2, r3, r4, r5, r6, r7⟩ := t8 hR3
  have g8 := hR3.fz
  have HYY := Lib.hid hy
  clear hy hb2' hB3 hR3 ho2 hb2 c7 d2 f1
  go_wp2
  refine bodyPost_ret (results_f1 rfl _ _ (w.heap.size + 1) y rfl HFIN.out.1) rfl ?_
  exact ⟨y, rfl, HFIN.out.2⟩
end Go.Proofs.YtpihogkhfmijcaaGreat
