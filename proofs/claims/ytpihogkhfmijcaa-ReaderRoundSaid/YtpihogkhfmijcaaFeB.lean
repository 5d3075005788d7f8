/- An answer; what it fits; the entry found; refused. -/
import Derived.Test.YtpihogkhfmijcaaFeP
namespace Go.Proofs.Ytpihogkhfmijcaa
open Go.RowKit Go.Maps Go.Shelf
set_option linter.unusedSimpArgs false
/-- an answer, and where it lies -/
structure RsV where
  frm : PL
  kind : Int
  code : Int
  ledger : Int
  n : Int
  epoch : Int
  sure : Int
  ba : Option Addr
  bc : Nat
  body : List Int
def RsV.cells (r : RsV) : Array Value := #[.int .i64 r.frm.n, .int .u64 r.frm.s, .int .i64 r.kind, .int .i64 r.code, .int .u64 r.ledger, .int .u64 r.n, .int .u64 r.epoch, .int .u64 r.sure, .slice r.ba r.body.length r.bc]
abbrev RsV.val (r : RsV) : Value := .agg #[.int .i64 r.frm.n, .int .u64 r.frm.s, .int .i64 r.kind, .int .i64 r.code, .int .u64 r.ledger, .int .u64 r.n, .int .u64 r.epoch, .int .u64 r.sure, .slice r.ba r.body.length r.bc]
structure RsV.ok (w : World) (r : RsV) : Prop where
  frm : r.frm.ok
  bd : BsAt w (.slice r.ba r.body.length r.bc) r.body
theorem RsV.ok.below {w w' : World} {r : RsV} (h : r.ok w) (hb : Below w.heap.size w w') : r.ok w' := ⟨h.frm, h.bd.below hb⟩
/-- does an answer fit what was asked? -/
def FeM.fits (m : FeM) (r : RsV) : Prop := r.kind = 3 ∧ r.ledger = m.id ∧ r.n = m.n ∧ r.epoch = m.tag
instance (m : FeM) (r : RsV) : Decidable (m.fits r) := by unfold FeM.fits; exact inferInstance
set_option maxRecDepth 100000 in
set_option maxHeartbeats 8000000 in
theorem answers_any {g : Nat} {x : FeV} {now : Int} {w : World} (h : Wo w g x now none 0 []) (r : RsV) :
    Calls Try.prog 39 #[pg g, r.val] w fun e w' => e = .returned (.bool (decide (x.m.fits r))) ∧ Below w.heap.size w w' := by
  have HB := Lib.hid (Go.Joins.below_alloc1 w (.cells r.cells 40))
  obtain ⟨W, hW⟩ : ∃ W, W = w.alloc (.cells r.cells 40) := ⟨_, rfl⟩
  have hwo : Wo W g x now none 0 [] := by rw [hW]; exact h.below HB.out
  have hbx : BoxC W w.heap.size 40 r.cells := by rw [hW]; exact BoxC.new _ _ _
  have hbl : Below w.heap.size w W := by rw [hW]; exact HB.out
  obtain ⟨c0, c1, -, -, -, c5, -⟩ := hwo.cells
  have b2 := hbx.cell 2
  have b4 := hbx.cell 4
  have b5 := hbx.cell 5
  have b6 := hbx.cell 6
  obtain ⟨frm, kind, code, ledger, n, epoch, sure, ba, bc, body⟩ := r
  simp only [RsV.cells, List.getElem?_toArray, List.getElem?_cons_succ, List.getElem?_cons_zero] at b2 b4 b5 b6
  dsimp only [RsV.cells] at hW
  have HL := Lib.hid hbl
  clear h hwo hbx hbl HB
  rcases Classical.em (kind = 3) with h0 | h0
  · subst h0
    rcases Classical.em (ledger = x.id) with h1 | h1
    · subst h1
      rcases Classical.em (n = x.n) with h2 | h2
      · subst h2
        rcases Classical.em (epoch = x.tag) with h3 | h3
        · subst h3
          have HT := Lib.hid (show decide (x.m.fits ⟨frm, 3, code, x.id, x.n, x.tag, sure, ba, bc, body⟩) = true from decide_eq_true ⟨rfl, rfl, rfl, rfl⟩)
          go_enter Try.func39, Try.ntmps39
          go_wp2_with fail
          rw [← hW]
          clear hW
          go_quiet (fail)
          go_wp2
          go_ret
          rw [HT.out]
          exact ⟨rfl, drewN_below HL.out _⟩
        · have HT := Lib.hid (show decide (x.m.fits ⟨frm, 3, code, x.id, x.n, epoch, sure, ba, bc, body⟩) = false from decide_eq_false fun hh => h3 hh.2.2.2)
          have dk : (epoch == x.tag) = false := by simpa using h3
          have dk2 : decide (epoch = x.tag) = false := decide_eq_false h3
          clear h3
          go_enter Try.func39, Try.ntmps39
          go_wp2_with fail
          rw [← hW]
          clear hW
          go_quiet (fail)
          go_wp2
          go_ret
          rw [HT.out]
          exact ⟨rfl, drewN_below HL.out _⟩
      · have HT := Lib.hid (show decide (x.m.fits ⟨frm, 3, code, x.id, n, epoch, sure, ba, bc, body⟩) = false from decide_eq_false fun hh => h2 hh.2.2.1)
        have dk : (n == x.n) = false := by simpa using h2
        have dk2 : decide (n = x.n) = false := decide_eq_false h2
        clear h2
        go_enter Try.func39, Try.ntmps39
        go_wp2_with fail
        rw [← hW]
        clear hW
        go_quiet (fail)
        go_wp2
        go_ret
        rw [HT.out]
        exact ⟨rfl, drewN_below HL.out _⟩
    · have HT := Lib.hid (show decide (x.m.fits ⟨frm, 3, code, ledger, n, epoch, sure, ba, bc, body⟩) = false from decide_eq_false fun hh => h1 hh.2.1)
      have dk : (ledger == x.id) = false := by simpa using h1
      have dk2 : decide (ledger = x.id) = false := decide_eq_false h1
      clear h1
      go_enter Try.func39, Try.ntmps39
      go_wp2_with fail
      rw [← hW]
      clear hW
      go_quiet (fail)
      go_wp2
      go_ret
      rw [HT.out]
      exact ⟨rfl, drewN_below HL.out _⟩
  · have HT := Lib.hid (show decide (x.m.fits ⟨frm, kind, code, ledger, n, epoch, sure, ba, bc, body⟩) = false from decide_eq_false fun hh => h0 hh.1)
    have dk : (kind == 3) = false := by simpa using h0
    have dk2 : decide (kind = 3) = false := decide_eq_false h0
    clear h0
    go_enter Try.func39, Try.ntmps39
    go_wp2_with fail
    rw [← hW]
    clear hW
    go_quiet (fail)
    go_wp2
    go_ret
    rw [HT.out]
    exact ⟨rfl, drewN_below HL.out _⟩
end Go.Proofs.Ytpihogkhfmijcaa
