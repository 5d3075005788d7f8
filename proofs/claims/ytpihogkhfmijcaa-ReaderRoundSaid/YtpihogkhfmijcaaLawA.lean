/- The document's Has and Same; is a call long? -/
import Derived.Test.YtpihogkhfmijcaaFeR
import Derived.Test.YtpihogkhfmijcaaRefSet
namespace Go.Proofs.Ytpihogkhfmijcaa
open Go.RowKit Go.Maps Go.Shelf
set_option maxRecDepth 100000 in
set_option maxHeartbeats 1000000 in
theorem rhas_any (v : Value) (l : List PL) (x : PL) (w : World) (hp : PsAt w v l) (hl : l.length ≤ 100000) :
    Calls Try.prog 14 #[v, x.val] w fun e w' => e = .returned (.bool (l.contains x)) ∧ Below w.heap.size w w' := by
  have HP := Lib.hid hp
  obtain ⟨a, cap, rfl, hlen, -⟩ := hp
  obtain ⟨L, hL⟩ : ∃ L, l.length = L := ⟨_, rfl⟩
  rw [hL] at hlen HP hl ⊢
  have HL := Lib.hid hL
  clear hL
  obtain ⟨W, hW⟩ : ∃ W, W = w.alloc (.cells #[.int .i64 x.n, .int .u64 x.s] 38) := ⟨_, rfl⟩
  have hB : Below w.heap.size w W := by rw [hW]; exact Go.Joins.below_alloc1 w _
  have hsz : W.heap.size = w.heap.size + 1 := by rw [hW, World.size_alloc]
  have x0 : W.cell? ⟨w.heap.size, 0, none⟩ = some (.int .i64 x.n) := by rw [hW, World.cell?_alloc_new]; rfl
  have x1 : W.cell? ⟨w.heap.size, 1, none⟩ = some (.int .u64 x.s) := by rw [hW, World.cell?_alloc_new]; rfl
  have HX : Hid (∀ W', Below W.heap.size W W' → (W'.cell? ⟨w.heap.size, 0, none⟩ = some (.int .i64 x.n) ∧ W'.cell? ⟨w.heap.size, 1, none⟩ = some (.int .u64 x.s)) ∧ Below w.heap.size w W') := fun W' h =>
    ⟨⟨(h.cell (p := ⟨w.heap.size, 0, none⟩) (by show w.heap.size < W.heap.size; omega)).trans x0, (h.cell (p := ⟨w.heap.size, 1, none⟩) (by show w.heap.size < W.heap.size; omega)).trans x1⟩, hB.trans (h.mono hB.size)⟩
  clear x0 x1 hsz hB
  go_enter Try.func14, Try.ntmps14
  go_wp2
  rw [← hW]
  clear hW
  go_loopw [5] (fun i wr => ∃ k : Nat, k ≤ L ∧ i = .int .i64 (k : Nat) ∧ Hid ((l.take k).contains x = false ∧ Below W.heap.size W wr)) (fun i _ => L - (intOf i).toNat)
  case atStart => exact ⟨0, Nat.zero_le _, rfl, by simp, Below.refl _ _⟩
  case round =>
    obtain ⟨k, hk, rfl, HR⟩ := hrel
    by_cases hlt : k < L
    · obtain ⟨y, hy⟩ : ∃ y, l[k]? = some y := ⟨_, List.getElem?_eq_getElem (by rw [HL.out]; exact hlt)⟩
      have hltz : (k : Int) < (L : Int) := by omega
      obtain ⟨r3, r4⟩ := HR.out
      obtain ⟨⟨x0, x1⟩, hBw⟩ := HX.out wr r4
      obtain ⟨b, off, rfl, hb, hc⟩ := PsAt.cell (HP.out.below hBw) hy
      obtain ⟨c0, c1⟩ := hc wr (Below.refl _ _)
      have hct := contains_snoc (x := x) hy
      rw [r3, Bool.false_or] at hct
      have k1 := fun w => eql38 y x w
      have kg := guard38
      have HYM := Lib.hid (List.mem_of_getElem? hy)
      clear hc hy
      by_cases hxy : x = y
      · rw [decide_eq_true hxy.symm] at k1
        dsimp only [PL.val] at k1
        have HXY := Lib.hid hxy
        have HB := Lib.hid hBw
        clear hct r3 r4 HR hxy hBw
        go_wp2_with fail
        go_quiet (fail)
        go_wp2
        go_ret
        exact ⟨by rw [HXY.out]; simp [HYM.out], drewN_below HB.out _⟩
      · rw [decide_eq_false (fun e => hxy e.symm)] at k1
        rw [decide_eq_false hxy] at hct
        dsimp only [PL.val] at k1
        have HNX := Lib.hid (And.intro hct (drewN_below r4))
        clear hct r3 r4 HR hxy hBw
        go_wp2_with fail
        go_quiet (fail)
        go_wp2
        go_roundw
        case rel => exact ⟨k + 1, by omega, by go_num, HNX.out.1, HNX.out.2 _⟩
        case measure => simp [intOf]; omega
    · obtain rfl : k = L := by omega
      have HD := Lib.hid (show l.contains x = false ∧ Below w.heap.size w wr from ⟨by have := HR.out.1; rw [take_all HL.out] at this; exact this, (HX.out wr HR.out.2).2⟩)
      clear HR
      go_wp2
      go_ret
      exact ⟨by rw [HD.out.1]; rfl, HD.out.2⟩
set_option maxRecDepth 100000 in
set_option maxHeartbeats 1000000 in
theorem rsame_any (v u : Value) (l m : List PL) (w : World) (hp : PsAt w v l) (hq : PsAt w u m) :
    Calls Try.prog 9 #[v, u] w fun e w' => e = .returned (.bool (decide (l = m))) ∧ Below w.heap.size w w' := by
  have HP := Lib.hid hp
  have HQ := Lib.hid hq
  obtain ⟨a, cap, rfl, hlen, -⟩ := hp
  obtain ⟨a2, cap2, rfl, hlen2, -⟩ := hq
  obtain ⟨L, hL⟩ : ∃ L, l.length = L := ⟨_, rfl⟩
  obtain ⟨M, hM⟩ : ∃ M, m.length = M := ⟨_, rfl⟩
  rw [hL] at hlen HP ⊢
  rw [hM] at hlen2 HQ ⊢
  have HL := Lib.hid hL
  have HM := Lib.hid hM
  clear hL hM
  by_cases hLM : L = M
  · subst hLM
    go_enter Try.func9, Try.ntmps9
    go_wp2
    go_loopw [5] (fun i wr => ∃ k : Nat, k ≤ L ∧ i = .int .i64 (k : Nat) ∧ Hid (l.take k = m.take k ∧ Below w.heap.size w wr)) (fun i _ => L - (intOf i).toNat)
    case atStart => exact ⟨0, Nat.zero_le _, rfl, by simp, Below.refl _ _⟩
    case round =>
      obtain ⟨k, hk, rfl, HR⟩ := hrel
      by_cases hlt : k < L
      · obtain ⟨x, hx⟩ : ∃ x, l[k]? = some x := ⟨_, List.getElem?_eq_getElem (by rw [HL.out]; exact hlt)⟩
        obtain ⟨y, hy⟩ : ∃ y, m[k]? = some y := ⟨_, List.getElem?_eq_getElem (by rw [HM.out]; exact hlt)⟩
        have hltz : (k : Int) < (L : Int) := by omega
        obtain ⟨r3, r4⟩ := HR.out
        obtain ⟨b, off, rfl, hb, hc⟩ := PsAt.cell (HP.out.below r4) hx
        obtain ⟨c0, c1⟩ := hc wr (Below.refl _ _)
        obtain ⟨b2, off2, rfl, hb2, hc2⟩ := PsAt.cell (HQ.out.below r4) hy
        obtain ⟨d0, d1⟩ := hc2 wr (Below.refl _ _)
        have k1 := fun w => neq38 x y w
        have kg := guard38
        have HTE := Lib.hid (take_eq_snoc r3 hx hy)
        have HB := Lib.hid r4
        clear hc hc2 hx hy r3 r4 HR hb hb2
        by_cases hxy : x = y
        · rw [decide_eq_true hxy] at k1
          dsimp only [PL.val, Bool.not_true] at k1
          have HT := Lib.hid (HTE.out.2 hxy)
          clear hxy
          go_wp2_with fail
          go_quiet (fail)
          go_wp2
          go_roundw
          case rel => exact ⟨k + 1, by omega, by go_num, HT.out, drewN_below HB.out _⟩
          case measure => simp [intOf]; omega
        · rw [decide_eq_false hxy] at k1
          dsimp only [PL.val, Bool.not_false] at k1
          have HT := Lib.hid (show decide (l = m) = false from decide_eq_false fun e => hxy (HTE.out.1 (by rw [e])))
          clear hxy
          go_wp2_with fail
          go_quiet (fail)
          go_wp2
          go_ret
          exact ⟨by rw [HT.out]; rfl, drewN_below HB.out _⟩
      · obtain rfl : k = L := by omega
        have HT := Lib.hid (show decide (l = m) = true from decide_eq_true (by have := HR.out.1; rw [take_all HL.out, take_all HM.out] at this; exact this))
        go_wp2
        go_ret
        exact ⟨by rw [HT.out]; rfl, HR.out.2⟩
  · have hne : ((L : Int) == (M : Int)) = false := by simp; omega
    have HT := Lib.hid (show decide (l = m) = false from decide_eq_false fun e => hLM (by rw [← HL.out, ← HM.out, e]))
    go_enter Try.func9, Try.ntmps9
    go_wp2
    go_ret
    exact ⟨by rw [HT.out]; rfl, Below.refl _ _⟩
/-- a call, and where what it bears lies -/
structure CaV where
  what : Int
  own : Int
  now : Int
  r : RsV
  l : LgV
def CaV.cells (x : CaV) : List Value := [.int .i64 x.what, .int .i64 x.own, .int .u64 x.now, .int .i64 x.r.frm.n, .int .u64 x.r.frm.s, .int .i64 x.r.kind, .int .i64 x.r.code, .int .u64 x.r.ledger, .int .u64 x.r.n, .int .u64 x.r.epoch, .int .u64 x.r.sure, .slice x.r.ba x.r.body.length x.r.bc, .int .u64 x.l.i, .int .i64 x.l.W, .int .i64 x.l.A, .slice x.l.a x.l.fs.length x.l.c, .int .i64 x.l.cl, .int .u64 x.l.last]
structure CaV.ok (w : World) (x : CaV) : Prop where
  what : i64ok x.what
  own : i64ok x.own
  now : u64ok x.now
  r : x.r.ok w
  l : FsAt w (.slice x.l.a x.l.fs.length x.l.c) x.l.fs
theorem CaV.ok.below {w w' : World} {x : CaV} (h : x.ok w) (hb : Below w.heap.size w w') : x.ok w' := ⟨h.what, h.own, h.now, h.r.below hb, h.l.below hb⟩
abbrev CasAt (w : World) (v : Value) (L : List CaV) : Prop := RowAt CaV.ok 18 CaV.cells w v L
theorem CasAt.below {w w' : World} {v : Value} {L : List CaV} (h : CasAt w v L) (hb : Below w.heap.size w w') : CasAt w' v L := RowAt.below h hb fun _ hx => hx.below hb
def SmallF (fs : List FV) : Prop := fs.length ≤ 30 ∧ ∀ x ∈ fs, x.ps.length ≤ 30
end Go.Proofs.Ytpihogkhfmijcaa
