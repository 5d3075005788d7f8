/- The document's Has and Same; is a call long? Is more handed in than is gone through? The chapter's ledger, and its answers. A fetch in a variable's block, and what was asked beside it. awake: the chapter's examples. -/
import Derived.Test.YtpihogkhfmijcaaGreatPi
import Derived.Test.YtpihogkhfmijcaaGreatPc
import Derived.Lib.ConvBytes
namespace Go.Proofs.YtpihogkhfmijcaaGreat
open Go.RowKit Go.Maps Go.Shelf
set_option maxRecDepth 100000 in
set_option maxHeartbeats 1000000 in
theorem rhas_any (v : Value) (l : List PL) (x : PL) (w : World) (hp : PsAt w v l) (hl : l.length ≤ 100000) :
    Calls Tryz.prog 35 #[v, x.val] w fun e w' => e = .returned (.bool (l.contains x)) ∧ Below w.heap.size w w' := by
  have HP := Lib.hid hp
  obtain ⟨a, cap, rfl, hlen, -⟩ := hp
  obtain ⟨L, hL⟩ : ∃ L, l.length = L := ⟨_, rfl⟩
  rw [hL] at hlen HP hl ⊢
  have HL := Lib.hid hL
  clear hL
  obtain ⟨W, hW⟩ : ∃ W, W = w.alloc (.cells #[.int .i64 x.n, .int .u64 x.s] 40) := ⟨_, rfl⟩
  have hB : Below w.heap.size w W := by rw [hW]; exact Go.Joins.below_alloc1 w _
  have hsz : W.heap.size = w.heap.size + 1 := by rw [hW, World.size_alloc]
  have x0 : W.cell? ⟨w.heap.size, 0, none⟩ = some (.int .i64 x.n) := by rw [hW, World.cell?_alloc_new]; rfl
  have x1 : W.cell? ⟨w.heap.size, 1, none⟩ = some (.int .u64 x.s) := by rw [hW, World.cell?_alloc_new]; rfl
  have HX : Hid (∀ W', Below W.heap.size W W' → (W'.cell? ⟨w.heap.size, 0, none⟩ = some (.int .i64 x.n) ∧ W'.cell? ⟨w.heap.size, 1, none⟩ = some (.int .u64 x.s)) ∧ Below w.heap.size w W') := fun W' h =>
    ⟨⟨(h.cell (p := ⟨w.heap.size, 0, none⟩) (by show w.heap.size < W.heap.size; omega)).trans x0, (h.cell (p := ⟨w.heap.size, 1, none⟩) (by show w.heap.size < W.heap.size; omega)).trans x1⟩, hB.trans (h.mono hB.size)⟩
  clear x0 x1 hsz hB
  go_enter Tryz.func35, Tryz.ntmps35
  go_wp2
  rw [← hW]
  clear hW
  go_loopw [5] (fun i wr => ∃ k : Nat, k ≤ L ∧ i = .int .i64 (k : Nat) ∧ Hid ((l.take k).contains x = false ∧ Below W.heap.size W wr)) (fun i _ => L - (intOf i).toNat)
  case atStart => exact ⟨0, Nat.zero_le _, rfl, by simp, Below.refl _ _⟩
  case round =>
    obtain ⟨k, hk, rfl, HR⟩ := hrel
    by_cases hlt : k < L
    · obtain ⟨y, hy⟩ : ∃ y, l[k]? = some y := ⟨_, List.getElem?_eq_getElem (by rw [HL.out]; exact hlt)⟩
      have hltz : (k : Int) < (L : Int) := by omega
      obtain ⟨r3, r4⟩ := HR.out
      obtain ⟨⟨x0, x1⟩, hBw⟩ := HX.out wr r4
      obtain ⟨b, off, rfl, hb, hc⟩ := PsAt.cell (HP.out.below hBw) hy
      obtain ⟨c0, c1⟩ := hc wr (Below.refl _ _)
      have hct := contains_snoc (x := x) hy
      rw [r3, Bool.false_or] at hct
      have k1 := fun w => eql38 y x w
      have kg := guard38
      have HYM := Lib.hid (List.mem_of_getElem? hy)
      clear hc hy
      by_cases hxy : x = y
      · rw [decide_eq_true hxy.symm] at k1
        dsimp only [PL.val] at k1
        have HXY := Lib.hid hxy
        have HB := Lib.hid hBw
        clear hct r3 r4 HR hxy hBw
        go_wp2_with fail
        go_quiet (fail)
        go_wp2
        go_ret
        exact ⟨by rw [HXY.out]; simp [HYM.out], drewN_below HB.out _⟩
      · rw [decide_eq_false (fun e => hxy e.symm)] at k1
        rw [decide_eq_false hxy] at hct
        dsimp only [PL.val] at k1
        have HNX := Lib.hid (And.intro hct (drewN_below r4))
        clear hct r3 r4 HR hxy hBw
        go_wp2_with fail
        go_quiet (fail)
        go_wp2
        go_roundw
        case rel => exact ⟨k + 1, by omega, by go_num, HNX.out.1, HNX.out.2 _⟩
        case measure => simp [intOf]; omega
    · obtain rfl : k = L := by omega
      have HD := Lib.hid (show l.contains x = false ∧ Below w.heap.size w wr from ⟨by have := HR.out.1; rw [take_all HL.out] at this; exact this, (HX.out wr HR.out.2).2⟩)
      clear HR
      go_wp2
      go_ret
      exact ⟨by rw [HD.out.1]; rfl, HD.out.2⟩
set_option maxRecDepth 100000 in
set_option maxHeartbeats 1000000 in
theorem rsame_any (v u : Value) (l m : List PL) (w : World) (hp : PsAt w v l) (hq : PsAt w u m) :
    Calls Tryz.prog 28 #[v, u] w fun e w' => e = .returned (.bool (decide (l = m))) ∧ Below w.heap.size w w' := by
  have HP := Lib.hid hp
  have HQ := Lib.hid hq
  obtain ⟨a, cap, rfl, hlen, -⟩ := hp
  obtain ⟨a2, cap2, rfl, hlen2, -⟩ := hq
  obtain ⟨L, hL⟩ : ∃ L, l.length = L := ⟨_, rfl⟩
  obtain ⟨M, hM⟩ : ∃ M, m.length = M := ⟨_, rfl⟩
  rw [hL] at hlen HP ⊢
  rw [hM] at hlen2 HQ ⊢
  have HL := Lib.hid hL
  have HM := Lib.hid hM
  clear hL hM
  by_cases hLM : L = M
  · subst hLM
    go_enter Tryz.func28, Tryz.ntmps28
    go_wp2
    go_loopw [5] (fun i wr => ∃ k : Nat, k ≤ L ∧ i = .int .i64 (k : Nat) ∧ Hid (l.take k = m.take k ∧ Below w.heap.size w wr)) (fun i _ => L - (intOf i).toNat)
    case atStart => exact ⟨0, Nat.zero_le _, rfl, by simp, Below.refl _ _⟩
    case round =>
      obtain ⟨k, hk, rfl, HR⟩ := hrel
      by_cases hlt : k < L
      · obtain ⟨x, hx⟩ : ∃ x, l[k]? = some x := ⟨_, List.getElem?_eq_getElem (by rw [HL.out]; exact hlt)⟩
        obtain ⟨y, hy⟩ : ∃ y, m[k]? = some y := ⟨_, List.getElem?_eq_getElem (by rw [HM.out]; exact hlt)⟩
        have hltz : (k : Int) < (L : Int) := by omega
        obtain ⟨r3, r4⟩ := HR.out
        obtain ⟨b, off, rfl, hb, hc⟩ := PsAt.cell (HP.out.below r4) hx
        obtain ⟨c0, c1⟩ := hc wr (Below.refl _ _)
        obtain ⟨b2, off2, rfl, hb2, hc2⟩ := PsAt.cell (HQ.out.below r4) hy
        obtain ⟨d0, d1⟩ := hc2 wr (Below.refl _ _)
        have k1 := fun w => neq38 x y w
        have kg := guard38
        have HTE := Lib.hid (take_eq_snoc r3 hx hy)
        have HB := Lib.hid r4
        clear hc hc2 hx hy r3 r4 HR hb hb2
        by_cases hxy : x = y
        · rw [decide_eq_true hxy] at k1
          dsimp only [PL.val, Bool.not_true] at k1
          have HT := Lib.hid (HTE.out.2 hxy)
          clear hxy
          go_wp2_with fail
          go_quiet (fail)
          go_wp2
          go_roundw
          case rel => exact ⟨k + 1, by omega, by go_num, HT.out, drewN_below HB.out _⟩
          case measure => simp [intOf]; omega
        · rw [decide_eq_false hxy] at k1
          dsimp only [PL.val, Bool.not_false] at k1
          have HT := Lib.hid (show decide (l = m) = false from decide_eq_false fun e => hxy (HTE.out.1 (by rw [e])))
          clear hxy
          go_wp2_with fail
          go_quiet (fail)
          go_wp2
          go_ret
          exact ⟨by rw [HT.out]; rfl, drewN_below HB.out _⟩
      · obtain rfl : k = L := by omega
        have HT := Lib.hid (show decide (l = m) = true from decide_eq_true (by have := HR.out.1; rw [take_all HL.out, take_all HM.out] at this; exact this))
        go_wp2
        go_ret
        exact ⟨by rw [HT.out]; rfl, HR.out.2⟩
  · have hne : ((L : Int) == (M : Int)) = false := by simp; omega
    have HT := Lib.hid (show decide (l = m) = false from decide_eq_false fun e => hLM (by rw [← HL.out, ← HM.out, e]))
    go_enter Tryz.func28, Tryz.ntmps28
    go_wp2
    go_ret
    exact ⟨by rw [HT.out]; rfl, Below.refl _ _⟩
/-- a call, and where what it bears lies -/
structure CaV where
  what : Int
  own : Int
  now : Int
  r : RsV
  l : LgV
def CaV.cells (x : CaV) : List Value := [.int .i64 x.what, .int .i64 x.own, .int .u64 x.now, .int .i64 x.r.frm.n, .int .u64 x.r.frm.s, .int .i64 x.r.kind, .int .i64 x.r.code, .int .u64 x.r.ledger, .int .u64 x.r.n, .int .u64 x.r.epoch, .int .u64 x.r.sure, .slice x.r.ba x.r.body.length x.r.bc, .int .u64 x.l.i, .int .i64 x.l.W, .int .i64 x.l.A, .slice x.l.a x.l.fs.length x.l.c, .int .i64 x.l.cl, .int .u64 x.l.last]
structure CaV.ok (w : World) (x : CaV) : Prop where
  what : i64ok x.what
  own : i64ok x.own
  now : u64ok x.now
  r : x.r.ok w
  l : FsAt w (.slice x.l.a x.l.fs.length x.l.c) x.l.fs
theorem CaV.ok.below {w w' : World} {x : CaV} (h : x.ok w) (hb : Below w.heap.size w w') : x.ok w' := ⟨h.what, h.own, h.now, h.r.below hb, h.l.below hb⟩
abbrev CasAt (w : World) (v : Value) (L : List CaV) : Prop := RowAt CaV.ok 18 CaV.cells w v L
theorem CasAt.below {w w' : World} {v : Value} {L : List CaV} (h : CasAt w v L) (hb : Below w.heap.size w w') : CasAt w' v L := RowAt.below h hb fun _ hx => hx.below hb
def SmallF (fs : List FV) : Prop := fs.length ≤ 30 ∧ ∀ x ∈ fs, x.ps.length ≤ 30
end Go.Proofs.YtpihogkhfmijcaaGreat
namespace Go.Proofs.YtpihogkhfmijcaaGreat
open Go.RowKit Go.Maps Go.Shelf
set_option linter.unusedSimpArgs false
def LightC (q : CaV) : Prop := q.r.body.length ≤ 5000 ∧ ¬ LongFr q.l.fs
/-- no more is handed in than is gone through -/
def Light (x : LgV) (L : List CaV) : Prop := L.length ≤ 200 ∧ ¬ LongFr x.fs ∧ ∀ q ∈ L, LightC q
def HeavyPost (x : LgV) (L : List CaV) (w : World) (e : Ending) (w' : World) : Prop := ∃ R : Bool, e = .returned (.bool R) ∧ (R = false → Light x L) ∧ Below w.heap.size w w'
set_option maxRecDepth 100000 in
set_option maxHeartbeats 4000000 in
theorem heavy_any (x : LgV) (a : Option Addr) (c : Nat) (L : List CaV) (w : World) (hx : FsAt w (.slice x.a x.fs.length x.c) x.fs) (h : CasAt w (.slice a L.length c) L) :
    Calls Tryz.prog 4 #[x.val, .slice a L.length c] w fun e w' => HeavyPost x L w e w' := by
  obtain ⟨N, hN⟩ : ∃ N, L.length = N := ⟨_, rfl⟩
  have HH := Lib.hid h
  have HN := Lib.hid hN
  have HB := Lib.hid (Go.Joins.below_alloc1 w (.cells x.arr 25))
  have HL := Lib.hid (long_any x.a x.c x.fs _ (hx.below HB.out))
  have HLE := Lib.hid (fun q (hq : q ∈ L) Z (hZ : Below w.heap.size w Z) => long_any q.l.a q.l.c q.l.fs Z ((RowAt.each h q hq).l.below hZ))
  have HFX : Hid (∀ p : Prop, (L.length ≤ 200 → ¬ LongFr x.fs → p) → (L.length ≤ 200 → ¬ LongFr x.fs → p)) := fun _ h => h
  rw [hN] at HH ⊢
  obtain ⟨xi, xW, xA, xa, xc, xfs, xcl, xlast⟩ := x
  dsimp only at HL
  simp only [LgV.arr] at HB HL
  simp only [LgV.val, LgV.arr]
  clear hx h hN HFX
  by_cases h2 : 200 < N
  · have d1 : (200 : Int) < (N : Int) := by omega
    go_enter Tryz.func4, Tryz.ntmps4
    go_wp2
    go_ret
    exact ⟨true, rfl, (fun h => by cases h), HB.out⟩
  · have d1 : ¬ (200 : Int) < (N : Int) := by omega
    have HN2 := Lib.hid h2
    clear h2
    go_enter Tryz.func4, Tryz.ntmps4
    go_wp2_with fail
    refine HL.out.mono ?_
    rintro e w1 ⟨R, rfl, hR, hb1⟩
    have HR := Lib.hid hR
    have HB1 := Lib.hid (HB.out.trans (hb1.mono HB.out.size))
    clear hR hb1 HL
    cases R with
    | true =>
      go_wp2
      go_ret
      exact ⟨true, rfl, (fun h => by cases h), HB1.out⟩
    | false =>
      have HX := Lib.hid (show ¬ LongFr xfs from fun hh => by have := HR.out.2 hh; cases this)
      go_wp2_with fail
      go_loopw [5] (fun z wr => ∃ i : Nat, i ≤ N ∧ z = .int .i64 (i : Nat) ∧ Hid ((∀ q ∈ L.take i, LightC q) ∧ Below w.heap.size w wr)) (fun z _ => N - (intOf z).toNat)
      case atStart => exact ⟨0, Nat.zero_le _, rfl, by simp, HB1.out⟩
      case round =>
        obtain ⟨i, hi, rfl, HRL⟩ := hrel
        by_cases hlt : i < N
        · have hltz : (i : Int) < (N : Int) := by omega
          obtain ⟨q, hq⟩ : ∃ q, L[i]? = some q := ⟨_, List.getElem?_eq_getElem (by rw [HN.out]; exact hlt)⟩
          obtain ⟨b, off, he, hbl, hqo, hc⟩ := RowAt.cell (HH.out.below HRL.out.2) hq
          cases he
          have c11 := hc 11 (by omega) wr (Below.refl _ _)
          have c15 := hc 15 (by omega) wr (Below.refl _ _)
          simp only [CaV.cells, List.getElem?_cons_succ, List.getElem?_cons_zero] at c11 c15
          have HQ := Lib.hid hq
          have HLQ := Lib.hid (HLE.out q (List.mem_of_getElem? hq) wr HRL.out.2)
          obtain ⟨BL, hBL⟩ : ∃ n, q.r.body.length = n := ⟨_, rfl⟩
          have HBL := Lib.hid hBL
          rw [hBL] at c11
          clear hc hqo hbl hq hBL
          by_cases h5 : 5000 < BL
          · have d5 : (5000 : Int) < (BL : Int) := by omega
            go_wp2
            go_ret
            exact ⟨true, rfl, (fun h => by cases h), HRL.out.2⟩
          · have d5 : ¬ (5000 : Int) < (BL : Int) := by omega
            have H5 := Lib.hid h5
            clear h5
            go_wp2_with fail
            refine HLQ.out.mono ?_
            rintro e w2 ⟨R2, rfl, hR2, hb2⟩
            have HR2 := Lib.hid hR2
            have HB2 := Lib.hid (HRL.out.2.trans (hb2.mono HRL.out.2.size))
            clear hR2 hb2 HLQ
            cases R2 with
            | true =>
              go_wp2
              go_ret
              exact ⟨true, rfl, (fun h => by cases h), HB2.out⟩
            | false =>
              go_wp2
              go_roundw
              case rel =>
                refine ⟨i + 1, by omega, by go_num, fun z hz => ?_, HB2.out⟩
                rw [take_snoc HQ.out, List.mem_append, List.mem_singleton] at hz
                rcases hz with hz | hz
                · exact HRL.out.1 z hz
                · rw [hz]
                  exact ⟨by have := H5.out; rw [HBL.out]; omega, fun hh => by have := HR2.out.2 hh; cases this⟩
              case measure => simp [intOf]; omega
        · obtain rfl : i = N := by omega
          go_wp2
          go_ret
          exact ⟨false, rfl, (fun _ => ⟨by have := HN.out; have := HN2.out; omega, HX.out, fun z hz => HRL.out.1 z (by rw [List.take_of_length_le (by rw [HN.out]; exact Nat.le_refl _)]; exact hz)⟩), HRL.out.2⟩
end Go.Proofs.YtpihogkhfmijcaaGreat
namespace Go.Proofs.YtpihogkhfmijcaaGreat
open Go.RowKit Go.Maps Go.Shelf
set_option linter.unusedSimpArgs false
theorem place_any (n : Int) (w : World) : Calls Tryz.prog 21 #[.int .i64 n] w fun e w' => e = .returned (PL.val ⟨n, 1⟩) ∧ Below w.heap.size w w' := by
  have HX := Lib.hid (BoxC.new w 40 #[.int .i64 n, .int .u64 1])
  have HB := Lib.hid (Go.Joins.below_alloc1 w (.cells #[.int .i64 n, .int .u64 1] 40))
  go_enter Tryz.func21, Tryz.ntmps21
  go_wp2
  refine bodyPost_ret (results_cell_row rfl _ _ w.heap.size 40 _ (0, 0) _ rfl HX.out Tryz.underlying40 rfl (by kernel_rfl)) rfl ?_
  exact ⟨rfl, HB.out⟩
def tri : List PL := [⟨7, 1⟩, ⟨8, 1⟩, ⟨9, 1⟩]
theorem small_ok (n : Int) (h : 0 ≤ n ∧ n ≤ 100) : (⟨n, 1⟩ : PL).ok := ⟨⟨by show _ ≤ n; omega, by show n ≤ _; omega⟩, by show 0 ≤ (1 : Int) ∧ (1 : Int) ≤ _; decide⟩
theorem tri_ok : ∀ q ∈ tri, q.ok := fun q hq => by
  simp only [tri, List.mem_cons, List.not_mem_nil, or_false] at hq
  rcases hq with rfl | rfl | rfl <;> exact small_ok _ (by decide)
theorem tri_new (w : World) : PsAt (w.alloc (.cells #[.int .i64 7, .int .u64 1, .int .i64 8, .int .u64 1, .int .i64 9, .int .u64 1] 40)) (.slice (some ⟨w.heap.size, 0, none⟩) 3 3) tri := by
  refine PsAt.new w tri (by decide) tri_ok _ fun j q r hj hr => ?_
  have hjl := (List.getElem?_eq_some_iff.1 hj).1
  simp only [tri, List.length_cons, List.length_nil] at hjl
  rcases (show j = 0 ∨ j = 1 ∨ j = 2 by omega) with rfl | rfl | rfl <;> (simp [tri] at hj; subst hj; rcases (show r = 0 ∨ r = 1 by omega) with rfl | rfl <;> rfl)
def triF (b : Nat) : FV := ⟨1, some ⟨b, 0, none⟩, 3, tri⟩
/-- one fragment in a new block -/
theorem frag_new (w : World) (b : Nat) (h : PsAt w (.slice (some ⟨b, 0, none⟩) 3 3) tri) : FsAt (w.alloc (.cells #[.int .u64 1, .slice (some ⟨b, 0, none⟩) 3 3] 73)) (.slice (some ⟨w.heap.size, 0, none⟩) 1 1) [triF b] := by
  refine ⟨_, _, rfl, by simp, Nat.le_refl _, (fun h => by cases h), fun _ => ⟨_, 0, rfl, by simp [World.size_alloc], fun j x hj => ?_⟩⟩
  have hjl := (List.getElem?_eq_some_iff.1 hj).1
  simp only [List.length_cons, List.length_nil] at hjl
  obtain rfl : j = 0 := by omega
  simp at hj
  subst hj
  refine ⟨⟨by unfold u64ok triF; dsimp only; omega, h.below (Go.Joins.below_alloc1 w _)⟩, fun r hr => ?_⟩
  simp only [Nat.zero_add, Nat.zero_mul]
  rw [World.cell?_alloc_new]
  rcases (show r = 0 ∨ r = 1 by omega) with rfl | rfl <;> rfl
theorem FsAt.ch1 {g : Nat} {w w' : World} {a : Option Addr} {n c : Nat} {L : List FV} (h : FsAt w (.slice a n c) L) (hg : ∀ b, ab a = some b → b ≠ g) (hgs : ∀ x ∈ L, ∀ b, ab x.a = some b → b ≠ g) (hc : Ch1 g w w') : FsAt w' (.slice a n c) L :=
  RowAt.frame h hc.size (fun b hb h0 => hc.block b h0 (hg b hb)) (fun x hx hxo => ⟨hxo.1, RowAt.ch1 hxo.2 (hgs x hx) hc⟩)
def threeV (a b : Nat) : LgV := ⟨1, 2, 2, some ⟨a, 0, none⟩, 1, [triF b], 0, 0⟩
def zero25 : Array Value := #[.int .u64 0, .int .i64 0, .int .i64 0, .slice none 0 0, .int .i64 0, .int .u64 0]
set_option maxRecDepth 100000 in
set_option maxHeartbeats 2000000 in
theorem three_any (w : World) : Calls Tryz.prog 19 #[] w fun e w' => ∃ a b, e = .returned (threeV a b).val ∧ FsAt w' (.slice (some ⟨a, 0, none⟩) 1 1) [triF b] ∧ Below w.heap.size w w' := by
  have HB := Lib.hid (Go.Joins.below_alloc1 w (.cells zero25 25))
  have HP := Lib.hid (fun n W => place_any n W)
  have hbx := BoxC.new w 25 zero25
  have HBX := Lib.hid hbx
  unfold zero25 at HBX
  clear hbx
  go_enter Tryz.func19, Tryz.ntmps19
  go_wp2_with fail
  refine (HP.out _ _).mono ?_
  rintro e w1 ⟨rfl, hb1⟩
  have H1 := Lib.hid (And.intro (HBX.out.below hb1) (HB.out.trans (hb1.mono HB.out.size)))
  clear hb1 HB HBX
  go_wp2_with fail
  refine (HP.out _ _).mono ?_
  rintro e w2 ⟨rfl, hb2⟩
  have H2 := Lib.hid (And.intro (H1.out.1.below hb2) (H1.out.2.trans (hb2.mono H1.out.2.size)))
  clear hb2 H1
  go_wp2_with fail
  refine (HP.out _ _).mono ?_
  rintro e w3 ⟨rfl, hb3⟩
  have H3 := Lib.hid (And.intro (H2.out.1.below hb3) (H2.out.2.trans (hb3.mono H2.out.2.size)))
  clear hb3 H2 HP
  have hx := (H3.out.1.alloc (.cells #[.int .i64 7, .int .u64 1, .int .i64 8, .int .u64 1, .int .i64 9, .int .u64 1] 40)).alloc (.cells #[.int .u64 1, .slice (some ⟨w3.heap.size, 0, none⟩) 3 3] 73)
  have HX := Lib.hid hx
  have f0 := hx.fz
  have c0 := hx.cell 0
  have c1 := hx.cell 1
  have c2 := hx.cell 2
  have c3 := hx.cell 3
  have c4 := hx.cell 4
  have c5 := hx.cell 5
  simp only [List.getElem?_toArray, List.getElem?_cons_succ, List.getElem?_cons_zero] at c0 c1 c2 c3 c4 c5
  clear hx
  go_wp2
  have hF := HX.out.full [.int .u64 1, .int .i64 2, .int .i64 2, .slice (some ⟨w3.heap.size + 1, 0, none⟩) 1 1, .int .i64 0, .int .u64 0] rfl
  have hlt := H3.out.1.lt
  have hFs := frag_new (w3.alloc (.cells #[.int .i64 7, .int .u64 1, .int .i64 8, .int .u64 1, .int .i64 9, .int .u64 1] 40)) w3.heap.size (tri_new w3)
  rw [World.size_alloc] at hFs
  have hc := Ch1.sets ((w3.alloc (.cells #[.int .i64 7, .int .u64 1, .int .i64 8, .int .u64 1, .int .i64 9, .int .u64 1] 40)).alloc (.cells #[.int .u64 1, .slice (some ⟨w3.heap.size, 0, none⟩) 3 3] 73)) w.heap.size [.int .u64 1, .int .i64 2, .int .i64 2, .slice (some ⟨w3.heap.size + 1, 0, none⟩) 1 1, .int .i64 0, .int .u64 0]
  have hF2 := FsAt.ch1 hFs (fun b hb => by cases hb; show w3.heap.size + 1 ≠ w.heap.size; omega) (fun x hx b hb => by rw [List.mem_singleton] at hx; subst hx; cases hb; show w3.heap.size ≠ w.heap.size; omega) hc
  have hBl := Below.sets (Nat.le_refl _) [.int .u64 1, .int .i64 2, .int .i64 2, .slice (some ⟨w3.heap.size + 1, 0, none⟩) 1 1, .int .i64 0, .int .u64 0] ((H3.out.2.alloc H3.out.2.size (.cells #[.int .i64 7, .int .u64 1, .int .i64 8, .int .u64 1, .int .i64 9, .int .u64 1] 40)).alloc (by rw [World.size_alloc]; have := H3.out.2.size; omega) (.cells #[.int .u64 1, .slice (some ⟨w3.heap.size, 0, none⟩) 3 3] 73))
  simp only [World.setCells, Nat.reduceAdd, Nat.zero_add] at hF hF2 hBl
  refine bodyPost_ret (results_cell_row rfl _ _ w.heap.size 25 _ (0, 0) _ rfl hF Tryz.underlying25 rfl (by kernel_rfl)) rfl ?_
  exact ⟨w3.heap.size + 1, w3.heap.size, rfl, hF2, hBl⟩
/-- bytes of a text -/
theorem conv_bs (w : World) (l : List UInt8) (hl : l.length ≤ 100) : ∃ a c W, (convert 9 30 (.string ⟨l.toArray⟩)).run Tryz.prog w = .ok (.slice a l.length c) W ∧ BsAt W (.slice a l.length c) (l.map fun y => (y.toNat : Int)) ∧ Below w.heap.size w W ∧ ∀ b, ab a = some b → w.heap.size ≤ b := by
  have hs : (⟨l.toArray⟩ : ByteArray).size = l.length := by simp [ByteArray.size]
  refine ⟨some ⟨w.heap.size, 0, none⟩, grownCap w l.length 0 5, _, by rw [Lib.run_convert_string_bytes w 9 30 5 ⟨l.toArray⟩ Tryz.underlying9 Tryz.underlying30 Tryz.underlying5, hs], ?_, ?_, fun b hb => by cases hb; exact Nat.le_refl _⟩
  · refine ⟨_, _, by rw [List.length_map], by rw [List.length_map]; omega, by rw [List.length_map]; exact grownCap_ge _ _ _ _, (fun h => by cases h), fun _ => ⟨_, 0, rfl, by rw [Lib.bytesWorld_size]; omega, fun j x hj => ?_⟩⟩
    obtain ⟨hjl, he⟩ := List.getElem?_eq_some_iff.1 hj
    rw [List.length_map] at hjl
    rw [List.getElem_map] at he
    refine ⟨by rw [← he]; have := (l[j]).toNat_lt; omega, fun r hr => ?_⟩
    obtain rfl : r = 0 := by omega
    rw [Nat.zero_add, Nat.mul_one, Nat.add_zero, Lib.bytesWorld_cell w 5 ⟨l.toArray⟩ j (by rw [hs]; exact hjl)]
    rw [← he]
    simp [byC, List.getD, hjl]
  · exact ⟨rfl, rfl, rfl, by rw [Lib.bytesWorld_size]; omega, fun k hk => Lib.bytesWorld_at_old w 5 _ k hk⟩
def zero40 : Array Value := #[.int .i64 0, .int .u64 0, .int .i64 0, .int .i64 0, .int .u64 0, .int .u64 0, .int .u64 0, .int .u64 0, .slice none 0 0]
set_option maxRecDepth 100000 in
set_option maxHeartbeats 2000000 in
theorem says_any (code node : Int) (l : List UInt8) (hl : l.length ≤ 100) (hn : 0 ≤ node ∧ node ≤ 100) (w : World) : Calls Tryz.prog 20 #[.int .i64 code, .int .i64 node, .string ⟨l.toArray⟩] w fun e w' => ∃ a c, e = .returned (RsV.mk ⟨node, 1⟩ 3 code 1 2 5 0 a c (l.map fun y => (y.toNat : Int))).val ∧ (RsV.mk ⟨node, 1⟩ 3 code 1 2 5 0 a c (l.map fun y => (y.toNat : Int))).ok w' ∧ Below w.heap.size w w' := by
  have HB := Lib.hid (Go.Joins.below_alloc1 w (.cells zero40 42))
  have HBX := Lib.hid (BoxC.new w 42 zero40)
  have HP := Lib.hid (place_any node (w.alloc (.cells zero40 42)))
  have HN := Lib.hid (small_ok node hn)
  have HL := Lib.hid (show (l.map fun y => (y.toNat : Int)).length = l.length from List.length_map _)
  unfold zero40 at HBX HP
  go_enter Tryz.func20, Tryz.ntmps20
  go_wp2_with fail
  refine HP.out.mono ?_
  rintro e w1 ⟨rfl, hb1⟩
  obtain ⟨a, c, W, hrun, hbs, hbl, hba⟩ := conv_bs w1 l hl
  have hx := (HBX.out.below hb1).below hbl
  have HX := Lib.hid hx
  have HLT := Lib.hid (HBX.out.below hb1).lt
  have HBW := Lib.hid ((HB.out.trans (hb1.mono HB.out.size)).trans (hbl.mono (HB.out.trans (hb1.mono HB.out.size)).size))
  have HBA := Lib.hid (And.intro hbs hba)
  have f0 := hx.fz
  have c0 := hx.cell 0
  have c1 := hx.cell 1
  have c2 := hx.cell 2
  have c3 := hx.cell 3
  have c4 := hx.cell 4
  have c5 := hx.cell 5
  have c6 := hx.cell 6
  have c7 := hx.cell 7
  have c8 := hx.cell 8
  simp only [List.getElem?_toArray, List.getElem?_cons_succ, List.getElem?_cons_zero] at c0 c1 c2 c3 c4 c5 c6 c7 c8
  clear hx hbs hba hbl hb1 HP HB HBX hn hl
  go_wp2
  have hF := HX.out.full [.int .i64 node, .int .u64 1, .int .i64 3, .int .i64 code, .int .u64 1, .int .u64 2, .int .u64 5, .int .u64 0, .slice a l.length c] rfl
  have hc := Ch1.sets W w.heap.size [.int .i64 node, .int .u64 1, .int .i64 3, .int .i64 code, .int .u64 1, .int .u64 2, .int .u64 5, .int .u64 0, .slice a l.length c]
  have hB2 := RowAt.ch1 HBA.out.1 (fun b hb => by have := HBA.out.2 b hb; have := HLT.out; omega) hc
  have hBl := Below.sets (Nat.le_refl _) [.int .i64 node, .int .u64 1, .int .i64 3, .int .i64 code, .int .u64 1, .int .u64 2, .int .u64 5, .int .u64 0, .slice a l.length c] HBW.out
  simp only [World.setCells, Nat.reduceAdd, Nat.zero_add] at hF hB2 hBl
  refine bodyPost_ret (results_cell_row rfl _ _ w.heap.size 42 _ (0, 0) _ rfl hF Tryz.underlying42 rfl (by kernel_rfl)) rfl ?_
  exact ⟨a, c, by simp only [RsV.val, List.length_map], ⟨HN.out, by rw [HL.out]; exact hB2⟩, hBl⟩
end Go.Proofs.YtpihogkhfmijcaaGreat
namespace Go.Proofs.YtpihogkhfmijcaaGreat
open Go.RowKit Go.Maps Go.Shelf
theorem via {α β : Type} {K : α → β → Prop} {a : α} {b : β} (P : β → Prop) (h : P b) (k : ∀ X, P X → K a X) : K a b := k b h
/-- a fetch in the block g, behind the world w0 -/
structure St (w0 W : World) (g : Nat) (y : FeV) (m : FeM) : Prop where
  box : BoxC W g 32 y.cs.toArray
  ok : y.ok W
  m : y.m = m
  gl : w0.heap.size ≤ g
  bel : Below w0.heap.size w0 W
theorem St.below {w0 W Z : World} {g : Nat} {y : FeV} {m : FeM} (h : St w0 W g y m) (hb : Below W.heap.size W Z) : St w0 Z g y m :=
  ⟨h.box.below hb, h.ok.below hb, h.m, h.gl, h.bel.trans (hb.mono h.bel.size)⟩
theorem St.new {w0 W : World} {y : FeV} {m : FeM} (hb : Below w0.heap.size w0 W) (ho : y.ok W) (hm : y.m = m) : St w0 (W.alloc (.cells y.cs.toArray 32)) W.heap.size y m :=
  ⟨BoxC.new _ _ _, ho.below (Go.Joins.below_alloc1 _ _), hm, hb.size, hb.alloc hb.size _⟩
/-- what was asked, beside the block g -/
def Rq (W : World) (g : Nat) (ra : Option Addr) (rc : Nat) (qs : List RqM) : Prop := QsAt W (.slice ra qs.length rc) qs ∧ ∀ b, ab ra = some b → b ≠ g
theorem Rq.below {W Z : World} {g : Nat} {ra : Option Addr} {rc : Nat} {qs : List RqM} (h : Rq W g ra rc qs) (hb : Below W.heap.size W Z) : Rq Z g ra rc qs := ⟨h.1.below hb, h.2⟩
theorem Rq.ch1 {W Z : World} {g : Nat} {ra : Option Addr} {rc : Nat} {qs : List RqM} (h : Rq W g ra rc qs) (hc : Ch1 g W Z) : Rq Z g ra rc qs := ⟨QsAt.ch1 h.1 h.2 hc, h.2⟩
/-- the next fetch is written there -/
theorem St.next {w0 W Z w1 : World} {g : Nat} {y y2 : FeV} {m : FeM} {M : FeM × List RqM} {ra : Option Addr} {rc : Nat} (h : St w0 W g y m) (hZ : Below W.heap.size W Z) (hm : y2.m = M.1) (ho : y2.ok w1) (hq : QsAt w1 (.slice ra M.2.length rc) M.2) (hb : Below Z.heap.size Z w1) (hk : ∀ b, y2.blk b ∨ ab ra = some b → Z.heap.size ≤ b) :
    St w0 (put8n w1 g y2) g y2 M.1 ∧ Rq (put8n w1 g y2) g ra rc M.2 ∧ Ch1 g W (put8n w1 g y2) := by
  have hl := h.box.lt
  have hz := hZ.size
  have hbW := hZ.trans (hb.mono hz)
  rw [put8n_eq]
  have hc := Ch1.sets w1 g y2.cs
  have hs : ∀ b, y2.blk b ∨ ab ra = some b → b ≠ g := fun b e => by have := hk b e; omega
  exact ⟨⟨(h.box.below hbW).full y2.cs rfl, ho.ch1 (fun b e => hs b (.inl (.inl e))) (fun b e => hs b (.inl (.inr e))) hc, hm, h.gl, Below.sets h.gl _ (h.bel.trans (hbW.mono h.bel.size))⟩, ⟨QsAt.ch1 hq (fun b e => hs b (.inr e)) hc, fun b e => hs b (.inr e)⟩, (Ch1.of hbW).trans hc⟩
theorem St.c8 {w0 W : World} {g : Nat} {y : FeV} {m : FeM} (h : St w0 W g y m) : C8 W g y := FeV.c8 h.box
theorem St.fz {w0 W : World} {g : Nat} {y : FeV} {m : FeM} (h : St w0 W g y m) (j : Nat) : W.frozen? ⟨g, j, none⟩ = false := h.box.fz j
/-- what New asks lies ahead of a new block -/
theorem Rq.new {W : World} {ra : Option Addr} {rc : Nat} {qs : List RqM} (h : QsAt W (.slice ra qs.length rc) qs) (hl : 0 < qs.length) (o : Obj) : Rq (W.alloc o) W.heap.size ra rc qs := by
  refine ⟨h.below (Go.Joins.below_alloc1 _ _), fun b hb => ?_⟩
  obtain ⟨a', cap, hv, -, -, -, hh⟩ := h.row
  cases hv
  obtain ⟨b', off, he, hlt, -⟩ := hh hl
  subst he
  cases hb
  show b' ≠ W.heap.size
  omega
end Go.Proofs.YtpihogkhfmijcaaGreat
namespace Go.Proofs.YtpihogkhfmijcaaGreat
open Go.RowKit Go.Maps Go.Shelf
set_option linter.unusedSimpArgs false
def p7 : PL := ⟨7, 1⟩
def p8 : PL := ⟨8, 1⟩
def p9 : PL := ⟨9, 1⟩
/-- the fetch of the examples, as it stands -/
def fe (at' since done : Int) (body : List Int) : FeM := ⟨1, 2, [p8, p9], at', since, 5, done, body⟩
def asks (p : PL) : RqM := ⟨p, 1, 2, 5⟩
theorem fe_in (a s d : Int) (b : List Int) (h : a = 0 ∨ a = 1) : (fe a s d b).In := ⟨by show 0 ≤ a; omega, by show a < 2; omega, by show 2 ≤ 1000; omega⟩
theorem three_may (a b : Nat) : (threeV a b).May := by
  refine ⟨⟨by show (1 : Int) ≤ 1; omega, by show (1 : Int) ≤ 4611686018427387903; omega⟩, ⟨by show (1 : Int) ≤ 2; omega, by show (2 : Int) ≤ 2; omega, by show (2 : Int) ≤ 5; omega⟩, ⟨by show 1 ≤ 1; omega, by show 1 ≤ 6; omega, fun x hx => ?_, fun i x hx => ?_⟩, .inl ⟨rfl, rfl⟩⟩
  · simp [threeV] at hx
    subst hx
    rfl
  · have hl := (List.getElem?_eq_some_iff.1 hx).1
    simp only [threeV, List.length_cons, List.length_nil] at hl
    obtain rfl : i = 0 := by omega
    simp [threeV] at hx
    subst hx
    refine ⟨by show (1 : Int) ≤ 9; omega, fun j y hj => by omega, by show (2 : Int) ≤ 3; omega, by show 3 ≤ 5; omega, ⟨fun z hz => ?_, ?_⟩⟩
    · simp only [triF, tri, List.mem_cons, List.not_mem_nil, or_false] at hz
      rcases hz with rfl | rfl | rfl <;> rfl
    · simp [triF, tri]
theorem new_three (a b : Nat) : newM (threeV a b) 2 5 3 = (fe 0 3 0 [], [asks p8]) := by rfl
theorem ok_three (a b : Nat) : NewOk (threeV a b) 2 := ⟨three_may a b, by omega, by omega, fun h => by cases h⟩
theorem step_b (r : RsV) (h : r.frm = p9 ∧ r.kind = 3 ∧ r.code = 3 ∧ r.ledger = 1 ∧ r.n = 2 ∧ r.epoch = 5) : (fe 0 3 0 []).still ((fe 0 3 0 []).takeM 3 r) = (fe 0 3 0 [], []) := by
  obtain ⟨h1, h2, h3, h4, h5, h6⟩ := h
  have hf : (fe 0 3 0 []).fits r := ⟨h2, h4, h5, h6⟩
  have e : (fe 0 3 0 []).takeM 3 r = (fe 0 3 0 [], []) := by rw [takeM_1 hf (.inl h3), h1]; rfl
  rw [e]
  rfl
theorem step_c (r : RsV) (h : r.frm = p8 ∧ r.kind = 3 ∧ r.code = 3 ∧ r.ledger = 1 ∧ r.n = 2 ∧ r.epoch = 5) : (fe 0 3 0 []).still ((fe 0 3 0 []).takeM 3 r) = (fe 1 3 0 [], [asks p9]) := by
  obtain ⟨h1, h2, h3, h4, h5, h6⟩ := h
  have hf : (fe 0 3 0 []).fits r := ⟨h2, h4, h5, h6⟩
  have e : (fe 0 3 0 []).takeM 3 r = (fe 1 3 0 [], [asks p9]) := by rw [takeM_1 hf (.inl h3), h1]; rfl
  rw [e]
  rfl
theorem step_d : (fe 1 3 0 []).still ((fe 1 3 0 []).tickM 5) = (fe 1 3 0 [], []) := by rfl
theorem step_g : (fe 1 3 0 []).still ((fe 1 3 0 []).tickM 6) = (fe 0 6 0 [], [asks p8]) := by rfl
theorem step_x (r : RsV) (h : r.frm = p9 ∧ r.kind = 3 ∧ r.code = 0 ∧ r.ledger = 1 ∧ r.n = 2 ∧ r.epoch = 5 ∧ r.body = [120]) : (fe 0 6 0 []).still ((fe 0 6 0 []).takeM 6 r) = (fe 0 6 1 [120], []) := by
  obtain ⟨h1, h2, h3, h4, h5, h6, h7⟩ := h
  have hf : (fe 0 6 0 []).fits r := ⟨h2, h4, h5, h6⟩
  have e : (fe 0 6 0 []).takeM 6 r = (fe 0 6 1 [120], []) := by
    rw [takeM_0 hf h3]
    unfold FeM.foundM
    rw [h1, h7]
    rfl
  rw [e]
  rfl
end Go.Proofs.YtpihogkhfmijcaaGreat
