/- BallotRises. -/
import Derived.Test.YtomoomeocolkmaaAwake
namespace Go.Proofs.Ytomoomeocolkmaa
open Go.RowKit
theorem cmp_lt {a b : BV} (h : a.r < b.r) : a.cmp b = -1 := by
  rcases cmp_cases a b with ⟨e, _⟩ | ⟨_, h1, _⟩ | ⟨_, h1⟩
  · exact e
  · omega
  · omega
theorem top_ge {l : List BV} (hl : ∀ q ∈ l, q.ok) : ∀ q ∈ l, q.r ≤ (top l).r := by
  have key : ∀ k, k ≤ l.length → ∀ j, j < k → ∀ q, l[j]? = some q → q.r ≤ (top (l.take k)).r := by
    intro k
    induction k with
    | zero => intro _ j hj; omega
    | succ k ih =>
      intro hk j hj q hq
      obtain ⟨x, hx⟩ : ∃ x, l[k]? = some x := ⟨_, List.getElem?_eq_getElem (by omega)⟩
      rw [top_r l k x hx (hl x (List.mem_of_getElem? hx)).1.1]
      rcases Nat.lt_or_ge j k with h | h
      · have := ih (by omega) j h q hq
        split <;> omega
      · obtain rfl : j = k := by omega
        rw [hx] at hq
        cases hq
        split <;> omega
  intro q hq
  obtain ⟨j, hj⟩ := List.getElem?_of_mem hq
  have hjl := (List.getElem?_eq_some_iff.1 hj).1
  have := key l.length (Nat.le_refl _) j hjl q hj
  rwa [List.take_length] at this
theorem top_mem {l : List BV} (h : l ≠ []) : top l ∈ l := by
  cases l with
  | nil => exact absurd rfl h
  | cons a t =>
    show t.foldl (fun b x => if 0 < x.cmp b then x else b) a ∈ a :: t
    clear h
    induction t generalizing a with
    | nil => simp
    | cons b t ih =>
      simp only [List.foldl_cons]
      have := ih (if 0 < b.cmp a then b else a)
      rcases List.mem_cons.1 this with e | e
      · rw [e]; split <;> simp
      · simp [e]
/-- what the next ballot is -/
theorem next_cases (n i : Int) (l : List BV) (hl : ∀ q ∈ l, q.ok) (h0 : l ≠ []) : (next n i l = (BV.zero, 1) ∧ life n i = false) ∨ (next n i l = (BV.zero, 3) ∧ ∃ q ∈ l, 4611686018427387903 ≤ q.r) ∨
    ∃ b : BV, next n i l = (b, 0) ∧ b.n = n ∧ b.i = i ∧ b.may = true ∧ ∀ q ∈ l, q.r < b.r := by
  unfold next
  cases hlf : life n i
  · exact .inl ⟨rfl, rfl⟩
  · rw [if_pos rfl]
    by_cases ht : (top l).r < 4611686018427387903
    · rw [if_pos ht]
      refine .inr (.inr ⟨_, rfl, rfl, rfl, ?_, fun q hq => ?_⟩)
      · have := (top_ok hl).1
        simp only [BV.may, hlf, Bool.and_true, count, Bool.and_eq_true, decide_eq_true_eq]
        omega
      · have := top_ge hl q hq
        show q.r < (top l).r + 1
        omega
    · rw [if_neg ht]
      exact .inr (.inl ⟨rfl, _, top_mem h0, by omega⟩)
theorem BV.may_ok {b : BV} (h : b.may = true) : b.ok := by
  simp only [BV.may, life, count, Bool.and_eq_true, decide_eq_true_eq] at h
  unfold BV.ok
  omega
/-- a block with two ballots -/
abbrev Pair2 (q x : BV) : Obj := .cells #[.int .u64 q.r, .int .i64 q.n, .int .u64 q.i, .int .u64 x.r, .int .i64 x.n, .int .u64 x.i] 24
theorem BsAt.blk {W : World} {g : Nat} {l : List BV} {C : Array Value} (hg : W.heap[g]? = some (.cells C 24 (0, 0))) (hl : l.length ≤ 1000000) (hok : ∀ q ∈ l, q.ok) (hC : ∀ j q r, l[j]? = some q → r < 3 → C[j * 3 + r]? = q.cells[r]?) : BsAt W (.slice (some ⟨g, 0, none⟩) l.length l.length) l := by
  refine ⟨_, _, rfl, by omega, Nat.le_refl _, (fun h => by cases h), fun _ => ⟨_, 0, rfl, lt_of_block hg, fun j x hj => ⟨hok x (List.mem_of_getElem? hj), fun r hr => ?_⟩⟩⟩
  rw [Nat.zero_add, Go.Joins.cell_of_block hg]
  exact hC j x r hj hr
/-- Next of two ballots that were put side by side -/
theorem next_two (n i : Int) (q x : BV) (hq : q.ok) (hx : x.ok) (W : World) (g : Nat) (hg : W.heap[g]? = some (.cells #[.int .u64 q.r, .int .i64 q.n, .int .u64 q.i, .int .u64 x.r, .int .i64 x.n, .int .u64 x.i] 24 (0, 0))) :
    Calls Try.prog 18 #[.int .i64 n, .int .u64 i, .slice (some ⟨g, 0, none⟩) 2 2] W fun e w' => e = .returned (.tuple #[(next n i [q, x]).1.val, .int .i64 (next n i [q, x]).2]) ∧ Below W.heap.size W w' :=
  next_any n i _ [q, x] _ (BsAt.blk (l := [q, x]) hg (by simp) (fun y hy => by
      simp only [List.mem_cons, List.not_mem_nil, or_false] at hy
      rcases hy with rfl | rfl
      · exact hq
      · exact hx) (fun j y r hj hr => by
      have hjl := (List.getElem?_eq_some_iff.1 hj).1
      simp only [List.length_cons, List.length_nil] at hjl
      rcases (show j = 0 ∨ j = 1 by omega) with rfl | rfl
      · simp at hj; subst hj
        rcases (show r = 0 ∨ r = 1 ∨ r = 2 by omega) with rfl | rfl | rfl <;> rfl
      · simp at hj; subst hj
        rcases (show r = 0 ∨ r = 1 ∨ r = 2 by omega) with rfl | rfl | rfl <;> rfl))
theorem one_new (w : World) (a : Obj) : (w.alloc a).drew.heap[w.heap.size]? = some a := heap_alloc_new w a
theorem two_old (w : World) (a b : Obj) : ((w.alloc a).alloc b).drew.heap[w.heap.size]? = some a := by
  show ((w.alloc a).alloc b).heap[w.heap.size]? = some a
  rw [heap_alloc_old (h := by simp [World.size_alloc])]
  exact heap_alloc_new w a
theorem two_new (w : World) (a b : Obj) : ((w.alloc a).alloc b).drew.heap[w.heap.size + 1]? = some b := by
  show ((w.alloc a).alloc b).heap[w.heap.size + 1]? = some b
  have := heap_alloc_new (w.alloc a) b
  rwa [World.size_alloc] at this
theorem box_b {q x : BV} (B : BV) {wr w2 : World} (hb : Below ((wr.alloc (Pair2 q x)).alloc (.cells #[.int .u64 0, .int .i64 0, .int .u64 0] 24)).drew.heap.size ((wr.alloc (Pair2 q x)).alloc (.cells #[.int .u64 0, .int .i64 0, .int .u64 0] 24)).drew w2) :
    Below wr.heap.size wr w2 ∧ Box3 w2 (wr.heap.size + 1) BV.zero ∧ Below wr.heap.size wr (((w2.setCell ⟨wr.heap.size + 1, 0, none⟩ (.int .u64 B.r)).setCell ⟨wr.heap.size + 1, 1, none⟩ (.int .i64 B.n)).setCell ⟨wr.heap.size + 1, 2, none⟩ (.int .u64 B.i)) := by
  have hs : ((wr.alloc (Pair2 q x)).alloc (.cells #[.int .u64 0, .int .i64 0, .int .u64 0] 24)).drew.heap.size = wr.heap.size + 2 := by
    show ((wr.alloc _).alloc _).heap.size = _
    simp [World.size_alloc]
  have h1 := (Go.Joins.below_alloc2 wr (Pair2 q x) (.cells #[.int .u64 0, .int .i64 0, .int .u64 0] 24)).drew.trans (hb.mono (by omega))
  have h2 : Box3 w2 (wr.heap.size + 1) BV.zero := (hb.block _ (by omega)).trans (two_new wr _ _)
  exact ⟨h1, h2, h1.trans ((put3_chg w2 _ B).below h1.size fun k hk => by omega)⟩
theorem box_c {q x : BV} (B : BV) {wr w2 : World} (hb : Below ((wr.alloc (.cells #[.int .u64 0, .int .i64 0, .int .u64 0] 24)).alloc (Pair2 q x)).drew.heap.size ((wr.alloc (.cells #[.int .u64 0, .int .i64 0, .int .u64 0] 24)).alloc (Pair2 q x)).drew w2) :
    Below wr.heap.size wr w2 ∧ Box3 w2 wr.heap.size BV.zero ∧ Below wr.heap.size wr (((w2.setCell ⟨wr.heap.size, 0, none⟩ (.int .u64 B.r)).setCell ⟨wr.heap.size, 1, none⟩ (.int .i64 B.n)).setCell ⟨wr.heap.size, 2, none⟩ (.int .u64 B.i)) := by
  have hs : ((wr.alloc (.cells #[.int .u64 0, .int .i64 0, .int .u64 0] 24)).alloc (Pair2 q x)).drew.heap.size = wr.heap.size + 2 := by
    show ((wr.alloc _).alloc _).heap.size = _
    simp [World.size_alloc]
  have h1 := (Go.Joins.below_alloc2 wr (.cells #[.int .u64 0, .int .i64 0, .int .u64 0] 24) (Pair2 q x)).drew.trans (hb.mono (by omega))
  have h2 : Box3 w2 wr.heap.size BV.zero := (hb.block _ (by omega)).trans (two_old wr _ _)
  exact ⟨h1, h2, h1.trans ((put3_chg w2 _ B).below h1.size fun k hk => by omega)⟩
theorem calls_drew {f : Nat} {args : Array Value} {W : World} {Q : Ending → World → Prop} (h : ∀ W, Calls Try.prog f args W Q) : Calls Try.prog f args W.drew Q := h _
set_option maxRecDepth 100000 in
set_option maxHeartbeats 1000000 in
theorem rises_any (n i : Int) (v : Value) (l : List BV) (w : World) (hp : BsAt w v l) :
    Calls Try.prog 9 #[.int .i64 n, .int .u64 i, v] w fun e w' => e = .returned (.bool true) ∧ Below w.heap.size w w' := by
  have HP := Lib.hid hp
  have HOK := Lib.hid hp.ok
  obtain ⟨a, cap, rfl, hlen, _⟩ := hp
  obtain ⟨L, hL⟩ : ∃ L, l.length = L := ⟨_, rfl⟩
  rw [hL] at hlen HP ⊢
  have HL := Lib.hid hL
  clear hL
  by_cases h300 : 300 < L
  · have hd : decide ((300 : Int) < L) = true := by simp; omega
    go_enter Try.func9, Try.ntmps9
    go_wp2_with (go_at_call 10; refine (awake_any _).mono ?_; rintro e w1 ⟨rfl, hb1⟩; have HB := Lib.hid hb1; clear hb1)
    go_ret
    exact ⟨rfl, HB.out⟩
  · have hd : decide ((300 : Int) < L) = false := by simp; omega
    obtain ⟨W, hW⟩ : ∃ W, W = w.alloc (.cells #[.int .u64 0, .int .i64 0, .int .u64 0] 24) := ⟨_, rfl⟩
    have HW := Lib.hid (show Below w.heap.size w W ∧ Box3 W w.heap.size BV.zero from by
      rw [hW]; exact ⟨Go.Joins.below_alloc1 w _, Box3.new w BV.zero⟩)
    go_enter Try.func9, Try.ntmps9
    go_wp2
    rw [← hW]
    clear hW
    go_loopw [8] (fun j wr => ∃ k : Nat, k ≤ L ∧ j = .int .i64 (k : Nat) ∧ Hid (∃ q, Below w.heap.size w wr ∧ Box3 wr w.heap.size q ∧ q.ok)) (fun j _ => L - (intOf j).toNat)
    case atStart => exact ⟨0, Nat.zero_le _, rfl, _, HW.out.1, HW.out.2, ok3 _ _ _ (by decide)⟩
    case round =>
      obtain ⟨k, hk, rfl, HR⟩ := hrel
      obtain ⟨q, hb, hbx, hq⟩ := HR.out
      by_cases hlt : k < L
      · have hltz : (k : Int) < (L : Int) := by omega
        obtain ⟨x, hx⟩ : ∃ x, l[k]? = some x := ⟨_, List.getElem?_eq_getElem (by rw [HL.out]; exact hlt)⟩
        obtain ⟨a', cap', hv, _, _, _, hc⟩ := HP.out.below hb
        cases hv
        obtain ⟨b, off, rfl, hbl, hc⟩ := hc (by omega)
        obtain ⟨hxo, hr⟩ := hc k x hx
        have z0 := hbx.c0
        have z1 := hbx.c1
        have z2 := hbx.c2
        have c0 : wr.cell? ⟨b, off + k * 3, none⟩ = some (.int .u64 x.r) := hr 0 (by omega)
        have c1 : wr.cell? ⟨b, off + k * 3 + 1, none⟩ = some (.int .i64 x.n) := hr 1 (by omega)
        have c2 : wr.cell? ⟨b, off + k * 3 + 2, none⟩ = some (.int .u64 x.i) := hr 2 (by omega)
        have HN := Lib.hid (fun W g hg => next_two n i q x hq hxo W g hg)
        have hcs := next_cases n i [q, x] (by intro y hy; simp only [List.mem_cons, List.not_mem_nil, or_false] at hy; rcases hy with rfl | rfl; exact hq; exact hxo) (by simp)
        simp only [List.mem_cons, List.not_mem_nil, or_false, forall_eq_or_imp, forall_eq, exists_eq_or_imp, exists_eq_left] at hcs
        obtain ⟨B, E, hBE⟩ : ∃ B E, next n i [q, x] = (B, E) := ⟨_, _, rfl⟩
        rw [hBE] at hcs HN
        have HCS := Lib.hid hcs
        have HK := Lib.hid (show ∀ W, Below wr.heap.size wr W → (W.cell? ⟨w.heap.size, 0, none⟩ = some (.int .u64 q.r) ∧ W.cell? ⟨w.heap.size, 1, none⟩ = some (.int .i64 q.n) ∧ W.cell? ⟨w.heap.size, 2, none⟩ = some (.int .u64 q.i) ∧ W.cell? ⟨b, off + k * 3, none⟩ = some (.int .u64 x.r) ∧ W.cell? ⟨b, off + k * 3 + 1, none⟩ = some (.int .i64 x.n) ∧ W.cell? ⟨b, off + k * 3 + 2, none⟩ = some (.int .u64 x.i)) from fun W h => by
          have h3 := hbx.below h hbx.lt
          refine ⟨h3.c0, h3.c1, h3.c2, ?_, ?_, ?_⟩
          · rw [h.cell (show (⟨b, off + k * 3, none⟩ : Addr).block < _ from hbl)]; exact c0
          · rw [h.cell (show (⟨b, off + k * 3 + 1, none⟩ : Addr).block < _ from hbl)]; exact c1
          · rw [h.cell (show (⟨b, off + k * 3 + 2, none⟩ : Addr).block < _ from hbl)]; exact c2)
        have B0 := Lib.hid (Below.refl wr.heap.size wr).drew
        have HBX := Lib.hid (And.intro hb hbx)
        have HXO := Lib.hid (And.intro hq (And.intro hxo hx))
        clear hcs hBE hc hr hbl hb hbx hq hxo hx
        go_wp2_with fail
        go_region_held (fun W' => W'.cell? ⟨w.heap.size, 0, none⟩ = some (.int .u64 q.r) ∧ W'.cell? ⟨w.heap.size, 1, none⟩ = some (.int .i64 q.n) ∧ W'.cell? ⟨w.heap.size, 2, none⟩ = some (.int .u64 q.i) ∧ W'.cell? ⟨b, off + k * 3, none⟩ = some (.int .u64 x.r) ∧ W'.cell? ⟨b, off + k * 3 + 1, none⟩ = some (.int .i64 x.n) ∧ W'.cell? ⟨b, off + k * 3 + 2, none⟩ = some (.int .u64 x.i))
          ((refine HK.out _ ?_; with_reducible (first | exact P2.out | exact B2.out.alloc B2.out.size _ | exact B2.out | exact B0.out | exact (Go.Joins.below_alloc1 wr _).drew | exact (Go.Joins.below_alloc2 wr _ _).drew))) (first
          | (go_at_call 18; refine (HN.out _ _ ?_).mono ?_; (with_reducible exact one_new wr _); rintro e w2 ⟨rfl, hb2⟩; have B2 := Lib.hid ((Go.Joins.below_alloc1 wr (Pair2 q x)).drew.trans (hb2.mono (Nat.le_of_lt (lt_of_block (heap_alloc_new wr (Pair2 q x)))))); clear hb2)
          | (go_at_call 18; refine (HN.out _ _ ?_).mono ?_; (with_reducible exact two_old wr _ _); rintro e w2 ⟨rfl, hb2⟩; obtain ⟨B2, y2, hP⟩ := box_b (q := q) (x := x) B hb2; have P2 := Lib.hid hP; have B2 := Lib.hid B2; have y20 := y2.c0; have y21 := y2.c1; have y22 := y2.c2; have yf := y2.fz; have Y2 := Lib.hid y2; clear hb2 y2 hP)
          | (go_at_call 18; refine (HN.out _ _ ?_).mono ?_; (with_reducible exact two_new wr _ _); rintro e w2 ⟨rfl, hb2⟩; obtain ⟨B2, y2, hP⟩ := box_c (q := q) (x := x) B hb2; have P2 := Lib.hid hP; have B2 := Lib.hid B2; have y20 := y2.c0; have y21 := y2.c1; have y22 := y2.c2; have yf := y2.fz; have Y2 := Lib.hid y2; clear hb2 y2 hP))
        · have HF : Box3 (w2.alloc (.cells #[.int .u64 B.r, .int .i64 B.n, .int .u64 B.i] 24)) (w2.heap.size) B ∧ Below wr.heap.size wr (w2.alloc (.cells #[.int .u64 B.r, .int .i64 B.n, .int .u64 B.i] 24)) := ⟨Box3.new w2 B, B2.out.alloc B2.out.size _⟩
          generalize w2.alloc (.cells #[.int .u64 B.r, .int .i64 B.n, .int .u64 B.i] 24) = W3 at HF ⊢
          generalize w2.heap.size = gb at HF ⊢
          obtain ⟨y, hb3⟩ := HF
          obtain ⟨z0, z1, z2, c0, c1, c2⟩ := HK.out W3 hb3
          have y0 := y.c0
          have y1 := y.c1
          have y2 := y.c2
          have hbw := HBX.out.1.trans (hb3.mono HBX.out.1.size)
          have HZ := Lib.hid (And.intro hbw (And.intro (HBX.out.2.below hb3 HBX.out.2.lt) y))
          clear y hb3 hbw HK B0 B2
          rcases HCS.out with ⟨hBE, _⟩ | ⟨hBE, hor⟩ | ⟨b', hBE, hn', hi', hmay, h1, h2⟩
          · cases hBE
            go_wp2_with (go_at_call 10; refine (awake_any _).mono ?_; rintro e w1 ⟨rfl, hb1⟩; have HB1 := Lib.hid (HZ.out.1.trans (hb1.mono HZ.out.1.size)); clear hb1)
            go_ret
            exact ⟨rfl, HB1.out⟩
          · cases hBE
            by_cases hxr : 4611686018427387903 ≤ x.r
            · go_wp2_with (go_at_call 10; refine (awake_any _).mono ?_; rintro e w1 ⟨rfl, hb1⟩; have HB1 := Lib.hid (HZ.out.1.trans (hb1.mono HZ.out.1.size)); clear hb1)
              go_ret
              exact ⟨rfl, HB1.out⟩
            · have hqr : 4611686018427387903 ≤ q.r := hor.resolve_right hxr
              clear hor
              go_wp2_with (go_at_call 10; refine (awake_any _).mono ?_; rintro e w1 ⟨rfl, hb1⟩; have HB1 := Lib.hid (HZ.out.1.trans (hb1.mono HZ.out.1.size)); clear hb1)
              go_ret
              exact ⟨rfl, HB1.out⟩
          · cases hBE
            have hq1 : (B.n != n) = false := by simp [hn']
            have hq2 : (B.i != i) = false := by simp [hi']
            have C1 := Lib.hid (fun W => (cmp_any q B W).mono fun e w' h => (show e = .returned (.int .i64 (-1)) ∧ Below W.heap.size W w' from by rw [cmp_lt h1] at h; exact h))
            have C2 := Lib.hid (fun W => (cmp_any x B W).mono fun e w' h => (show e = .returned (.int .i64 (-1)) ∧ Below W.heap.size W w' from by rw [cmp_lt h2] at h; exact h))
            have C3 := Lib.hid (fun W => (may_any B W).mono fun e w' h => (show e = .returned (.bool true) ∧ Below W.heap.size W w' from by rw [hmay] at h; exact h))
            have HBO := Lib.hid (BV.may_ok hmay)
            have HK3 := Lib.hid (show ∀ W, Below W3.heap.size W3 W → (W.cell? ⟨w.heap.size, 0, none⟩ = some (.int .u64 q.r) ∧ W.cell? ⟨w.heap.size, 1, none⟩ = some (.int .i64 q.n) ∧ W.cell? ⟨w.heap.size, 2, none⟩ = some (.int .u64 q.i) ∧ W.cell? ⟨b, off + k * 3, none⟩ = some (.int .u64 x.r) ∧ W.cell? ⟨b, off + k * 3 + 1, none⟩ = some (.int .i64 x.n) ∧ W.cell? ⟨b, off + k * 3 + 2, none⟩ = some (.int .u64 x.i) ∧ W.cell? ⟨gb, 0, none⟩ = some (.int .u64 B.r) ∧ W.cell? ⟨gb, 1, none⟩ = some (.int .i64 B.n) ∧ W.cell? ⟨gb, 2, none⟩ = some (.int .u64 B.i)) from fun W h => by
              obtain ⟨_, hz, hy⟩ := HZ.out
              have hz := hz.below h hz.lt
              have hy := hy.below h hy.lt
              have hbl := World.block_lt_of_cell? W3 _ c0
              refine ⟨hz.c0, hz.c1, hz.c2, ?_, ?_, ?_, hy.c0, hy.c1, hy.c2⟩
              · rw [h.cell (show (⟨b, off + k * 3, none⟩ : Addr).block < _ from hbl)]; exact c0
              · rw [h.cell (show (⟨b, off + k * 3 + 1, none⟩ : Addr).block < _ from hbl)]; exact c1
              · rw [h.cell (show (⟨b, off + k * 3 + 2, none⟩ : Addr).block < _ from hbl)]; exact c2)
            have V0 := Lib.hid (Below.refl W3.heap.size W3).drew
            have K1 : True := trivial
            clear hmay h1 h2 hn' hi'
            go_wp2_with fail
            go_region_held (fun W => W.cell? ⟨w.heap.size, 0, none⟩ = some (.int .u64 q.r) ∧ W.cell? ⟨w.heap.size, 1, none⟩ = some (.int .i64 q.n) ∧ W.cell? ⟨w.heap.size, 2, none⟩ = some (.int .u64 q.i) ∧ W.cell? ⟨b, off + k * 3, none⟩ = some (.int .u64 x.r) ∧ W.cell? ⟨b, off + k * 3 + 1, none⟩ = some (.int .i64 x.n) ∧ W.cell? ⟨b, off + k * 3 + 2, none⟩ = some (.int .u64 x.i) ∧ W.cell? ⟨gb, 0, none⟩ = some (.int .u64 B.r) ∧ W.cell? ⟨gb, 1, none⟩ = some (.int .i64 B.n) ∧ W.cell? ⟨gb, 2, none⟩ = some (.int .u64 B.i))
              ((refine HK3.out _ ?_; with_reducible (first | exact V3.out | exact V2.out | exact V1.out | exact V0.out))) (first
              | (clear K1; go_at_call 16; refine (C1.out _).mono ?_; rintro e v1 ⟨rfl, hv⟩; have V1 := Lib.hid (V0.out.trans (hv.mono V0.out.size)); clear hv)
              | (go_at_call 16; refine (C2.out _).mono ?_; rintro e v2 ⟨rfl, hv⟩; have V2 := Lib.hid (V1.out.trans (hv.mono V1.out.size)); clear hv)
              | (go_at_call 14; refine (C3.out _).mono ?_; rintro e v3 ⟨rfl, hv⟩; have V3 := Lib.hid (V2.out.trans (hv.mono V2.out.size)); clear hv))
            obtain ⟨hb0, hz, hy⟩ := HZ.out
            have hz := hz.below V3.out hz.lt
            have hy := hy.below V3.out hy.lt
            have hbw := hb0.trans (V3.out.mono hb0.size)
            have s0 := hz.c0
            have s1 := hz.c1
            have s2 := hz.c2
            have sf := hz.fz
            have t0 := hy.c0
            have t1 := hy.c1
            have t2 := hy.c2
            have HX := Lib.hid (show ∃ q', Below w.heap.size w (put3 v3 w.heap.size B) ∧ Box3 (put3 v3 w.heap.size B) w.heap.size q' ∧ q'.ok from ⟨B, hbw.trans ((put3_chg v3 w.heap.size B).below hbw.size fun k hk => by omega), hz.put B, HBO.out⟩)
            clear hb0 hz hy hbw
            go_wp2
            go_roundw
            case rel => exact ⟨k + 1, by omega, by go_num, HX.out⟩
            case measure => simp [intOf]; omega
        · have HF : Box3 ((((w2.setCell ⟨wr.heap.size + 1, 0, none⟩ (.int .u64 B.r)).setCell ⟨wr.heap.size + 1, 1, none⟩ (.int .i64 B.n)).setCell ⟨wr.heap.size + 1, 2, none⟩ (.int .u64 B.i))) (wr.heap.size + 1) B ∧ Below wr.heap.size wr ((((w2.setCell ⟨wr.heap.size + 1, 0, none⟩ (.int .u64 B.r)).setCell ⟨wr.heap.size + 1, 1, none⟩ (.int .i64 B.n)).setCell ⟨wr.heap.size + 1, 2, none⟩ (.int .u64 B.i))) := ⟨Y2.out.put B, P2.out⟩
          generalize (((w2.setCell ⟨wr.heap.size + 1, 0, none⟩ (.int .u64 B.r)).setCell ⟨wr.heap.size + 1, 1, none⟩ (.int .i64 B.n)).setCell ⟨wr.heap.size + 1, 2, none⟩ (.int .u64 B.i)) = W3 at HF ⊢
          generalize wr.heap.size + 1 = gb at HF ⊢
          obtain ⟨y, hb3⟩ := HF
          obtain ⟨z0, z1, z2, c0, c1, c2⟩ := HK.out W3 hb3
          have y0 := y.c0
          have y1 := y.c1
          have y2 := y.c2
          have hbw := HBX.out.1.trans (hb3.mono HBX.out.1.size)
          have HZ := Lib.hid (And.intro hbw (And.intro (HBX.out.2.below hb3 HBX.out.2.lt) y))
          clear y hb3 hbw HK B0 B2
          rcases HCS.out with ⟨hBE, _⟩ | ⟨hBE, hor⟩ | ⟨b', hBE, hn', hi', hmay, h1, h2⟩
          · cases hBE
            go_wp2_with (go_at_call 10; refine (awake_any _).mono ?_; rintro e w1 ⟨rfl, hb1⟩; have HB1 := Lib.hid (HZ.out.1.trans (hb1.mono HZ.out.1.size)); clear hb1)
            go_ret
            exact ⟨rfl, HB1.out⟩
          · cases hBE
            by_cases hxr : 4611686018427387903 ≤ x.r
            · go_wp2_with (go_at_call 10; refine (awake_any _).mono ?_; rintro e w1 ⟨rfl, hb1⟩; have HB1 := Lib.hid (HZ.out.1.trans (hb1.mono HZ.out.1.size)); clear hb1)
              go_ret
              exact ⟨rfl, HB1.out⟩
            · have hqr : 4611686018427387903 ≤ q.r := hor.resolve_right hxr
              clear hor
              go_wp2_with (go_at_call 10; refine (awake_any _).mono ?_; rintro e w1 ⟨rfl, hb1⟩; have HB1 := Lib.hid (HZ.out.1.trans (hb1.mono HZ.out.1.size)); clear hb1)
              go_ret
              exact ⟨rfl, HB1.out⟩
          · cases hBE
            have hq1 : (B.n != n) = false := by simp [hn']
            have hq2 : (B.i != i) = false := by simp [hi']
            have C1 := Lib.hid (fun W => (cmp_any q B W).mono fun e w' h => (show e = .returned (.int .i64 (-1)) ∧ Below W.heap.size W w' from by rw [cmp_lt h1] at h; exact h))
            have C2 := Lib.hid (fun W => (cmp_any x B W).mono fun e w' h => (show e = .returned (.int .i64 (-1)) ∧ Below W.heap.size W w' from by rw [cmp_lt h2] at h; exact h))
            have C3 := Lib.hid (fun W => (may_any B W).mono fun e w' h => (show e = .returned (.bool true) ∧ Below W.heap.size W w' from by rw [hmay] at h; exact h))
            have HBO := Lib.hid (BV.may_ok hmay)
            have HK3 := Lib.hid (show ∀ W, Below W3.heap.size W3 W → (W.cell? ⟨w.heap.size, 0, none⟩ = some (.int .u64 q.r) ∧ W.cell? ⟨w.heap.size, 1, none⟩ = some (.int .i64 q.n) ∧ W.cell? ⟨w.heap.size, 2, none⟩ = some (.int .u64 q.i) ∧ W.cell? ⟨b, off + k * 3, none⟩ = some (.int .u64 x.r) ∧ W.cell? ⟨b, off + k * 3 + 1, none⟩ = some (.int .i64 x.n) ∧ W.cell? ⟨b, off + k * 3 + 2, none⟩ = some (.int .u64 x.i) ∧ W.cell? ⟨gb, 0, none⟩ = some (.int .u64 B.r) ∧ W.cell? ⟨gb, 1, none⟩ = some (.int .i64 B.n) ∧ W.cell? ⟨gb, 2, none⟩ = some (.int .u64 B.i)) from fun W h => by
              obtain ⟨_, hz, hy⟩ := HZ.out
              have hz := hz.below h hz.lt
              have hy := hy.below h hy.lt
              have hbl := World.block_lt_of_cell? W3 _ c0
              refine ⟨hz.c0, hz.c1, hz.c2, ?_, ?_, ?_, hy.c0, hy.c1, hy.c2⟩
              · rw [h.cell (show (⟨b, off + k * 3, none⟩ : Addr).block < _ from hbl)]; exact c0
              · rw [h.cell (show (⟨b, off + k * 3 + 1, none⟩ : Addr).block < _ from hbl)]; exact c1
              · rw [h.cell (show (⟨b, off + k * 3 + 2, none⟩ : Addr).block < _ from hbl)]; exact c2)
            have V0 := Lib.hid (Below.refl W3.heap.size W3).drew
            have K1 : True := trivial
            clear hmay h1 h2 hn' hi'
            go_wp2_with fail
            go_region_held (fun W => W.cell? ⟨w.heap.size, 0, none⟩ = some (.int .u64 q.r) ∧ W.cell? ⟨w.heap.size, 1, none⟩ = some (.int .i64 q.n) ∧ W.cell? ⟨w.heap.size, 2, none⟩ = some (.int .u64 q.i) ∧ W.cell? ⟨b, off + k * 3, none⟩ = some (.int .u64 x.r) ∧ W.cell? ⟨b, off + k * 3 + 1, none⟩ = some (.int .i64 x.n) ∧ W.cell? ⟨b, off + k * 3 + 2, none⟩ = some (.int .u64 x.i) ∧ W.cell? ⟨gb, 0, none⟩ = some (.int .u64 B.r) ∧ W.cell? ⟨gb, 1, none⟩ = some (.int .i64 B.n) ∧ W.cell? ⟨gb, 2, none⟩ = some (.int .u64 B.i))
              ((refine HK3.out _ ?_; with_reducible (first | exact V3.out | exact V2.out | exact V1.out | exact V0.out))) (first
              | (clear K1; go_at_call 16; refine (C1.out _).mono ?_; rintro e v1 ⟨rfl, hv⟩; have V1 := Lib.hid (V0.out.trans (hv.mono V0.out.size)); clear hv)
              | (go_at_call 16; refine (C2.out _).mono ?_; rintro e v2 ⟨rfl, hv⟩; have V2 := Lib.hid (V1.out.trans (hv.mono V1.out.size)); clear hv)
              | (go_at_call 14; refine (C3.out _).mono ?_; rintro e v3 ⟨rfl, hv⟩; have V3 := Lib.hid (V2.out.trans (hv.mono V2.out.size)); clear hv))
            obtain ⟨hb0, hz, hy⟩ := HZ.out
            have hz := hz.below V3.out hz.lt
            have hy := hy.below V3.out hy.lt
            have hbw := hb0.trans (V3.out.mono hb0.size)
            have s0 := hz.c0
            have s1 := hz.c1
            have s2 := hz.c2
            have sf := hz.fz
            have t0 := hy.c0
            have t1 := hy.c1
            have t2 := hy.c2
            have HX := Lib.hid (show ∃ q', Below w.heap.size w (put3 v3 w.heap.size B) ∧ Box3 (put3 v3 w.heap.size B) w.heap.size q' ∧ q'.ok from ⟨B, hbw.trans ((put3_chg v3 w.heap.size B).below hbw.size fun k hk => by omega), hz.put B, HBO.out⟩)
            clear hb0 hz hy hbw
            go_wp2
            go_roundw
            case rel => exact ⟨k + 1, by omega, by go_num, HX.out⟩
            case measure => simp [intOf]; omega
        · have HF : Box3 ((((w2.setCell ⟨wr.heap.size, 0, none⟩ (.int .u64 B.r)).setCell ⟨wr.heap.size, 1, none⟩ (.int .i64 B.n)).setCell ⟨wr.heap.size, 2, none⟩ (.int .u64 B.i))) (wr.heap.size) B ∧ Below wr.heap.size wr ((((w2.setCell ⟨wr.heap.size, 0, none⟩ (.int .u64 B.r)).setCell ⟨wr.heap.size, 1, none⟩ (.int .i64 B.n)).setCell ⟨wr.heap.size, 2, none⟩ (.int .u64 B.i))) := ⟨Y2.out.put B, P2.out⟩
          generalize (((w2.setCell ⟨wr.heap.size, 0, none⟩ (.int .u64 B.r)).setCell ⟨wr.heap.size, 1, none⟩ (.int .i64 B.n)).setCell ⟨wr.heap.size, 2, none⟩ (.int .u64 B.i)) = W3 at HF ⊢
          obtain ⟨y, hb3⟩ := HF
          generalize wr.heap.size = gb at y ⊢
          obtain ⟨z0, z1, z2, c0, c1, c2⟩ := HK.out W3 hb3
          have y0 := y.c0
          have y1 := y.c1
          have y2 := y.c2
          have hbw := HBX.out.1.trans (hb3.mono HBX.out.1.size)
          have HZ := Lib.hid (And.intro hbw (And.intro (HBX.out.2.below hb3 HBX.out.2.lt) y))
          clear y hb3 hbw HK B0 B2
          rcases HCS.out with ⟨hBE, _⟩ | ⟨hBE, hor⟩ | ⟨b', hBE, hn', hi', hmay, h1, h2⟩
          · cases hBE
            go_wp2_with (go_at_call 10; refine (awake_any _).mono ?_; rintro e w1 ⟨rfl, hb1⟩; have HB1 := Lib.hid (HZ.out.1.trans (hb1.mono HZ.out.1.size)); clear hb1)
            go_ret
            exact ⟨rfl, HB1.out⟩
          · cases hBE
            by_cases hxr : 4611686018427387903 ≤ x.r
            · go_wp2_with (go_at_call 10; refine (awake_any _).mono ?_; rintro e w1 ⟨rfl, hb1⟩; have HB1 := Lib.hid (HZ.out.1.trans (hb1.mono HZ.out.1.size)); clear hb1)
              go_ret
              exact ⟨rfl, HB1.out⟩
            · have hqr : 4611686018427387903 ≤ q.r := hor.resolve_right hxr
              clear hor
              go_wp2_with (go_at_call 10; refine (awake_any _).mono ?_; rintro e w1 ⟨rfl, hb1⟩; have HB1 := Lib.hid (HZ.out.1.trans (hb1.mono HZ.out.1.size)); clear hb1)
              go_ret
              exact ⟨rfl, HB1.out⟩
          · cases hBE
            have hq1 : (B.n != n) = false := by simp [hn']
            have hq2 : (B.i != i) = false := by simp [hi']
            have C1 := Lib.hid (fun W => (cmp_any q B W).mono fun e w' h => (show e = .returned (.int .i64 (-1)) ∧ Below W.heap.size W w' from by rw [cmp_lt h1] at h; exact h))
            have C2 := Lib.hid (fun W => (cmp_any x B W).mono fun e w' h => (show e = .returned (.int .i64 (-1)) ∧ Below W.heap.size W w' from by rw [cmp_lt h2] at h; exact h))
            have C3 := Lib.hid (fun W => (may_any B W).mono fun e w' h => (show e = .returned (.bool true) ∧ Below W.heap.size W w' from by rw [hmay] at h; exact h))
            have HBO := Lib.hid (BV.may_ok hmay)
            have HK3 := Lib.hid (show ∀ W, Below W3.heap.size W3 W → (W.cell? ⟨w.heap.size, 0, none⟩ = some (.int .u64 q.r) ∧ W.cell? ⟨w.heap.size, 1, none⟩ = some (.int .i64 q.n) ∧ W.cell? ⟨w.heap.size, 2, none⟩ = some (.int .u64 q.i) ∧ W.cell? ⟨b, off + k * 3, none⟩ = some (.int .u64 x.r) ∧ W.cell? ⟨b, off + k * 3 + 1, none⟩ = some (.int .i64 x.n) ∧ W.cell? ⟨b, off + k * 3 + 2, none⟩ = some (.int .u64 x.i) ∧ W.cell? ⟨gb, 0, none⟩ = some (.int .u64 B.r) ∧ W.cell? ⟨gb, 1, none⟩ = some (.int .i64 B.n) ∧ W.cell? ⟨gb, 2, none⟩ = some (.int .u64 B.i)) from fun W h => by
              obtain ⟨_, hz, hy⟩ := HZ.out
              have hz := hz.below h hz.lt
              have hy := hy.below h hy.lt
              have hbl := World.block_lt_of_cell? W3 _ c0
              refine ⟨hz.c0, hz.c1, hz.c2, ?_, ?_, ?_, hy.c0, hy.c1, hy.c2⟩
              · rw [h.cell (show (⟨b, off + k * 3, none⟩ : Addr).block < _ from hbl)]; exact c0
              · rw [h.cell (show (⟨b, off + k * 3 + 1, none⟩ : Addr).block < _ from hbl)]; exact c1
              · rw [h.cell (show (⟨b, off + k * 3 + 2, none⟩ : Addr).block < _ from hbl)]; exact c2)
            have V0 := Lib.hid (Below.refl W3.heap.size W3).drew
            have K1 : True := trivial
            clear hmay h1 h2 hn' hi'
            go_wp2_with fail
            go_region_held (fun W => W.cell? ⟨w.heap.size, 0, none⟩ = some (.int .u64 q.r) ∧ W.cell? ⟨w.heap.size, 1, none⟩ = some (.int .i64 q.n) ∧ W.cell? ⟨w.heap.size, 2, none⟩ = some (.int .u64 q.i) ∧ W.cell? ⟨b, off + k * 3, none⟩ = some (.int .u64 x.r) ∧ W.cell? ⟨b, off + k * 3 + 1, none⟩ = some (.int .i64 x.n) ∧ W.cell? ⟨b, off + k * 3 + 2, none⟩ = some (.int .u64 x.i) ∧ W.cell? ⟨gb, 0, none⟩ = some (.int .u64 B.r) ∧ W.cell? ⟨gb, 1, none⟩ = some (.int .i64 B.n) ∧ W.cell? ⟨gb, 2, none⟩ = some (.int .u64 B.i))
              ((refine HK3.out _ ?_; with_reducible (first | exact V3.out | exact V2.out | exact V1.out | exact V0.out))) (first
              | (clear K1; go_at_call 16; refine (C1.out _).mono ?_; rintro e v1 ⟨rfl, hv⟩; have V1 := Lib.hid (V0.out.trans (hv.mono V0.out.size)); clear hv)
              | (go_at_call 16; refine (C2.out _).mono ?_; rintro e v2 ⟨rfl, hv⟩; have V2 := Lib.hid (V1.out.trans (hv.mono V1.out.size)); clear hv)
              | (go_at_call 14; refine (C3.out _).mono ?_; rintro e v3 ⟨rfl, hv⟩; have V3 := Lib.hid (V2.out.trans (hv.mono V2.out.size)); clear hv))
            obtain ⟨hb0, hz, hy⟩ := HZ.out
            have hz := hz.below V3.out hz.lt
            have hy := hy.below V3.out hy.lt
            have hbw := hb0.trans (V3.out.mono hb0.size)
            have s0 := hz.c0
            have s1 := hz.c1
            have s2 := hz.c2
            have sf := hz.fz
            have t0 := hy.c0
            have t1 := hy.c1
            have t2 := hy.c2
            have HX := Lib.hid (show ∃ q', Below w.heap.size w (put3 v3 w.heap.size B) ∧ Box3 (put3 v3 w.heap.size B) w.heap.size q' ∧ q'.ok from ⟨B, hbw.trans ((put3_chg v3 w.heap.size B).below hbw.size fun k hk => by omega), hz.put B, HBO.out⟩)
            clear hb0 hz hy hbw
            go_wp2
            go_roundw
            case rel => exact ⟨k + 1, by omega, by go_num, HX.out⟩
            case measure => simp [intOf]; omega
      · obtain rfl : k = L := by omega
        have HB := Lib.hid hb
        clear hb hbx hq HR
        go_wp2_with (go_at_call 10; refine (awake_any _).mono ?_; rintro e w1 ⟨rfl, hb1⟩; have HB1 := Lib.hid (HB.out.trans (hb1.mono HB.out.size)); clear hb1)
        go_ret
        exact ⟨rfl, HB1.out⟩
end Go.Proofs.Ytomoomeocolkmaa
