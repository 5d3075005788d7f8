/- Promises: cells, boxes; the two closures of Highest; the highest of promises; slices.Clone of promises. -/
import Derived.Test.YtomoomeocolkmaaHigh
import Derived.Test.YtomoomeocolkmaaGrow
namespace Go.Proofs.Ytomoomeocolkmaa
open Go.RowKit
/-- a promise; ua, uc: where its bytes lie -/
structure PV where
  f : Int
  p : BV
  a : BV
  ua : Option Addr
  uc : Nat
  b : List UInt8
instance : Inhabited PV := ⟨⟨0, ⟨0, 0, 0⟩, ⟨0, 0, 0⟩, none, 0, []⟩⟩
def PV.zero : PV := ⟨0, ⟨0, 0, 0⟩, ⟨0, 0, 0⟩, none, 0, []⟩
def PV.cells (q : PV) : List Value := [.int .i64 q.f, .int .u64 q.p.r, .int .i64 q.p.n, .int .u64 q.p.i, .int .u64 q.a.r, .int .i64 q.a.n, .int .u64 q.a.i, .slice q.ua q.b.length q.uc]
abbrev PV.val (q : PV) : Value := .agg #[.int .i64 q.f, .int .u64 q.p.r, .int .i64 q.p.n, .int .u64 q.p.i, .int .u64 q.a.r, .int .i64 q.a.n, .int .u64 q.a.i, .slice q.ua q.b.length q.uc]
abbrev PV.obj (q : PV) : Obj := .cells #[.int .i64 q.f, .int .u64 q.p.r, .int .i64 q.p.n, .int .u64 q.p.i, .int .u64 q.a.r, .int .i64 q.a.n, .int .u64 q.a.i, .slice q.ua q.b.length q.uc] 47
/-- as it lies in w -/
def PV.ok (w : World) (q : PV) : Prop := (-9223372036854775808 ≤ q.f ∧ q.f ≤ 9223372036854775807) ∧ q.p.ok ∧ q.a.ok ∧ BytesAt w (.slice q.ua q.b.length q.uc) q.b
theorem PV.ok.below {w w' : World} {q : PV} (h : q.ok w) (hb : Below w.heap.size w w') : q.ok w' := ⟨h.1, h.2.1, h.2.2.1, BytesIn.below h.2.2.2 hb (Nat.le_refl _)⟩
abbrev PsAt (w : World) (v : Value) (l : List PV) : Prop := RowAt PV.ok 8 PV.cells w v l
theorem PsAt.below {w w' : World} {v : Value} {l : List PV} (h : PsAt w v l) (hb : Below w.heap.size w w') : PsAt w' v l := RowAt.below h hb fun _ h => h.below hb
/-- block g holds the promise q -/
def Box8 (w : World) (g : Nat) (q : PV) : Prop := w.heap[g]? = some (.cells #[.int .i64 q.f, .int .u64 q.p.r, .int .i64 q.p.n, .int .u64 q.p.i, .int .u64 q.a.r, .int .i64 q.a.n, .int .u64 q.a.i, .slice q.ua q.b.length q.uc] 47 (0, 0))
theorem Box8.new (w : World) (q : PV) : Box8 (w.alloc q.obj) w.heap.size q := heap_alloc_new _ _
theorem Box8.lt {w : World} {g : Nat} {q : PV} (h : Box8 w g q) : g < w.heap.size := lt_of_block h
theorem Box8.below {w w' : World} {B g : Nat} {q : PV} (h : Box8 w g q) (hb : Below B w w') (hB : g < B) : Box8 w' g q := (hb.block _ hB).trans h
theorem Box8.c {w : World} {g : Nat} {q : PV} (h : Box8 w g q) : w.cell? ⟨g, 0, none⟩ = some (.int .i64 q.f) ∧ w.cell? ⟨g, 1, none⟩ = some (.int .u64 q.p.r) ∧ w.cell? ⟨g, 2, none⟩ = some (.int .i64 q.p.n) ∧ w.cell? ⟨g, 3, none⟩ = some (.int .u64 q.p.i) ∧ w.cell? ⟨g, 4, none⟩ = some (.int .u64 q.a.r) ∧ w.cell? ⟨g, 5, none⟩ = some (.int .i64 q.a.n) ∧ w.cell? ⟨g, 6, none⟩ = some (.int .u64 q.a.i) ∧ w.cell? ⟨g, 7, none⟩ = some (.slice q.ua q.b.length q.uc) := by
  refine ⟨?_, ?_, ?_, ?_, ?_, ?_, ?_, ?_⟩ <;> (rw [Go.Joins.cell_of_block h]; rfl)
theorem Box8.fz {w : World} {g : Nat} {q : PV} (h : Box8 w g q) (j : Nat) : w.frozen? ⟨g, j, none⟩ = false := by unfold Box8 at h; simp [World.frozen?, h]
/-- a promise is stored at g from o on -/
def put8 (w : World) (g o : Nat) (q : PV) : World := (((((((w.setCell ⟨g, o, none⟩ (.int .i64 q.f)).setCell ⟨g, o + 1, none⟩ (.int .u64 q.p.r)).setCell ⟨g, o + 2, none⟩ (.int .i64 q.p.n)).setCell ⟨g, o + 3, none⟩ (.int .u64 q.p.i)).setCell ⟨g, o + 4, none⟩ (.int .u64 q.a.r)).setCell ⟨g, o + 5, none⟩ (.int .i64 q.a.n)).setCell ⟨g, o + 6, none⟩ (.int .u64 q.a.i)).setCell ⟨g, o + 7, none⟩ (.slice q.ua q.b.length q.uc)
theorem Box8.put {w : World} {g : Nat} {q : PV} (h : Box8 w g q) (q' : PV) : Box8 (put8 w g 0 q') g q' := by
  have h0 := Go.Joins.block_setCell (i := 0) h (.int .i64 q'.f)
  have h1 := Go.Joins.block_setCell (i := 0 + 1) h0 (.int .u64 q'.p.r)
  have h2 := Go.Joins.block_setCell (i := 0 + 2) h1 (.int .i64 q'.p.n)
  have h3 := Go.Joins.block_setCell (i := 0 + 3) h2 (.int .u64 q'.p.i)
  have h4 := Go.Joins.block_setCell (i := 0 + 4) h3 (.int .u64 q'.a.r)
  have h5 := Go.Joins.block_setCell (i := 0 + 5) h4 (.int .i64 q'.a.n)
  have h6 := Go.Joins.block_setCell (i := 0 + 6) h5 (.int .u64 q'.a.i)
  have h7 := Go.Joins.block_setCell (i := 0 + 7) h6 (.slice q'.ua q'.b.length q'.uc)
  unfold Box8
  refine h7.trans ?_
  simp only [Nat.zero_add, List.setIfInBounds_toArray, List.set_cons_zero, List.set_cons_succ]
theorem put8_chg (w : World) (g o : Nat) (q : PV) : Chg (fun k => k = g) w (put8 w g o q) :=
  ((((((((Chg.refl (fun k => k = g) w).setCell (p := ⟨g, o, none⟩) (.inl rfl) _).setCell (p := ⟨g, o + 1, none⟩) (.inl rfl) _).setCell (p := ⟨g, o + 2, none⟩) (.inl rfl) _).setCell (p := ⟨g, o + 3, none⟩) (.inl rfl) _).setCell (p := ⟨g, o + 4, none⟩) (.inl rfl) _).setCell (p := ⟨g, o + 5, none⟩) (.inl rfl) _).setCell (p := ⟨g, o + 6, none⟩) (.inl rfl) _).setCell (p := ⟨g, o + 7, none⟩) (.inl rfl) _
theorem results_prom {fn : Func} {p u : Tmp} (h : fn.results = #[.cell p 47, .tmp u]) (tmps : Array Value) (w : World) (g : Nat) (q : PV) (hp : tmps.getD p undef = .pointer (some ⟨g, 0, none⟩)) (hg : Box8 w g q) :
    (results fn tmps).run Try.prog w = .ok (.tuple #[q.val, tmps.getD u undef]) w := by
  rw [results_cell_tmp h, hp]
  simp [asAddr, Result.andThen, run_loadVar_row w g 47 47 _ _ _ hg Try.underlying47 rfl (by kernel_rfl)]
theorem ends_prom {f : Func} {p u : Tmp} {tmps : Array Value} {w w3 : World} {q z : PV} {c : Value} (h : f.results = #[.cell p 47, .tmp u]) (hp : tmps.getD p undef = .pointer (some ⟨w.heap.size, 0, none⟩)) (hu : tmps.getD u undef = c) (hX : Box8 w3 w.heap.size z) (hb : Below w.heap.size w w3) {Q : Ending → World → Prop} (hQ : Below w.heap.size w (put8 w3 w.heap.size 0 q) → Q (.returned (.tuple #[q.val, c])) (put8 w3 w.heap.size 0 q)) :
    bodyPost Try.prog f Q .ret ⟨tmps, []⟩ (put8 w3 w.heap.size 0 q) :=
  bodyPost_ret (results_prom h _ _ w.heap.size q hp (hX.put q)) rfl (by rw [hu]; exact hQ (hb.trans ((put8_chg w3 w.heap.size 0 q).below hb.size (fun k hk => by omega))))
/-- it has accepted nothing -/
def PV.none (q : PV) : Bool := decide (q.a = BV.zero)
theorem none_any (q : PV) (w : World) : Calls Try.prog 39 #[q.val] w fun e w' => e = .returned (.bool q.none) ∧ Below w.heap.size w w' := by
  have zz := fun w => eql24 q.a ⟨0, 0, 0⟩ w
  have zg := guard24
  obtain ⟨Z, hZ⟩ : ∃ Z, decide (q.a = (⟨0, 0, 0⟩ : BV)) = Z := ⟨_, rfl⟩
  have hN : q.none = Z := hZ
  rw [hN]
  rw [hZ] at zz
  dsimp only [BV.val] at zz
  have HB := Lib.hid (Go.Joins.below_alloc1 w q.obj)
  clear hN hZ
  go_enter Try.func39, Try.ntmps39
  go_wp2
  go_ret
  exact ⟨rfl, HB.out⟩
theorem cmpa_any (x y : PV) (w : World) : Calls Try.prog 43 #[x.val, y.val] w fun e w' => e = .returned (.int .i64 (x.a.cmp y.a)) ∧ Below w.heap.size w w' := by
  have HC := Lib.hid (cmp_any x.a y.a)
  generalize x.a.cmp y.a = C at HC ⊢
  have HB := Lib.hid (Go.Joins.below_alloc2 w x.obj y.obj)
  go_enter Try.func43, Try.ntmps43
  go_wp2_with (go_at_call 16; refine (HC.out _).mono ?_; rintro e w3 ⟨rfl, hb⟩; have HF := Lib.hid (HB.out.trans (hb.mono HB.out.size)); clear hb)
  go_ret
  exact ⟨rfl, HF.out⟩
theorem info47 : (Try.prog.info? 47).map (fun i => (i.zero, i.size, i.bytes)) = some (some (.agg #[.int .i64 0, .int .u64 0, .int .i64 0, .int .u64 0, .int .u64 0, .int .i64 0, .int .u64 0, .slice none 0 0]), 8, 80) := by kernel_rfl
theorem ps_one (l : List PV) : ∀ u ∈ l.flatMap PV.cells, u.oneCell' = true := by
  intro u hu
  obtain ⟨q, _, hu⟩ := List.mem_flatMap.1 hu
  simp only [PV.cells, List.mem_cons, List.not_mem_nil, or_false] at hu
  rcases hu with rfl | rfl | rfl | rfl | rfl | rfl | rfl | rfl
  all_goals rfl
theorem PsAt.ok {w : World} {v : Value} {l : List PV} (h : PsAt w v l) : ∀ q ∈ l, q.ok w := by
  intro q hq
  obtain ⟨j, hj⟩ := List.getElem?_of_mem hq
  obtain ⟨a, cap, _, _, _, _, h⟩ := h
  obtain ⟨b, off, _, _, h⟩ := h (by cases l with | nil => cases hq | cons => simp)
  exact (h j q hj).1
abbrev OwnPs (base : Nat) (w : World) (v : Value) (l : List PV) : Prop := OwnRow 47 8 PV.cells base w v l
set_option maxHeartbeats 400000 in
theorem clone_ps (v : Value) (l : List PV) (w : World) (hp : PsAt w v l) (hl : l.length ≤ 1000) :
    Calls Try.prog 41 #[v] w fun e w' => ∃ v', e = .returned v' ∧ OwnPs w.heap.size w' v' l ∧ Below w.heap.size w w' := by
  have HP := Lib.hid hp
  have HONE := Lib.hid (ps_one l)
  obtain ⟨a, cap, rfl, _, hlc, hn, _⟩ := hp
  cases a with
  | none =>
    have := hn rfl
    have h0 : l = [] := List.eq_nil_of_length_eq_zero (by omega)
    subst h0 this
    have k := fun wx => Lib.run_eql_slice_nil (P := Try.prog) wx 44 47 none 0 0 0 0 Try.underlying44
    go_enter Try.func41, Try.ntmps41
    go_wp2
    go_ret
    exact ⟨_, rfl, World.ownsRow_nil _ _ _ _, Below.refl _ _⟩
  | some ad =>
    have k := fun wx => Lib.run_eql_slice_nil (P := Try.prog) wx 44 47 (some ad) l.length cap 0 0 Try.underlying44
    have BA := Go.Joins.below_alloc1 w (.cells #[] 47)
    have HO := Lib.hid (show OwnPs w.heap.size (w.alloc (.cells #[] 47)) (.slice (some ⟨w.heap.size, 0, none⟩) 0 0) [] ∧ PsAt (w.alloc (.cells #[] 47)) (.slice (some ad) l.length cap) l ∧ Below w.heap.size w (w.alloc (.cells #[] 47)) from ⟨OwnRow.made w, HP.out.below BA, BA⟩)
    clear hlc hn
    go_enter Try.func41, Try.ntmps41
    go_wp2_with (at_builtin; refine wpList_append_rows rfl _ _ 44 47 8 80 _ PV.cells rfl Try.underlying44 info47 rfl (by decide) (by decide) (fun _ => rfl) w.heap.size _ _ [] l rfl rfl HO.out.1 HO.out.2.1 HONE.out (by simp; omega) HO.out.2.2.size ?_; intro v2 w2 ho2 hg2; have HO2 := Lib.hid ho2; have B2 := Lib.hid (HO.out.2.2.grown hg2 HO.out.2.2.size (fun k hk => (OwnRow.lt HO.out.1 k hk).1)); clear ho2 hg2)
    go_ret
    exact ⟨_, rfl, HO2.out, B2.out⟩
end Go.Proofs.Ytomoomeocolkmaa
