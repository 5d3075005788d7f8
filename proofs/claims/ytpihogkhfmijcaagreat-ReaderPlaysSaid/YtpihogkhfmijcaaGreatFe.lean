/- Fetches, and the work on one: what they read as. -/
import Derived.Test.YtpihogkhfmijcaaGreatIdx
import Derived.Test.YtpihogkhfmijcaaGreatPc
namespace Go.Proofs.YtpihogkhfmijcaaGreat
open Go.RowKit Go.Maps Go.Shelf
/-- what is asked: of whom, and of which entry -/
structure RqM where
  to : PL
  id : Int
  n : Int
  tag : Int
def RqM.cells (x : RqM) : List Value := [.int .i64 x.to.n, .int .u64 x.to.s, .int .i64 3, .int .u64 x.id, .int .u64 x.n, .int .u64 x.tag, .int .u64 0, .int .i64 0, .slice none 0 0, .slice none 0 0]
def RqM.ok (x : RqM) : Prop := x.to.ok ∧ u64ok x.id ∧ u64ok x.n ∧ u64ok x.tag
/-- a row of what is asked: an own one -/
def QsAt (w : World) (v : Value) (L : List RqM) : Prop := OwnRow 56 10 RqM.cells 0 w v L ∧ ∀ x ∈ L, x.ok
theorem QsAt.row {w : World} {v : Value} {L : List RqM} (h : QsAt w v L) : RowAt (fun _ x => x.ok) 10 RqM.cells w v L := OwnRow.at (fun _ => rfl) h.1 h.2
theorem QsAt.nil (w : World) : QsAt w (.slice none 0 0) [] := ⟨World.ownsRow_nil _ _ _ _, fun x h => by cases h⟩
theorem QsAt.below {w w' : World} {a : Option Addr} {n c : Nat} {L : List RqM} (h : QsAt w (.slice a n c) L) (hb : Below w.heap.size w w') : QsAt w' (.slice a n c) L :=
  ⟨OwnRow.same h.1 fun b e => hb.block b (OwnRow.ab h.1 b e).2, h.2⟩
/-- a fetch alone -/
structure FeM where
  id : Int
  n : Int
  set : List PL
  at' : Int
  since : Int
  tag : Int
  done : Int
  body : List Int
/-- a fetch, and where it lies -/
structure FeV where
  id : Int
  n : Int
  sa : Option Addr
  sc : Nat
  set : List PL
  at' : Int
  since : Int
  tag : Int
  done : Int
  ba : Option Addr
  bc : Nat
  body : List Int
def FeV.m (x : FeV) : FeM := ⟨x.id, x.n, x.set, x.at', x.since, x.tag, x.done, x.body⟩
def FeV.cs (x : FeV) : List Value := [.int .u64 x.id, .int .u64 x.n, .slice x.sa x.set.length x.sc, .int .i64 x.at', .int .u64 x.since, .int .u64 x.tag, .int .i64 x.done, .slice x.ba x.body.length x.bc]
abbrev FeV.val (x : FeV) : Value := .agg #[.int .u64 x.id, .int .u64 x.n, .slice x.sa x.set.length x.sc, .int .i64 x.at', .int .u64 x.since, .int .u64 x.tag, .int .i64 x.done, .slice x.ba x.body.length x.bc]
def FeV.nums (x : FeV) : Prop := (u64ok x.id ∧ u64ok x.n) ∧ i64ok x.at' ∧ u64ok x.since ∧ u64ok x.tag ∧ i64ok x.done
structure FeV.ok (w : World) (x : FeV) : Prop where
  nums : x.nums
  st : PsAt w (.slice x.sa x.set.length x.sc) x.set
  bd : BsAt w (.slice x.ba x.body.length x.bc) x.body
theorem FeV.ok.below {w w' : World} {x : FeV} (h : x.ok w) (hb : Below w.heap.size w w') : x.ok w' := ⟨h.nums, h.st.below hb, h.bd.below hb⟩
def zero32 : Array Value := #[.int .u64 0, .int .u64 0, .slice none 0 0, .int .i64 0, .int .u64 0, .int .u64 0, .int .i64 0, .slice none 0 0]
/-- only one block of what was there changes -/
abbrev Ch1 (g : Nat) (w w' : World) : Prop := Chg (fun b => b = g) w w'
theorem Ch1.of {g : Nat} {w w' : World} (h : Below w.heap.size w w') : Ch1 g w w' := Chg.of_below h (Nat.le_refl _)
theorem RowAt.ch1 {α : Type} {P : α → Prop} {k : Nat} {enc : α → List Value} {g : Nat} {w w' : World} {a : Option Addr} {n c : Nat} {l : List α} (h : RowAt (fun _ => P) k enc w (.slice a n c) l) (hg : ∀ b, ab a = some b → b ≠ g) (hc : Ch1 g w w') : RowAt (fun _ => P) k enc w' (.slice a n c) l :=
  RowAt.frame h hc.size (fun b hb h0 => hc.block b h0 (hg b hb)) (fun _ _ h => h)
theorem QsAt.ch1 {g : Nat} {w w' : World} {a : Option Addr} {n c : Nat} {l : List RqM} (h : QsAt w (.slice a n c) l) (hg : ∀ b, ab a = some b → b ≠ g) (hc : Ch1 g w w') : QsAt w' (.slice a n c) l :=
  ⟨OwnRow.same h.1 fun b e => hc.block b (OwnRow.ab h.1 b e).2 (hg b e), h.2⟩
/-- the work's block -/
def woC (x : FeV) (now : Int) (q : Value) : Array Value := #[.int .u64 x.id, .int .u64 x.n, .slice x.sa x.set.length x.sc, .int .i64 x.at', .int .u64 x.since, .int .u64 x.tag, .int .i64 x.done, .slice x.ba x.body.length x.bc, .int .u64 now, q]
/-- a fetch that is worked on, with what it asks -/
structure Wo (w : World) (g : Nat) (x : FeV) (now : Int) (ra : Option Addr) (rc : Nat) (qs : List RqM) : Prop where
  box : BoxC w g 60 (woC x now (.slice ra qs.length rc))
  ok : x.ok w
  nw : u64ok now
  rq : QsAt w (.slice ra qs.length rc) qs
  sg : ∀ b, ab x.sa = some b → b ≠ g
  bg : ∀ b, ab x.ba = some b → b ≠ g
  rg : ∀ b, ab ra = some b → b ≠ g
theorem Wo.below {w w' : World} {g : Nat} {x : FeV} {now : Int} {ra : Option Addr} {rc : Nat} {qs : List RqM} (h : Wo w g x now ra rc qs) (hb : Below w.heap.size w w') : Wo w' g x now ra rc qs :=
  ⟨h.box.below hb, h.ok.below hb, h.nw, h.rq.below hb, h.sg, h.bg, h.rg⟩
/-- the blocks of a fetch -/
def FeV.blk (x : FeV) (b : Nat) : Prop := ab x.sa = some b ∨ ab x.ba = some b
/-- what an act of the work comes to -/
def WoPost (g : Nat) (now : Int) (x : FeV) (m : FeM) (qs : List RqM) (w : World) (e : Ending) (w' : World) : Prop :=
  (∃ v, e = .returned v) ∧ ∃ y ra rc, FeV.m y = m ∧ Wo w' g y now ra rc qs ∧ Ch1 g w w' ∧ ∀ b, y.blk b ∨ ab ra = some b → x.blk b ∨ w.heap.size ≤ b
theorem Wo.same {w w' : World} {g : Nat} {x : FeV} {now : Int} (h : Wo w g x now none 0 []) {e : Ending} (he : ∃ v, e = .returned v) (hb : Below w.heap.size w w') : WoPost g now x x.m [] w e w' :=
  ⟨he, x, none, 0, rfl, h.below hb, Ch1.of hb, fun b hb => by
    rcases hb with hb | hb
    · exact .inl hb
    · cases hb⟩
theorem WoPost.trans {g : Nat} {now : Int} {x x' : FeV} {m : FeM} {qs : List RqM} {w w1 w' : World} {e : Ending} (h : WoPost g now x' m qs w1 e w') (hc : Ch1 g w w1) (hx : ∀ b, x'.blk b → x.blk b ∨ w.heap.size ≤ b) : WoPost g now x m qs w e w' := by
  obtain ⟨he, y, ra, rc, hm, hw, h1, h2⟩ := h
  refine ⟨he, y, ra, rc, hm, hw, hc.trans h1, fun b hb => ?_⟩
  rcases h2 b hb with h3 | h3
  · exact hx b h3
  · exact .inr (Nat.le_trans hc.size h3)
abbrev pg (g : Nat) : Value := .pointer (some ⟨g, 0, none⟩)
/-- the cells of the work -/
def C10 (W : World) (g : Nat) (x : FeV) (now : Int) (q : Value) : Prop := W.cell? ⟨g, 0, none⟩ = some (.int .u64 x.id) ∧ W.cell? ⟨g, 1, none⟩ = some (.int .u64 x.n) ∧ W.cell? ⟨g, 2, none⟩ = some (.slice x.sa x.set.length x.sc) ∧ W.cell? ⟨g, 3, none⟩ = some (.int .i64 x.at') ∧ W.cell? ⟨g, 4, none⟩ = some (.int .u64 x.since) ∧ W.cell? ⟨g, 5, none⟩ = some (.int .u64 x.tag) ∧ W.cell? ⟨g, 6, none⟩ = some (.int .i64 x.done) ∧ W.cell? ⟨g, 7, none⟩ = some (.slice x.ba x.body.length x.bc) ∧ W.cell? ⟨g, 8, none⟩ = some (.int .u64 now) ∧ W.cell? ⟨g, 9, none⟩ = some q
theorem Wo.cells {w : World} {g : Nat} {x : FeV} {now : Int} {ra : Option Addr} {rc : Nat} {qs : List RqM} (h : Wo w g x now ra rc qs) : C10 w g x now (.slice ra qs.length rc) :=
  ⟨h.box.cell 0, h.box.cell 1, h.box.cell 2, h.box.cell 3, h.box.cell 4, h.box.cell 5, h.box.cell 6, h.box.cell 7, h.box.cell 8, h.box.cell 9⟩
theorem Wo.fz {w : World} {g : Nat} {x : FeV} {now : Int} {ra : Option Addr} {rc : Nat} {qs : List RqM} (h : Wo w g x now ra rc qs) (j : Nat) : w.frozen? ⟨g, j, none⟩ = false := h.box.fz j
section
variable {w : World} {g : Nat} {x : FeV} {now : Int} {ra : Option Addr} {rc : Nat} {qs : List RqM}
theorem Ch1.set (w : World) (g j : Nat) (v : Value) : Ch1 g w (w.setCell ⟨g, j, none⟩ v) := (Chg.refl (fun b => b = g) w).setCell (p := ⟨g, j, none⟩) (.inl rfl) v
theorem FeV.ok.ch1 {w' : World} (h : x.ok w) (hs : ∀ b, ab x.sa = some b → b ≠ g) (hb : ∀ b, ab x.ba = some b → b ≠ g) (hc : Ch1 g w w') : x.ok w' := ⟨h.nums, RowAt.ch1 h.st hs hc, RowAt.ch1 h.bd hb hc⟩
theorem Wo.set4 (h : Wo w g x now ra rc qs) (s : Int) (hs : u64ok s) : Wo (w.setCell ⟨g, 4, none⟩ (.int .u64 s)) g { x with since := s } now ra rc qs := by
  have hc := Ch1.set w g 4 (.int .u64 s)
  obtain ⟨n1, n2, -, n4, n5⟩ := h.ok.nums
  exact ⟨h.box.set 4 (.int .u64 s), ⟨⟨n1, n2, hs, n4, n5⟩, RowAt.ch1 h.ok.st h.sg hc, RowAt.ch1 h.ok.bd h.bg hc⟩, h.nw, QsAt.ch1 h.rq h.rg hc, h.sg, h.bg, h.rg⟩
theorem Wo.set3 (h : Wo w g x now ra rc qs) (s : Int) (hs : i64ok s) : Wo (w.setCell ⟨g, 3, none⟩ (.int .i64 s)) g { x with at' := s } now ra rc qs := by
  have hc := Ch1.set w g 3 (.int .i64 s)
  obtain ⟨n1, -, n3, n4, n5⟩ := h.ok.nums
  exact ⟨h.box.set 3 (.int .i64 s), ⟨⟨n1, hs, n3, n4, n5⟩, RowAt.ch1 h.ok.st h.sg hc, RowAt.ch1 h.ok.bd h.bg hc⟩, h.nw, QsAt.ch1 h.rq h.rg hc, h.sg, h.bg, h.rg⟩
theorem Wo.set2 (h : Wo w g x now ra rc qs) {sa : Option Addr} {sc : Nat} {S : List PL} (hS : PsAt w (.slice sa S.length sc) S) (hg : ∀ b, ab sa = some b → b ≠ g) : Wo (w.setCell ⟨g, 2, none⟩ (.slice sa S.length sc)) g { x with sa := sa, sc := sc, set := S } now ra rc qs := by
  have hc := Ch1.set w g 2 (.slice sa S.length sc)
  exact ⟨h.box.set 2 (.slice sa S.length sc), ⟨h.ok.nums, RowAt.ch1 hS hg hc, RowAt.ch1 h.ok.bd h.bg hc⟩, h.nw, QsAt.ch1 h.rq h.rg hc, hg, h.bg, h.rg⟩
theorem Wo.set6 (h : Wo w g x now ra rc qs) (s : Int) (hs : i64ok s) : Wo (w.setCell ⟨g, 6, none⟩ (.int .i64 s)) g { x with done := s } now ra rc qs := by
  have hc := Ch1.set w g 6 (.int .i64 s)
  obtain ⟨n1, n2, n3, n4, -⟩ := h.ok.nums
  exact ⟨h.box.set 6 (.int .i64 s), ⟨⟨n1, n2, n3, n4, hs⟩, RowAt.ch1 h.ok.st h.sg hc, RowAt.ch1 h.ok.bd h.bg hc⟩, h.nw, QsAt.ch1 h.rq h.rg hc, h.sg, h.bg, h.rg⟩
theorem Wo.set7 (h : Wo w g x now ra rc qs) {sa : Option Addr} {sc : Nat} {S : List Int} (hS : BsAt w (.slice sa S.length sc) S) (hg : ∀ b, ab sa = some b → b ≠ g) : Wo (w.setCell ⟨g, 7, none⟩ (.slice sa S.length sc)) g { x with ba := sa, bc := sc, body := S } now ra rc qs := by
  have hc := Ch1.set w g 7 (.slice sa S.length sc)
  exact ⟨h.box.set 7 (.slice sa S.length sc), ⟨h.ok.nums, RowAt.ch1 h.ok.st h.sg hc, RowAt.ch1 hS hg hc⟩, h.nw, QsAt.ch1 h.rq h.rg hc, h.sg, hg, h.rg⟩
theorem Wo.set9 (h : Wo w g x now ra rc qs) {sa : Option Addr} {sc : Nat} {S : List RqM} (hS : QsAt w (.slice sa S.length sc) S) (hg : ∀ b, ab sa = some b → b ≠ g) : Wo (w.setCell ⟨g, 9, none⟩ (.slice sa S.length sc)) g x now sa sc S := by
  have hc := Ch1.set w g 9 (.slice sa S.length sc)
  exact ⟨h.box.set 9 (.slice sa S.length sc), ⟨h.ok.nums, RowAt.ch1 h.ok.st h.sg hc, RowAt.ch1 h.ok.bd h.bg hc⟩, h.nw, QsAt.ch1 hS hg hc, h.sg, h.bg, hg⟩
end
theorem results_f2 {fn : Func} {p u : Tmp} (h : fn.results = #[.cell p 32, .tmp u]) (tmps : Array Value) (w : World) (g : Nat) (m : FeV) (hp : tmps.getD p undef = pg g) (hg : BoxC w g 32 m.cs.toArray) :
    (results fn tmps).run Tryz.prog w = .ok (.tuple #[m.val, tmps.getD u undef]) w := by
  unfold BoxC FeV.cs at hg
  rw [results_cell_tmp h, hp]
  simp [asAddr, Result.andThen, run_loadVar_row w g 32 32 _ _ _ hg Tryz.underlying32 rfl (by kernel_rfl)]
theorem results_cell_tmp2 {fn : Func} {p u v : Tmp} {ty : TypeId} (h : fn.results = #[.cell p ty, .tmp u, .tmp v]) (tmps : Array Value) (P : Program) (w : World) :
    (results fn tmps).run P w =
      ((asAddr (tmps.getD p undef)).run P w).andThen fun a w1 => ((loadVar ty a).run P w1).andThen fun x w2 => .ok (.tuple #[x, tmps.getD u undef, tmps.getD v undef]) w2 := by
  simp only [results, h]
  simp [Sem.run_bind, Result.andThen]
theorem results_f3 {fn : Func} {p u v : Tmp} (h : fn.results = #[.cell p 32, .tmp u, .tmp v]) (tmps : Array Value) (w : World) (g : Nat) (m : FeV) (hp : tmps.getD p undef = pg g) (hg : BoxC w g 32 m.cs.toArray) :
    (results fn tmps).run Tryz.prog w = .ok (.tuple #[m.val, tmps.getD u undef, tmps.getD v undef]) w := by
  unfold BoxC FeV.cs at hg
  rw [results_cell_tmp2 h, hp]
  simp [asAddr, Result.andThen, run_loadVar_row w g 32 32 _ _ _ hg Tryz.underlying32 rfl (by kernel_rfl)]
theorem results_f1 {fn : Func} {p : Tmp} (h : fn.results = #[.cell p 32]) (tmps : Array Value) (w : World) (g : Nat) (m : FeV) (hp : tmps.getD p undef = pg g) (hg : BoxC w g 32 m.cs.toArray) :
    (results fn tmps).run Tryz.prog w = .ok m.val w := by
  unfold BoxC FeV.cs at hg
  exact results_cell_row h tmps w g 32 _ _ _ hp hg Tryz.underlying32 rfl (by kernel_rfl)
/-- a place in a result's cell, and whether there is one -/
theorem results_p2 {fn : Func} {p u : Tmp} (h : fn.results = #[.cell p 40, .tmp u]) (tmps : Array Value) (w : World) (g : Nat) (x : PL) (hp : tmps.getD p undef = pg g) (hg : BoxC w g 40 #[.int .i64 x.n, .int .u64 x.s]) :
    (results fn tmps).run Tryz.prog w = .ok (.tuple #[x.val, tmps.getD u undef]) w := by
  unfold BoxC at hg
  rw [results_cell_tmp h, hp]
  simp [asAddr, Result.andThen, run_loadVar_row w g 40 40 _ _ _ hg Tryz.underlying40 rfl (by kernel_rfl)]
theorem over_full {vs : List Value} {cs : Array Value} (h : vs.length = cs.size) : over cs 0 vs = vs.toArray := by
  apply Array.ext_getElem?
  intro j
  rw [over_get _ _ _ _ (by omega)]
  by_cases hj : j < vs.length
  · rw [if_pos ⟨Nat.zero_le _, by omega⟩, Nat.sub_zero, List.getElem?_toArray]
  · rw [if_neg (by omega), Array.getElem?_eq_none (show cs.size ≤ j by omega), Array.getElem?_eq_none (show vs.toArray.size ≤ j by simp; omega)]
theorem BoxC.full {w : World} {g : Nat} {T : TypeId} {cs : Array Value} (h : BoxC w g T cs) (vs : List Value) (hl : vs.length = cs.size) : BoxC (w.setCells g 0 vs) g T vs.toArray := by
  have := block_setCells g T (0, 0) vs 0 cs w h
  rw [over_full hl] at this
  exact this
end Go.Proofs.YtpihogkhfmijcaaGreat
