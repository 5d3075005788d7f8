/- fragment, of a row of one fragment: a range over slices.Backward. -/
import Derived.Test.YtnfjhpdpeihheaaRound
import Derived.RangeFuncNested
import Derived.RangeFuncBound
import Derived.RangeFuncCalls
import Derived.RangeFuncLeaves
import Derived.RangeFuncBox
import Derived.Shelf.RegionOpen
import Derived.WalkKit
import Derived.OwnWalkIn
import Derived.TacticsInMore
import Derived.LoopNIn
import Derived.LoopIn
namespace Go.Proofs.Ytnfjhpdpeihheaa
open Go.RowKit Go.Maps Go.Shelf
attribute [local go_sem] Oper.semAt_some
theorem backward_any (b off cap : Nat) (w : World) :
    Calls Try.prog 60 #[.slice (some ⟨b, off, none⟩) 1 cap] w fun e w' => e = .returned (.func (.func 62) #[] #[.pointer (some ⟨w.heap.size, 0, none⟩)]) ∧ w' = w.alloc (.cells #[.slice (some ⟨b, off, none⟩) 1 cap] 27) := by
  have hmf : ∀ (fn : Fn) (first cap : Array Value) (w : World), (Instr.makeFunc fn first cap).run Try.prog w = .ok (.func fn first cap) w := fun _ _ _ _ => rfl
  go_enter Try.func60, Try.ntmps60
  go_wp2
  go_ret
  exact ⟨rfl, rfl⟩
/-- the one round's values -/
def encsF (f : Int) (u : Value) : Unit → Array Value := fun _ => #[.int .i64 0, .agg #[.int .u64 f, u]]
/-- a row of one fragment -/
structure OneFrag (w : World) (b off : Nat) (f : Int) (a : Option Addr) (E c : Nat) : Prop where
  lt : b < w.heap.size
  c0 : w.cell? ⟨b, off, none⟩ = some (.int .u64 f)
  c1 : w.cell? ⟨b, off + 1, none⟩ = some (.slice a E c)
theorem OneFrag.below {w w' : World} {b off : Nat} {f : Int} {a : Option Addr} {E c : Nat} (h : OneFrag w b off f a E c) (hb : Below w.heap.size w w') : OneFrag w' b off f a E c :=
  ⟨by have := h.lt; have := hb.size; omega, (hb.cell (p := ⟨b, off, none⟩) h.lt).trans h.c0, (hb.cell (p := ⟨b, off + 1, none⟩) h.lt).trans h.c1⟩
set_option maxRecDepth 100000 in
set_option maxHeartbeats 2000000 in
theorem back1_in (F : Fence) (n : Nat) (h62 : F.fn 62) (hro : F.round = none) (hn : 1 ≤ n) (l B n₀ b off cap : Nat) (f : Int) (a : Option Addr) (E c : Nat) (hb : B < n₀ ∧ b < n₀) (J Jx : List Unit → World → Prop)
    (hY : ∀ pre x W, J pre W → pre.length < 1 → YieldAt F (n - 1) Try.prog l (encsF f (.slice a E c) x) W fun e W' =>
      (e = .returned (.bool true) ∧ J (pre ++ [x]) W' ∧ Below n₀ W W') ∨ (e = .returned (.bool false) ∧ Jx (pre ++ [x]) W'))
    (W : World) (hB : W.cell? ⟨B, 0, none⟩ = some (.slice (some ⟨b, off, none⟩) 1 cap)) (hc0 : W.cell? ⟨b, off, none⟩ = some (.int .u64 f)) (hc1 : W.cell? ⟨b, off + 1, none⟩ = some (.slice a E c)) (h0 : J [] W) :
    CallsIn F n Try.prog 62 #[.func (.yield l) #[] #[], .pointer (some ⟨B, 0, none⟩)] W fun e W' => (∃ v, e = .returned v) ∧
      ((∃ ys, ys = [()] ∧ J ys W') ∨ (∃ pre, pre = [()] ∧ Jx pre W')) := by
  obtain ⟨hb1, hb2⟩ := hb
  refine callsIn_of_wp Try.func62 rfl h62 ?_ hro
  simp only [Try.ntmps62, List.size_toArray, List.length_cons, List.length_nil, Nat.reduceAdd, Nat.reduceSub, Array.replicate_succ, Array.replicate_zero, List.push_toArray, List.append_toArray, List.nil_append, List.cons_append]
  gi_wp2
  gi_loopw [3] (fun i wr => ((i = .int .i64 0 ∧ J [] wr) ∨ (i = .int .i64 (-1) ∧ J [()] wr)) ∧ Below n₀ W wr) (fun i _ => (intOf i + 1).toNat)
  case atStart => exact ⟨.inl ⟨rfl, h0⟩, Below.refl _ _⟩
  case round =>
    obtain ⟨hor, hnx⟩ := hrel
    have hB' := (hnx.cell (p := ⟨B, 0, none⟩) hb1).trans hB
    have c0' := (hnx.cell (p := ⟨b, off, none⟩) hb2).trans hc0
    have c1' := (hnx.cell (p := ⟨b, off + 1, none⟩) hb2).trans hc1
    rcases hor with ⟨rfl, hJ⟩ | ⟨rfl, hJ⟩
    · obtain ⟨fn, tmps, assign, body, hy, hR⟩ := hY _ () wr hJ (by simp)
      unfold encsF at hy
      clear hB hc0 hc1
      gi_wp2
      refine hR.mono ?_
      rintro e W3 (⟨rfl, hJ3, hk3⟩ | ⟨rfl, hJx3⟩)
      · gi_wp2
        go_roundw
        case rel => exact ⟨.inr ⟨rfl, hJ3⟩, hnx.trans hk3⟩
        case measure => simp [intOf]
      · gi_wp2
        refine bodyPost_ret (results_none rfl _ _ _) rfl ?_
        exact ⟨⟨_, rfl⟩, .inr ⟨_, rfl, hJx3⟩⟩
    · gi_wp2
      go_end0
      exact ⟨⟨_, rfl⟩, .inl ⟨_, rfl, hJ⟩⟩
theorem back_stops (F : Fence) (n : Nat) (h62 : F.fn 62) (hro : F.round = none) (hn : 1 ≤ n) (B b off cap : Nat) (f : Int) (a : Option Addr) (E c : Nat) (w : World) (hb : B < w.heap.size)
    (hB : w.cell? ⟨B, 0, none⟩ = some (.slice (some ⟨b, off, none⟩) 1 cap)) (h : OneFrag w b off f a E c) :
    SeqStopsK F n Try.prog 62 #[.pointer (some ⟨B, 0, none⟩)] (encsF f (.slice a E c)) (Below w.heap.size) (fun ys => ys = [()]) (fun pre => pre = [()]) 1 w := fun l J Jx W hW _ _ hY h0 =>
  back1_in F n h62 hro hn l B w.heap.size b off cap f a E c ⟨hb, h.lt⟩ J Jx hY W ((hW.cell (p := ⟨B, 0, none⟩) hb).trans hB) ((hW.cell (p := ⟨b, off, none⟩) h.lt).trans h.c0) ((hW.cell (p := ⟨b, off + 1, none⟩) h.lt).trans h.c1) h0
/-- fragment's boxes -/
def F3 (w : World) (n : Int) : World := ((w.alloc (.cells #[.int .u64 n] 22)).alloc (.cells #[.int .u64 0, .slice none 0 0] 25)).alloc (.cells #[.bool false] 4)
theorem F3.size (w : World) (n : Int) : (F3 w n).heap.size = w.heap.size + 3 := by unfold F3; simp only [World.size_alloc]
theorem F3.below (w : World) (n : Int) : Below w.heap.size w (F3 w n) := by
  unfold F3
  exact (((Below.refl _ w).alloc (Nat.le_refl _) _).alloc (by simp only [World.size_alloc]; omega) _).alloc (by simp only [World.size_alloc]; omega) _
/-- a box that holds a fragment -/
def Box25 (w : World) (g : Nat) (f : Int) (u : Value) : Prop := w.heap[g]? = some (.cells #[.int .u64 f, u] 25 (0, 0))
theorem Box25.keep {X Y : World} {g : Nat} {f : Int} {u : Value} {row : Option Nat} (h : Box25 X g f u) (hg : X.grownBy Y row) (hr : ∀ r, row = some r → ∃ o : Obj, X.heap[r]? = some o ∧ o.isCells = false) : Box25 Y g f u := by
  unfold Box25 at h ⊢
  rw [← h]
  refine hg.block g (lt_of_block h) fun e => ?_
  obtain ⟨o, h1, h2⟩ := hr g e.symm
  rw [h] at h1
  cases h1
  cases h2
theorem Box25.alloc {w : World} {g : Nat} {f : Int} {u : Value} (h : Box25 w g f u) (o : Obj) : Box25 (w.alloc o) g f u := (Below.heap_alloc w o g (lt_of_block h)).trans h
theorem Box25.new (w : World) (f : Int) (u : Value) : Box25 (w.alloc (.cells #[.int .u64 f, u] 25)) w.heap.size f u := heap_alloc_new _ _
theorem Box25.c0 {w : World} {g : Nat} {f : Int} {u : Value} (h : Box25 w g f u) : w.cell? ⟨g, 0, none⟩ = some (.int .u64 f) := by rw [Go.Joins.cell_of_block h]; rfl
theorem Box25.c1 {w : World} {g : Nat} {f : Int} {u : Value} (h : Box25 w g f u) : w.cell? ⟨g, 1, none⟩ = some u := by rw [Go.Joins.cell_of_block h]; rfl
theorem Box25.fz {w : World} {g : Nat} {f : Int} {u : Value} (h : Box25 w g f u) (j : Nat) : w.frozen? ⟨g, j, none⟩ = false := by unfold Box25 at h; simp [World.frozen?, h]
theorem Box25.put {w : World} {g : Nat} {f : Int} {u : Value} (h : Box25 w g f u) (f' : Int) (u' : Value) : Box25 ((w.setCell ⟨g, 0, none⟩ (.int .u64 f')).setCell ⟨g, 1, none⟩ u') g f' u' := Go.Joins.block_setCell (Go.Joins.block_setCell h _) _
theorem Box25.other {w : World} {g B : Nat} {f : Int} {u : Value} (h : Box25 w g f u) (hne : g ≠ B) (o : Nat) (v : Value) : Box25 (w.setCell ⟨B, o, none⟩ v) g f u := (Below.heap_setCell w ⟨B, o, none⟩ v g hne).trans h
theorem Boxed.beside {w : World} {g B t : Nat} {v : Value} (h : Boxed w g t v) (hne : g ≠ B) (o : Nat) (u : Value) : Boxed (w.setCell ⟨B, o, none⟩ u) g t v := (Below.heap_setCell w ⟨B, o, none⟩ u g hne).trans h
theorem F3.boxes (w : World) (n : Int) : Boxed (F3 w n) w.heap.size 22 (.int .u64 n) ∧ Box25 (F3 w n) (w.heap.size + 1) 0 (.slice none 0 0) ∧ Boxed (F3 w n) (w.heap.size + 1 + 1) 4 (.bool false) := by
  unfold F3
  have h1 := ((Boxed.new w 22 (.int .u64 n)).alloc (.cells #[.int .u64 0, .slice none 0 0] 25)).alloc (.cells #[.bool false] 4)
  have h2 := (Box25.new (w.alloc (.cells #[.int .u64 n] 22)) 0 (.slice none 0 0)).alloc (.cells #[.bool false] 4)
  have h3 := Boxed.new ((w.alloc (.cells #[.int .u64 n] 22)).alloc (.cells #[.int .u64 0, .slice none 0 0] 25)) 4 (.bool false)
  simp only [World.size_alloc] at h2 h3
  exact ⟨h1, h2, h3⟩
def F4 (w : World) (n : Int) (v : Value) : World := (F3 w n).alloc (.cells #[v] 27)
theorem F4.size (w : World) (n : Int) (v : Value) : (F4 w n v).heap.size = w.heap.size + 4 := by unfold F4; rw [World.size_alloc, F3.size]
theorem F4.below (w : World) (n : Int) (v : Value) : Below w.heap.size w (F4 w n v) := (F3.below w n).alloc (F3.below w n).size _
set_option maxRecDepth 100000 in
set_option maxHeartbeats 1000000 in
theorem fragment_any (b off cap : Nat) (f n : Int) (a : Option Addr) (E c : Nat) (w : World) (h : OneFrag w b off f a E c) :
    Calls Try.prog 51 #[.slice (some ⟨b, off, none⟩) 1 cap, .int .u64 n] w fun e w' => e = .returned (.tuple #[if f ≤ n then .agg #[.int .u64 f, .slice a E c] else .agg #[.int .u64 0, .slice none 0 0], .bool (decide (f ≤ n))]) ∧ Below w.heap.size w w' := by
  have HBK : Hid (Calls Try.prog 60 #[.slice (some ⟨b, off, none⟩) 1 cap] (F3 w n) fun e w' => e = .returned (.func (.func 62) #[] #[.pointer (some ⟨w.heap.size + 3, 0, none⟩)]) ∧ w' = F4 w n (.slice (some ⟨b, off, none⟩) 1 cap)) := by
    have := backward_any b off cap (F3 w n)
    rw [F3.size] at this
    exact this
  refine (callsIn_wide (n := 3)).1 ?_
  refine callsIn_of_wp_marks Try.func51 rfl trivial ?_ rfl
  simp only [Try.ntmps51, List.size_toArray, List.length_cons, List.length_nil, Nat.reduceAdd, Nat.reduceSub, Array.replicate_succ, Array.replicate_zero, List.push_toArray, List.append_toArray, List.nil_append, List.cons_append]
  gi_wp2_with fail
  change Fence.wide.fn 60 ∧ CallsIn _ _ _ _ _ (F3 w n) _
  refine ⟨trivial, (callsIn_wide.2 HBK.out).mono ?_⟩
  rintro e w1 ⟨rfl, rfl⟩
  gi_wp2
  have hsz := F4.size w n (.slice (some ⟨b, off, none⟩) 1 cap)
  have hB4 := F4.below w n (.slice (some ⟨b, off, none⟩) 1 cap)
  have h4 := h.below hB4
  obtain ⟨q0, q1, q2⟩ := F3.boxes w n
  have b0 : Boxed (F4 w n (.slice (some ⟨b, off, none⟩) 1 cap)) w.heap.size 22 (.int .u64 n) := q0.alloc _
  have b1 : Box25 (F4 w n (.slice (some ⟨b, off, none⟩) 1 cap)) (w.heap.size + 1) 0 (.slice none 0 0) := q1.alloc _
  have b2 : Boxed (F4 w n (.slice (some ⟨b, off, none⟩) 1 cap)) (w.heap.size + 1 + 1) 4 (.bool false) := q2.alloc _
  have b3 : (F4 w n (.slice (some ⟨b, off, none⟩) 1 cap)).cell? ⟨w.heap.size + 3, 0, none⟩ = some (.slice (some ⟨b, off, none⟩) 1 cap) := by
    have := (Boxed.new (F3 w n) 27 (.slice (some ⟨b, off, none⟩) 1 cap)).cell
    rw [F3.size] at this
    exact this
  obtain ⟨W0, hW0⟩ : ∃ W0, F4 w n (.slice (some ⟨b, off, none⟩) 1 cap) = W0 := ⟨_, rfl⟩
  rw [hW0] at hsz hB4 h4 b0 b1 b2 b3 ⊢
  clear hW0 q0 q1 q2 HBK h
  refine wpIn_rangeFunc_ownH rfl (by omega) (gf := 62) (lb := #[.pointer (some ⟨w.heap.size + 3, 0, none⟩)]) rfl trivial (enters_of Try.func62 (by kernel_rfl) rfl)
    (back_stops Fence.wide _ trivial rfl (by omega) (w.heap.size + 3) b off cap f a E c W0 (by omega) b3 h4) belowK_t (belowK_b (Nat.le_refl _)) (Below.refl _ _) (fun _ => rfl)
    (fun pre W => ((pre = [] ∨ ¬ f ≤ n) ∧ ((Boxed W w.heap.size 22 (.int .u64 n) ∧ Box25 W (w.heap.size + 1) 0 (.slice none 0 0)) ∧ Boxed W (w.heap.size + 1 + 1) 4 (.bool false))) ∧ Below W0.heap.size W0 W)
    (fun c' _ W => ((c' = .ret ∧ f ≤ n) ∧ Box25 W (w.heap.size + 1) f (.slice a E c) ∧ Boxed W (w.heap.size + 1 + 1) 4 (.bool true)) ∧ Below w.heap.size w W)
    (OwnFrom.and (OwnFrom.and (ownFrom_pure _ _) (OwnFrom.and (OwnFrom.and (Own.from (boxed_own _ _ _) _) (Own.from (fun s A B row hs hg hr => Box25.keep hs hg hr) _)) (Own.from (boxed_own _ _ _) _))) (ownFrom_below (Nat.le_refl _) (Nat.le_refl _)))
    (fun c => OwnFrom.and (OwnFrom.and (ownFrom_pure _ _) (OwnFrom.and (Own.from (fun s A B row hs hg hr => Box25.keep hs hg hr) _) (Own.from (boxed_own _ _ _) _))) (ownFrom_below (Nat.le_refl _) (by omega)))
    ⟨⟨.inl rfl, ⟨b0, b1⟩, b2⟩, Below.refl _ _⟩
    (fun _ a' W => ∃ Bx, W0.heap.size ≤ Bx ∧ Box25 W Bx f (.slice a E c) ∧ a' = { tmps := #[.slice (some ⟨b, off, none⟩) 1 cap, .int .u64 n, undef, .pointer (some ⟨w.heap.size, 0, none⟩), .pointer (some ⟨w.heap.size + 1, 0, none⟩), .pointer (some ⟨w.heap.size + 1 + 1, 0, none⟩), undef, .pointer (some ⟨Bx, 0, none⟩), .slice (some ⟨b, off, none⟩) 1 cap, .func (.func 62) #[] #[.pointer (some ⟨w.heap.size + 3, 0, none⟩)], .int .i64 0, .agg #[.int .u64 f, .slice a E c], undef, undef, undef, undef, undef, undef], defers := [] })
    (fun x a' _ X Y row hs hg hr => by obtain ⟨Bx, h1, h2, h3⟩ := hs; exact ⟨Bx, h1, h2.keep hg (fun r e => (hr r e).2), h3⟩)
    ?assign ?body ?done ?stop
  case assign =>
    rintro l pre x W K ⟨⟨hpre, ⟨q0, q1⟩, q2⟩, hB⟩ hK
    unfold encsF
    gi_wp2
    exact hK _ _ ((KeepsOthers.alloc _ _).from _) ((Below.refl _ W).alloc hB.size _) ⟨⟨hpre, ⟨q0.alloc _, q1.alloc _⟩, q2.alloc _⟩, hB.alloc hB.size _⟩ ⟨W.heap.size, hB.size, Box25.new _ _ _, rfl⟩
  case body =>
    rintro l pre x a' W hl hr ⟨⟨hpre, ⟨q0, q1⟩, q2⟩, hB⟩ ⟨Bx, hBx, hx, rfl⟩ hlt
    have c0 := q0.cell
    have x0 := hx.c0
    have x1 := hx.c1
    have d0 := q1.c0
    have d1 := q1.c1
    have d2 := q2.cell
    have f0 := q1.fz
    have f2 := q2.frozen
    have hBW : Below w.heap.size w W := hB4.trans (hB.mono (by omega))
    by_cases hfn : f ≤ n
    · have HST : Hid (KeepsFrom W0.heap.size W (((W.setCell ⟨w.heap.size + 1, 0, none⟩ (.int .u64 f)).setCell ⟨w.heap.size + 1, 1, none⟩ (.slice a E c)).setCell ⟨w.heap.size + 1 + 1, 0, none⟩ (.bool true)) ∧ (Box25 (((W.setCell ⟨w.heap.size + 1, 0, none⟩ (.int .u64 f)).setCell ⟨w.heap.size + 1, 1, none⟩ (.slice a E c)).setCell ⟨w.heap.size + 1 + 1, 0, none⟩ (.bool true)) (w.heap.size + 1) f (.slice a E c) ∧ Boxed (((W.setCell ⟨w.heap.size + 1, 0, none⟩ (.int .u64 f)).setCell ⟨w.heap.size + 1, 1, none⟩ (.slice a E c)).setCell ⟨w.heap.size + 1 + 1, 0, none⟩ (.bool true)) (w.heap.size + 1 + 1) 4 (.bool true)) ∧ Below w.heap.size w (((W.setCell ⟨w.heap.size + 1, 0, none⟩ (.int .u64 f)).setCell ⟨w.heap.size + 1, 1, none⟩ (.slice a E c)).setCell ⟨w.heap.size + 1 + 1, 0, none⟩ (.bool true))) :=
        ⟨(((KeepsOthers.setCell _ _ _).trans (KeepsOthers.setCell _ _ _)).trans (KeepsOthers.setCell _ _ _)).from _, ⟨(q1.put f _).other (by omega) _ _, Boxed.set _ (Boxed.beside (Boxed.beside q2 (by omega) _ _) (by omega) _ _)⟩, ((hBW.setCell (p := ⟨w.heap.size + 1, 0, none⟩) (by show w.heap.size ≤ w.heap.size + 1; omega) _).setCell (p := ⟨w.heap.size + 1, 1, none⟩) (by show w.heap.size ≤ w.heap.size + 1; omega) _).setCell (p := ⟨w.heap.size + 1 + 1, 0, none⟩) (by show w.heap.size ≤ w.heap.size + 1 + 1; omega) _⟩
      clear hr hx hpre q0 q1 q2 hB hBW b0 b1 b2 b3 h4 hB4 hsz
      gi_wp2
      exact ⟨HST.out.1, ⟨rfl, HST.out.2.1⟩, HST.out.2.2⟩
    · have HGO := Lib.hid (And.intro (And.intro q0 q1) (And.intro q2 hB))
      clear hr hx hpre q0 q1 q2 hB hBW b0 b1 b2 b3 h4 hB4 hsz
      gi_wp2
      exact ⟨KeepsFrom.refl _ _, Below.refl _ _, ⟨HGO.out.1, HGO.out.2.1⟩, HGO.out.2.2⟩
  case done =>
    rintro D ys W hD rfl ⟨⟨hno, ⟨q0, q1⟩, q2⟩, hB⟩ hK
    have hfn : ¬ f ≤ n := by rcases hno with h | h; cases h; exact h
    have hBW : Below w.heap.size w W := hB4.trans (hB.mono (by omega))
    have d0 := Box25.c0 q1
    have d1 := Box25.c1 q1
    have d2 := Boxed.cell q2
    have f0 := Box25.fz q1
    have f2 := Boxed.frozen q2
    have hK' := (((KeepsOthers.setCell W ⟨w.heap.size + 1, 0, none⟩ (.int .u64 0)).trans (KeepsOthers.setCell _ ⟨w.heap.size + 1, 1, none⟩ (.slice none 0 0))).trans (KeepsOthers.setCell _ ⟨w.heap.size + 1 + 1, 0, none⟩ (.bool false))).same D _ hK rfl
    have r1 := Box25.other (Box25.put q1 0 (.slice none 0 0)) (B := w.heap.size + 1 + 1) (by omega) 0 (.bool false)
    have r2 := Boxed.set (.bool false) (Boxed.beside (Boxed.beside q2 (B := w.heap.size + 1) (by omega) 0 (.int .u64 0)) (B := w.heap.size + 1) (by omega) 1 (.slice none 0 0))
    have hB2 := ((hBW.setCell (p := ⟨w.heap.size + 1, 0, none⟩) (by show w.heap.size ≤ w.heap.size + 1; omega) (.int .u64 0)).setCell (p := ⟨w.heap.size + 1, 1, none⟩) (by show w.heap.size ≤ w.heap.size + 1; omega) (.slice none 0 0)).setCell (p := ⟨w.heap.size + 1 + 1, 0, none⟩) (by show w.heap.size ≤ w.heap.size + 1 + 1; omega) (.bool false)
    have s1 := Box25.keep r1 (grownBy_putObj' _ D (.deferred none)) (fun r e => by cases e; exact ⟨_, hK', rfl⟩)
    have h7 := cell_kept (Boxed.cell r2) (grownBy_putObj' _ D (.deferred none)) (fun r e => by cases e; exact ⟨_, hK', rfl⟩)
    have hBD := hB2.trans (belowK_b (w := w) (Nat.le_refl _) _ D _ (.deferred none) (by omega) hK' rfl rfl)
    have HH := Lib.hid (And.intro s1 (And.intro h7 (And.intro hBD (And.intro hfn hK'))))
    clear hsz s1 h7 hBD hB2 r1 r2 hK' hBW hB b0 b1 b2 b3 h4 hB4 q0 q1 q2
    gi_wp2
    refine ⟨by simp, .inl ⟨_, _, rfl, run_takeDeferred HH.out.2.2.2.2, ?_⟩⟩
    refine ⟨.tuple #[.agg #[.int .u64 0, .slice none 0 0], .bool false], ?_, rfl, HH.out.2.2.1⟩
    have h6 := Box25.c0 HH.out.1
    have h9 := Box25.c1 HH.out.1
    have h8 := HH.out.2.1
    simp [results, Try.f51, go_sem, h6, h8, h9]
  case stop =>
    rintro D c' pre W hD _ ⟨⟨⟨rfl, hfn⟩, q1, q2⟩, hB⟩ hK
    have s1 := Box25.keep q1 (grownBy_putObj' _ D (.deferred none)) (fun r e => by cases e; exact ⟨_, hK, rfl⟩)
    have h7 := cell_kept (Boxed.cell q2) (grownBy_putObj' _ D (.deferred none)) (fun r e => by cases e; exact ⟨_, hK, rfl⟩)
    have hBD := hB.trans (belowK_b (w := w) (Nat.le_refl _) _ D _ (.deferred none) (by omega) hK rfl rfl)
    have HH := Lib.hid (And.intro s1 (And.intro h7 (And.intro hBD (And.intro hfn hK))))
    clear hsz s1 h7 hBD hB b0 b1 b2 b3 h4 hB4 q1 q2 hK
    gi_wp2
    refine ⟨by simp, .inl ⟨_, _, rfl, run_takeDeferred HH.out.2.2.2.2, ?_⟩⟩
    refine ⟨.tuple #[.agg #[.int .u64 f, .slice a E c], .bool true], ?_, rfl, HH.out.2.2.1⟩
    have h6 := Box25.c0 HH.out.1
    have h9 := Box25.c1 HH.out.1
    have h8 := HH.out.2.1
    simp [results, Try.f51, go_sem, h6, h8, h9]
end Go.Proofs.Ytnfjhpdpeihheaa
