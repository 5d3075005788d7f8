/- Find: its answer. -/
import Derived.Test.YtbmebmkpjbgdoaaFind
namespace Go.Proofs.Ytbmebmkpjbgdoaa
open Go.RowKit Go.Shelf
attribute [local go_sem] Oper.semAt_some
/-- the four boxes of Find -/
def W4 (w : World) (p : Nat) (to : Int) : World := (((w.alloc (.cells #[.pointer (some ⟨p, 0, none⟩)] 25)).alloc (.cells #[.int .i64 to] 3)).alloc (.cells #[.int .i64 0] 3)).alloc (.cells #[.bool false] 4)
def W6 (w : World) (p : Nat) (to fr : Int) : World := ((W4 w p to).alloc (.cells #[.pointer (some ⟨p, 0, none⟩)] 78)).alloc (.cells #[.int .i64 fr] 3)
theorem W4.size (w : World) (p : Nat) (to : Int) : (W4 w p to).heap.size = w.heap.size + 4 := by unfold W4; simp only [World.size_alloc]
theorem W6.size (w : World) (p : Nat) (to fr : Int) : (W6 w p to fr).heap.size = w.heap.size + 6 := by unfold W6; simp only [World.size_alloc, W4.size]
theorem W4.below (w : World) (p : Nat) (to : Int) : Below w.heap.size w (W4 w p to) := by
  unfold W4
  exact ((((Below.refl _ w).alloc (Nat.le_refl _) _).alloc (by simp only [World.size_alloc]; omega) _).alloc (by simp only [World.size_alloc]; omega) _).alloc (by simp only [World.size_alloc]; omega) _
theorem W6.below (w : World) (p : Nat) (to fr : Int) : Below w.heap.size w (W6 w p to fr) := by
  unfold W6
  exact ((W4.below w p to).alloc (by rw [W4.size]; omega) _).alloc (by simp only [World.size_alloc, W4.size]; omega) _
theorem W4.boxes (w : World) (p : Nat) (to : Int) : Boxed (W4 w p to) w.heap.size 25 (.pointer (some ⟨p, 0, none⟩)) ∧ Boxed (W4 w p to) (w.heap.size + 1) 3 (.int .i64 to) ∧ Boxed (W4 w p to) (w.heap.size + 2) 3 (.int .i64 0) ∧ Boxed (W4 w p to) (w.heap.size + 3) 4 (.bool false) := by
  unfold W4
  have h1 := (((Boxed.new w 25 (.pointer (some ⟨p, 0, none⟩))).alloc (.cells #[.int .i64 to] 3)).alloc (.cells #[.int .i64 0] 3)).alloc (.cells #[.bool false] 4)
  have h2 := ((Boxed.new (w.alloc (.cells #[.pointer (some ⟨p, 0, none⟩)] 25)) 3 (.int .i64 to)).alloc (.cells #[.int .i64 0] 3)).alloc (.cells #[.bool false] 4)
  have h3 := (Boxed.new ((w.alloc (.cells #[.pointer (some ⟨p, 0, none⟩)] 25)).alloc (.cells #[.int .i64 to] 3)) 3 (.int .i64 0)).alloc (.cells #[.bool false] 4)
  have h4 := Boxed.new (((w.alloc (.cells #[.pointer (some ⟨p, 0, none⟩)] 25)).alloc (.cells #[.int .i64 to] 3)).alloc (.cells #[.int .i64 0] 3)) 4 (.bool false)
  simp only [World.size_alloc, Nat.add_assoc] at h2 h3 h4
  exact ⟨h1, h2, h3, h4⟩
theorem W6.boxes (w : World) (p : Nat) (to fr : Int) : (Boxed (W6 w p to fr) w.heap.size 25 (.pointer (some ⟨p, 0, none⟩)) ∧ Boxed (W6 w p to fr) (w.heap.size + 1) 3 (.int .i64 to) ∧ Boxed (W6 w p to fr) (w.heap.size + 2) 3 (.int .i64 0) ∧ Boxed (W6 w p to fr) (w.heap.size + 3) 4 (.bool false)) ∧ Boxed (W6 w p to fr) (w.heap.size + 4) 78 (.pointer (some ⟨p, 0, none⟩)) ∧ Boxed (W6 w p to fr) (w.heap.size + 5) 3 (.int .i64 fr) := by
  obtain ⟨h1, h2, h3, h4⟩ := W4.boxes w p to
  unfold W6
  have h5 := (Boxed.new (W4 w p to) 78 (.pointer (some ⟨p, 0, none⟩))).alloc (.cells #[.int .i64 fr] 3)
  have h6 := Boxed.new ((W4 w p to).alloc (.cells #[.pointer (some ⟨p, 0, none⟩)] 78)) 3 (.int .i64 fr)
  simp only [World.size_alloc, W4.size, Nat.add_assoc] at h5 h6
  exact ⟨⟨(h1.alloc _).alloc _, (h2.alloc _).alloc _, (h3.alloc _).alloc _, (h4.alloc _).alloc _⟩, h5, h6⟩
theorem grownBy_keepsCells (x : It) (Bx : Nat) (X Y : World) (row : Option Nat) (h : X.heap[Bx]? = some (.cells #[.int .i64 x.fr, .int .i64 x.to, .slice x.a x.n x.c] 49 (0, 0))) (hg : X.grownBy Y row) (hr : ∀ r, row = some r → ∃ o : Obj, X.heap[r]? = some o ∧ o.isCells = false) : Y.heap[Bx]? = some (.cells #[.int .i64 x.fr, .int .i64 x.to, .slice x.a x.n x.c] 49 (0, 0)) := by
  rw [← h]
  refine hg.block Bx (lt_of_block h) fun e => ?_
  obtain ⟨o, h1, h2⟩ := hr Bx e.symm
  rw [h] at h1
  cases h1
  cases h2
def FindPost (w : World) (d : Nt) (to fr : Int) (e : Ending) (w' : World) : Prop := e = .returned (.tuple #[.int .i64 (d.find to fr).1, .bool (d.find to fr).2]) ∧ Below w.heap.size w w'
set_option maxRecDepth 100000 in
set_option maxHeartbeats 800000 in
theorem find_at {w : World} {O I : Nat → Prop} {p : Nat} {d : Nt} (h : NetAt w O I p d) (to fr : Int) :
    Calls Try.prog 19 #[.pointer (some ⟨p, 0, none⟩), .int .i64 to, .int .i64 fr] w (FindPost w d to fr) := by
  obtain ⟨ho, sv, vs, hN⟩ := h
  obtain ⟨sa, sc, rfl⟩ := hN.row.form
  have hlen := ho.len
  have hlv := hN.len
  obtain ⟨k0, hk0⟩ := Int.eq_ofNat_of_zero_le (show 0 ≤ max fr 0 from Int.le_max_right _ _)
  have hsz := W6.size w p to fr
  have hB6 := W6.below w p to fr
  have hBX := W6.boxes w p to fr
  have HM4 : Hid (Calls Try.prog 27 #[.pointer (some ⟨p, 0, none⟩)] (W4 w p to) fun e w' => e = .returned (.bool true) ∧ W4 w p to = w') := (hN.below (W4.below w p to)).made ho
  have HON : Hid (Calls Try.prog 43 #[.pointer (some ⟨p, 0, none⟩), .int .i64 fr] (W4 w p to) fun e w' => e = .returned (.func (.func 54) #[] #[.pointer (some ⟨w.heap.size + 5, 0, none⟩), .pointer (some ⟨w.heap.size + 4, 0, none⟩)]) ∧ w' = W6 w p to fr) := by
    have := onward_any p fr (W4 w p to)
    rw [W4.size] at this
    exact this
  have c0 := (W4.boxes w p to).1.cell
  refine (callsIn_wide (n := 3)).1 ?_
  refine callsIn_of_wp_marks Try.func19 rfl trivial ?_ rfl
  simp only [Try.ntmps19, List.size_toArray, List.length_cons, List.length_nil, Nat.reduceAdd, Nat.reduceSub, Array.replicate_succ, Array.replicate_zero, List.push_toArray, List.append_toArray, List.nil_append, List.cons_append]
  gi_wp2_with fail
  change Fence.wide.fn 27 ∧ CallsIn _ _ _ _ _ (W4 w p to) _
  refine ⟨trivial, (callsIn_wide.2 HM4.out).mono ?_⟩
  rintro e w1 ⟨rfl, rfl⟩
  gi_wp2_with fail
  refine ⟨trivial, (callsIn_wide.2 HON.out).mono ?_⟩
  rintro e w2 ⟨rfl, rfl⟩
  gi_wp2
  have hits := (hN.below hB6).its
  obtain ⟨⟨b0, b1, b2, b3⟩, b4, b5⟩ := hBX
  have hp0 := (hN.below hB6).c0
  have hpl : p < w.heap.size := hN.lt p (.inl hN.op)
  have HN6 := Lib.hid (hN.below hB6)
  obtain ⟨W0, hW0⟩ : ∃ W0, W6 w p to fr = W0 := ⟨_, rfl⟩
  rw [hW0] at hsz hB6 hits b0 b1 b2 b3 b4 b5 hp0 HN6 ⊢
  clear hW0 HM4 HON c0
  refine wpIn_rangeFunc_ownH rfl (by omega) (gf := 54) (lb := #[.pointer (some ⟨w.heap.size + 5, 0, none⟩), .pointer (some ⟨w.heap.size + 4, 0, none⟩)]) rfl trivial (enters_of Try.func54 (by kernel_rfl) rfl)
    (onward_stops Fence.wide _ trivial rfl (by omega) (w.heap.size + 5) (w.heap.size + 4) p sc sa vs fr k0 hk0 (by omega) W0 ⟨by omega, by omega, by omega⟩ b5.cell b4.cell hp0 hits) belowK_t (belowK_b (Nat.le_refl _)) (Below.refl _ _) (fun _ => rfl)
    (fun pre W => ((∀ x ∈ pre, x.goes d to = false) ∧ ((Boxed W w.heap.size 25 (.pointer (some ⟨p, 0, none⟩)) ∧ Boxed W (w.heap.size + 1) 3 (.int .i64 to)) ∧ (Boxed W (w.heap.size + 1 + 1) 3 (.int .i64 0) ∧ Boxed W (w.heap.size + 1 + 1 + 1) 4 (.bool false)))) ∧ Below W0.heap.size W0 W)
    (fun c pre W => ((c = .ret ∧ ∃ ini last, pre = ini ++ [last] ∧ (∀ x ∈ ini, x.goes d to = false) ∧ last.goes d to = true ∧ Boxed W (w.heap.size + 1 + 1) 3 (.int .i64 (last.j : Int)) ∧ Boxed W (w.heap.size + 1 + 1 + 1) 4 (.bool true))) ∧ Below w.heap.size w W)
    (OwnFrom.and (OwnFrom.and (ownFrom_pure _ _) (OwnFrom.and (OwnFrom.and (Own.from (boxed_own _ _ _) _) (Own.from (boxed_own _ _ _) _)) (OwnFrom.and (Own.from (boxed_own _ _ _) _) (Own.from (boxed_own _ _ _) _)))) (ownFrom_below (Nat.le_refl _) (Nat.le_refl _)))
    (fun c => OwnFrom.and (Own.from (fun s A B row hs hg hr => by obtain ⟨hc, ini, last, e1, e2, e3, e4, e5⟩ := hs; exact ⟨hc, ini, last, e1, e2, e3, boxed_own _ _ (fun (_ : Unit) => _) () A B row e4 hg hr, boxed_own _ _ (fun (_ : Unit) => _) () A B row e5 hg hr⟩) _) (ownFrom_below (Nat.le_refl _) (by omega)))
    ⟨⟨fun x hx => (by cases hx), ⟨b0, b1⟩, b2, b3⟩, Below.refl _ _⟩
    (fun x a' W => ∃ Bx, W0.heap.size ≤ Bx ∧ W.heap[Bx]? = some (.cells #[.int .i64 x.fr, .int .i64 x.to, .slice x.a x.n x.c] 49 (0, 0)) ∧ a' = { tmps := #[.pointer (some ⟨p, 0, none⟩), .int .i64 to, .int .i64 fr, .pointer (some ⟨w.heap.size, 0, none⟩), .pointer (some ⟨w.heap.size + 1, 0, none⟩), undef, .pointer (some ⟨w.heap.size + 1 + 1, 0, none⟩), .pointer (some ⟨w.heap.size + 1 + 1 + 1, 0, none⟩), .int .i64 (x.j : Int), .pointer (some ⟨Bx, 0, none⟩), .pointer (some ⟨p, 0, none⟩), .bool true, .bool false, .pointer (some ⟨p, 0, none⟩), .pointer (some ⟨p, 0, none⟩), .pointer (some ⟨p, 0, none⟩), .int .i64 fr, .func (.func 54) #[] #[.pointer (some ⟨w.heap.size + 5, 0, none⟩), .pointer (some ⟨w.heap.size + 4, 0, none⟩)], .int .i64 (x.j : Int), .agg #[.int .i64 x.fr, .int .i64 x.to, .slice x.a x.n x.c], undef, undef, undef, undef, undef, undef, undef, undef, undef, undef, undef, undef, undef], defers := [] })
    (fun x a' _ X Y row hs hg hr => by obtain ⟨Bx, h1, h2, h3⟩ := hs; exact ⟨Bx, h1, (grownBy_keepsCells x Bx X Y row h2 hg (fun r e => (hr r e).2)), h3⟩)
    ?assign ?body ?done ?stop
  case assign =>
    rintro l pre x W K ⟨⟨hpre, ⟨q0, q1⟩, q2, q3⟩, hB⟩ hK
    unfold encsIt
    gi_wp2
    exact hK _ _ ((KeepsOthers.alloc _ _).from _) ((Below.refl _ W).alloc hB.size _) ⟨⟨hpre, ⟨q0.alloc _, q1.alloc _⟩, q2.alloc _, q3.alloc _⟩, hB.alloc hB.size _⟩ ⟨W.heap.size, hB.size, heap_alloc_new _ _, rfl⟩
  case body =>
    rintro l pre x a' W hl hr ⟨⟨hpre, ⟨q0, q1⟩, q2, q3⟩, hB⟩ ⟨Bx, hBx, hx, rfl⟩ hlt
    have c0 := q0.cell
    have c1 := q1.cell
    have c2 := q2.cell
    have c3 := q3.cell
    have f2 := q2.frozen
    have f3 := q3.frozen
    have x0 : W.cell? ⟨Bx, 0, none⟩ = some (.int .i64 x.fr) := by rw [Go.Joins.cell_of_block hx]; rfl
    have x1 : W.cell? ⟨Bx, 1, none⟩ = some (.int .i64 x.to) := by rw [Go.Joins.cell_of_block hx]; rfl
    have HOP : Hid (Calls Try.prog 22 #[.pointer (some ⟨p, 0, none⟩), .int .i64 x.fr, .int .i64 x.to] W fun e w' => e = .returned (.bool (d.isOpen x.fr x.to)) ∧ W = w') := open_at (HN6.out.below hB) ho x.fr x.to
    have HGO : Hid (∀ W', Below W0.heap.size W0 W' → x.goes d to = false → (Boxed W' w.heap.size 25 (.pointer (some ⟨p, 0, none⟩)) ∧ Boxed W' (w.heap.size + 1) 3 (.int .i64 to)) → (Boxed W' (w.heap.size + 1 + 1) 3 (.int .i64 0) ∧ Boxed W' (w.heap.size + 1 + 1 + 1) 4 (.bool false)) →
        ((∀ y ∈ pre ++ [x], y.goes d to = false) ∧ ((Boxed W' w.heap.size 25 (.pointer (some ⟨p, 0, none⟩)) ∧ Boxed W' (w.heap.size + 1) 3 (.int .i64 to)) ∧ (Boxed W' (w.heap.size + 1 + 1) 3 (.int .i64 0) ∧ Boxed W' (w.heap.size + 1 + 1 + 1) 4 (.bool false)))) ∧ Below W0.heap.size W0 W') := fun W' h1 h2 h3 h4 =>
      ⟨⟨fun y hy => (List.mem_append.1 hy).elim (hpre y) fun e => by simp at e; rw [e]; exact h2, h3, h4⟩, h1⟩
    have hQ := Lib.hid (And.intro q0 (And.intro q1 (And.intro q2 q3)))
    have hBW : Below w.heap.size w W := hB6.trans (hB.mono (by omega))
    have HBW := Lib.hid hBW
    have HB := Lib.hid hB
    by_cases hto : x.to = to
    · cases hop : d.isOpen x.fr x.to
      · have hg : x.goes d to = false := by unfold It.goes; rw [hop]; simp
        rw [hop, hto] at HOP
        clear hr hx hpre q0 q1 q2 q3 hop hB hBW hN b0 b1 b2 b3 b4 b5 hits hp0 ho
        gi_wp2_with (refine ⟨trivial, ?_⟩; gi_at_call 22; refine (CallsIn.inRound l (callsIn_wide.2 HOP.out)).mono ?_; rintro e w' ⟨rfl, rfl⟩)
        exact ⟨KeepsFrom.refl _ _, Below.refl _ _, HGO.out _ HB.out hg ⟨hQ.out.1, hQ.out.2.1⟩ hQ.out.2.2⟩
      · have hg : x.goes d to = true := by unfold It.goes; rw [hop]; simp [hto]
        rw [hop, hto] at HOP
        have HST : Hid (KeepsFrom W0.heap.size W ((W.setCell ⟨w.heap.size + 1 + 1, 0, none⟩ (.int .i64 (x.j : Int))).setCell ⟨w.heap.size + 1 + 1 + 1, 0, none⟩ (.bool true)) ∧ ((∃ ini last, pre ++ [x] = ini ++ [last] ∧ (∀ y ∈ ini, y.goes d to = false) ∧ last.goes d to = true ∧ Boxed ((W.setCell ⟨w.heap.size + 1 + 1, 0, none⟩ (.int .i64 (x.j : Int))).setCell ⟨w.heap.size + 1 + 1 + 1, 0, none⟩ (.bool true)) (w.heap.size + 1 + 1) 3 (.int .i64 (last.j : Int)) ∧ Boxed ((W.setCell ⟨w.heap.size + 1 + 1, 0, none⟩ (.int .i64 (x.j : Int))).setCell ⟨w.heap.size + 1 + 1 + 1, 0, none⟩ (.bool true)) (w.heap.size + 1 + 1 + 1) 4 (.bool true)) ∧ Below w.heap.size w ((W.setCell ⟨w.heap.size + 1 + 1, 0, none⟩ (.int .i64 (x.j : Int))).setCell ⟨w.heap.size + 1 + 1 + 1, 0, none⟩ (.bool true)))) :=
          ⟨((KeepsOthers.setCell _ _ _).trans (KeepsOthers.setCell _ _ _)).from _, ⟨pre, x, rfl, hpre, hg, (q2.set _).other (by omega) _, (q3.other (by omega) _).set _⟩, (hBW.setCell (p := ⟨w.heap.size + 1 + 1, 0, none⟩) (by show w.heap.size ≤ w.heap.size + 1 + 1; omega) _).setCell (p := ⟨w.heap.size + 1 + 1 + 1, 0, none⟩) (by show w.heap.size ≤ w.heap.size + 1 + 1 + 1; omega) _⟩
        clear hr hx hpre q0 q1 q2 q3 hop hB hBW hN b0 b1 b2 b3 b4 b5 hits hp0 ho hg
        gi_wp2_with (refine ⟨trivial, ?_⟩; gi_at_call 22; refine (CallsIn.inRound l (callsIn_wide.2 HOP.out)).mono ?_; rintro e w' ⟨rfl, rfl⟩)
        exact ⟨HST.out.1, ⟨rfl, HST.out.2.1⟩, HST.out.2.2⟩
    · have hg : x.goes d to = false := by unfold It.goes; simp [hto]
      have hbe : (x.to == to) = false := by simp [hto]
      clear hr hx hpre q0 q1 q2 q3 hB hBW hN b0 b1 b2 b3 b4 b5 hits hp0 ho
      gi_wp2_with fail
      refine ⟨trivial, ?_⟩
      gi_wp2_with fail
      exact ⟨KeepsFrom.refl _ _, Below.refl _ _, HGO.out _ HB.out hg ⟨hQ.out.1, hQ.out.2.1⟩ hQ.out.2.2⟩
  case done =>
    rintro D ys W hD rfl ⟨⟨hno, ⟨q0, q1⟩, q2, q3⟩, hB⟩ hK
    have hBW : Below w.heap.size w W := hB6.trans (hB.mono (by omega))
    have c2 := q2.cell
    have c3 := q3.cell
    have f2 := q2.frozen
    have f3 := q3.frozen
    have hit : ∀ k m, d.bag[k]? = some m → (itOf vs k).goes d to = d.goes to m ∧ (itOf vs k).j = k := fun k m hk => itOf_goes hN to hk
    have hfind : d.find to fr = (0, false) := by
      unfold Nt.find
      rw [findFrom_none]
      intro m hm
      obtain ⟨i, hi⟩ := List.getElem?_of_mem hm
      rw [List.getElem?_drop] at hi
      have hil := (List.getElem?_eq_some_iff.1 hi).1
      rw [← (hit _ m hi).1]
      refine hno _ ?_
      unfold came
      rw [List.mem_map]
      have hfr : fr.toNat = k0 := by omega
      rw [hfr] at hil ⊢
      exact ⟨i, by rw [List.mem_range]; omega, rfl⟩
    gi_wp2
    have hK' := ((KeepsOthers.setCell W ⟨w.heap.size + 1 + 1, 0, none⟩ (.int .i64 0)).trans (KeepsOthers.setCell _ ⟨w.heap.size + 1 + 1 + 1, 0, none⟩ (.bool false))).same D _ hK rfl
    refine ⟨by simp, .inl ⟨_, _, rfl, run_takeDeferred hK', ?_⟩⟩
    have r2 := (q2.set (.int .i64 0)).other (B' := w.heap.size + 1 + 1 + 1) (by omega) (.bool false)
    have r3 := (q3.other (B' := w.heap.size + 1 + 1) (by omega) (.int .i64 0)).set (.bool false)
    have h6 := cell_kept r2.cell (grownBy_putObj' _ D (.deferred none)) (fun r e => by cases e; exact ⟨_, hK', rfl⟩)
    have h7 := cell_kept r3.cell (grownBy_putObj' _ D (.deferred none)) (fun r e => by cases e; exact ⟨_, hK', rfl⟩)
    have hB2 := (hBW.setCell (p := ⟨w.heap.size + 1 + 1, 0, none⟩) (by show w.heap.size ≤ w.heap.size + 1 + 1; omega) (.int .i64 0)).setCell (p := ⟨w.heap.size + 1 + 1 + 1, 0, none⟩) (by show w.heap.size ≤ w.heap.size + 1 + 1 + 1; omega) (.bool false)
    refine ⟨.tuple #[.int .i64 0, .bool false], ?_, by rw [hfind], hB2.trans (belowK_b (w := w) (Nat.le_refl _) _ D _ _ (by omega) hK' rfl rfl)⟩
    simp [results, Try.f19, go_sem, h6, h7]
  case stop =>
    rintro D c pre W hD ⟨k, hk1, hk2, rfl⟩ ⟨⟨rfl, ini, last, e1, e2, e3, q2, q3⟩, hB⟩ hK
    have hit : ∀ k m, d.bag[k]? = some m → (itOf vs k).goes d to = d.goes to m ∧ (itOf vs k).j = k := fun k m hk => itOf_goes hN to hk
    rw [came_succ _ _ _ hk1] at e1
    obtain ⟨rfl, e5⟩ := List.append_inj' e1 rfl
    obtain rfl : itOf vs k = last := by simpa using e5
    obtain ⟨m, hm⟩ : ∃ m, d.bag[k]? = some m := ⟨_, List.getElem?_eq_getElem (by omega)⟩
    obtain ⟨hg, hj⟩ := hit k m hm
    rw [hj] at q2
    have hfr : fr.toNat = k0 := by omega
    have hfind : d.find to fr = ((k : Int), true) := by
      unfold Nt.find
      rw [hfr, findFrom_some d to _ k0 (k - k0) m (by rw [List.getElem?_drop, show k0 + (k - k0) = k by omega]; exact hm) ?_ (by rw [← hg]; exact e3)]
      · show (((k0 + (k - k0) : Nat) : Int), true) = _
        rw [show k0 + (k - k0) = k by omega]
      · intro i x hi hx
        rw [List.getElem?_drop] at hx
        rw [← (hit _ x hx).1]
        refine e2 _ ?_
        unfold came
        rw [List.mem_map]
        exact ⟨i, by rw [List.mem_range]; omega, rfl⟩
    gi_wp2
    refine ⟨by simp, .inl ⟨_, _, rfl, run_takeDeferred hK, ?_⟩⟩
    have h6 := cell_kept q2.cell (grownBy_putObj' _ D (.deferred none)) (fun r e => by cases e; exact ⟨_, hK, rfl⟩)
    have h7 := cell_kept q3.cell (grownBy_putObj' _ D (.deferred none)) (fun r e => by cases e; exact ⟨_, hK, rfl⟩)
    refine ⟨.tuple #[.int .i64 (k : Int), .bool true], ?_, by rw [hfind], hB.trans (belowK_b (w := w) (Nat.le_refl _) W D _ _ (by omega) hK rfl rfl)⟩
    simp [results, Try.f19, go_sem, h6, h7]
end Go.Proofs.Ytbmebmkpjbgdoaa
