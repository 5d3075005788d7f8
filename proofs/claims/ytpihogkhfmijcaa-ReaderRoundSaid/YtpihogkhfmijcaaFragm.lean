/- fragment: the fragment of an entry, of any row. -/
import Derived.Test.YtpihogkhfmijcaaFrs
namespace Go.Proofs.Ytpihogkhfmijcaa
open Go.RowKit Go.Maps Go.Shelf
attribute [local go_sem] Oper.semAt_some
/-- fragment's boxes -/
def F3 (w : World) (n : Int) : World := ((w.alloc (.cells #[.int .u64 n] 22)).alloc (.cells #[.int .u64 0, .slice none 0 0] 70)).alloc (.cells #[.bool false] 4)
theorem F3.size (w : World) (n : Int) : (F3 w n).heap.size = w.heap.size + 3 := by unfold F3; simp only [World.size_alloc]
theorem F3.below (w : World) (n : Int) : Below w.heap.size w (F3 w n) := by
  unfold F3
  exact (((Below.refl _ w).alloc (Nat.le_refl _) _).alloc (by simp only [World.size_alloc]; omega) _).alloc (by simp only [World.size_alloc]; omega) _
theorem F3.boxes (w : World) (n : Int) : Boxed (F3 w n) w.heap.size 22 (.int .u64 n) ∧ Box25 (F3 w n) (w.heap.size + 1) 0 (.slice none 0 0) ∧ Boxed (F3 w n) (w.heap.size + 1 + 1) 4 (.bool false) := by
  unfold F3
  have h1 := ((Boxed.new w 22 (.int .u64 n)).alloc (.cells #[.int .u64 0, .slice none 0 0] 70)).alloc (.cells #[.bool false] 4)
  have h2 := (Box25.new (w.alloc (.cells #[.int .u64 n] 22)) 0 (.slice none 0 0)).alloc (.cells #[.bool false] 4)
  have h3 := Boxed.new ((w.alloc (.cells #[.int .u64 n] 22)).alloc (.cells #[.int .u64 0, .slice none 0 0] 70)) 4 (.bool false)
  simp only [World.size_alloc] at h2 h3
  exact ⟨h1, h2, h3⟩
def F4 (w : World) (n : Int) (v : Value) : World := (F3 w n).alloc (.cells #[v] 23)
theorem F4.size (w : World) (n : Int) (v : Value) : (F4 w n v).heap.size = w.heap.size + 4 := by unfold F4; rw [World.size_alloc, F3.size]
theorem F4.below (w : World) (n : Int) (v : Value) : Below w.heap.size w (F4 w n v) := (F3.below w n).alloc (F3.below w n).size _
/-- the fragment of an entry -/
def fragV (L : List FV) (n : Int) : Option FV := L.reverse.find? fun x => decide (x.f ≤ n)
theorem revs_snd (L : List FV) : (revs L).map Prod.snd = L.reverse := by
  apply List.ext_getElem?
  intro t
  rw [List.getElem?_map]
  by_cases ht : t < L.length
  · have hx : L[L.length - 1 - t]? = some (L[L.length - 1 - t]'(by omega)) := List.getElem?_eq_getElem _
    have := revs_get hx
    rw [show L.length - 1 - (L.length - 1 - t) = t by omega] at this
    rw [this, List.getElem?_reverse ht, hx]
    rfl
  · rw [List.getElem?_eq_none (by rw [revs_len]; omega), List.getElem?_eq_none (by simp; omega)]
    rfl
theorem fragV_none {L : List FV} {n : Int} (h : ∀ y ∈ revs L, ¬ y.2.f ≤ n) : fragV L n = none := by
  unfold fragV
  rw [← revs_snd, List.find?_eq_none]
  intro x hx
  obtain ⟨y, hy, rfl⟩ := List.mem_map.1 hx
  simpa using h y hy
def NoneOf (n : Int) (pre : List (Int × FV)) : Prop := ∀ y ∈ pre, ¬ y.2.f ≤ n
def lastY (pre : List (Int × FV)) : Int × FV := pre.getLastD (0, default)
theorem lastY_snoc (pre : List (Int × FV)) (y : Int × FV) : lastY (pre ++ [y]) = y := by simp [lastY]
theorem fragV_some {L : List FV} {n : Int} {t : Nat} (hne : (revs L).take t ≠ []) (hl : (lastY ((revs L).take t)).2.f ≤ n) (h : ∀ y ∈ ((revs L).take t).dropLast, ¬ y.2.f ≤ n) : fragV L n = some (lastY ((revs L).take t)).2 := by
  unfold fragV
  rw [← revs_snd, ← List.take_append_drop t (revs L)]
  obtain ⟨pre, hp⟩ : ∃ pre, (revs L).take t = pre := ⟨_, rfl⟩
  rw [List.take_append_drop]
  have hR : revs L = pre ++ (revs L).drop t := by rw [← hp, List.take_append_drop]
  rw [hp] at hne hl h ⊢
  have hd : pre = pre.dropLast ++ [lastY pre] := by
    unfold lastY
    rw [List.getLastD_eq_getLast?, List.getLast?_eq_some_getLast hne]
    exact (List.dropLast_concat_getLast hne).symm
  rw [hR, List.map_append, List.find?_append]
  have : List.find? (fun x : FV => decide (x.f ≤ n)) (pre.map Prod.snd) = some (lastY pre).2 := by
    rw [hd, List.map_append, List.find?_append, List.find?_eq_none.2 (fun x hx => by
      obtain ⟨y, hy, rfl⟩ := List.mem_map.1 hx
      simpa using h y hy)]
    simp only [List.map_cons, List.map_nil, Option.none_or, List.find?_cons]
    rw [← hd, decide_eq_true hl]
  rw [this]
  rfl
theorem fragV_mem {L : List FV} {n : Int} {x : FV} (h : fragV L n = some x) : x ∈ L ∧ x.f ≤ n := by
  have h1 := List.mem_of_find?_eq_some h
  have h2 := List.find?_some h
  exact ⟨by simpa using h1, by simpa using h2⟩
set_option maxRecDepth 100000 in
set_option maxHeartbeats 2000000 in
theorem fragment_any (v : Value) (n : Int) (L : List FV) (w : World) (h : FsAt w v L) :
    Calls Try.prog 34 #[v, .int .u64 n] w fun e w' => ((fragV L n = none ∧ e = .returned (.tuple #[.agg #[.int .u64 0, .slice none 0 0], .bool false])) ∨ ∃ x, fragV L n = some x ∧ e = .returned (.tuple #[.agg #[.int .u64 x.f, .slice x.a x.ps.length x.c], .bool true])) ∧ Below w.heap.size w w' := by
  obtain ⟨a, cap, rfl, -⟩ := RowAt.form h
  have HBK : Hid (Calls Try.prog 52 #[.slice a L.length cap] (F3 w n) fun e w' => e = .returned (.func (.func 64) #[] #[.pointer (some ⟨w.heap.size + 3, 0, none⟩)]) ∧ w' = F4 w n (.slice a L.length cap)) := by
    have := backward_any a L.length cap (F3 w n)
    rw [F3.size] at this
    exact this
  refine (callsIn_wide (n := 3)).1 ?_
  refine callsIn_of_wp_marks Try.func34 rfl trivial ?_ rfl
  simp only [Try.ntmps34, List.size_toArray, List.length_cons, List.length_nil, Nat.reduceAdd, Nat.reduceSub, Array.replicate_succ, Array.replicate_zero, List.push_toArray, List.append_toArray, List.nil_append, List.cons_append]
  gi_wp2_with fail
  change Fence.wide.fn 52 ∧ CallsIn _ _ _ _ _ (F3 w n) _
  refine ⟨trivial, (callsIn_wide.2 HBK.out).mono ?_⟩
  rintro e w1 ⟨rfl, rfl⟩
  gi_wp2
  have hsz := F4.size w n (.slice a L.length cap)
  have hB4 := F4.below w n (.slice a L.length cap)
  have h4 := h.below hB4
  obtain ⟨q0, q1, q2⟩ := F3.boxes w n
  have b0 : Boxed (F4 w n (.slice a L.length cap)) w.heap.size 22 (.int .u64 n) := q0.alloc _
  have b1 : Box25 (F4 w n (.slice a L.length cap)) (w.heap.size + 1) 0 (.slice none 0 0) := q1.alloc _
  have b2 : Boxed (F4 w n (.slice a L.length cap)) (w.heap.size + 1 + 1) 4 (.bool false) := q2.alloc _
  have b3 : (F4 w n (.slice a L.length cap)).cell? ⟨w.heap.size + 3, 0, none⟩ = some (.slice a L.length cap) := by
    have := (Boxed.new (F3 w n) 23 (.slice a L.length cap)).cell
    rw [F3.size] at this
    exact this
  obtain ⟨W0, hW0⟩ : ∃ W0, F4 w n (.slice a L.length cap) = W0 := ⟨_, rfl⟩
  rw [hW0] at hsz hB4 h4 b0 b1 b2 b3 ⊢
  clear hW0 q0 q1 q2 HBK h
  refine wpIn_rangeFunc_ownH rfl (by omega) (gf := 64) (lb := #[.pointer (some ⟨w.heap.size + 3, 0, none⟩)]) rfl trivial (enters_of Try.func64 (by kernel_rfl) rfl)
    (backs_stop Fence.wide _ trivial rfl (by omega) (w.heap.size + 3) cap a L W0 (by omega) b3 h4) belowK_t (belowK_b (Nat.le_refl _)) (Below.refl _ _) (fun _ => rfl)
    (fun pre W => (NoneOf n pre ∧ ((Boxed W w.heap.size 22 (.int .u64 n) ∧ Box25 W (w.heap.size + 1) 0 (.slice none 0 0)) ∧ Boxed W (w.heap.size + 1 + 1) 4 (.bool false))) ∧ Below W0.heap.size W0 W)
    (fun c' pre W => ((c' = .ret ∧ pre ≠ [] ∧ (lastY pre).2.f ≤ n ∧ NoneOf n pre.dropLast) ∧ Box25 W (w.heap.size + 1) (lastY pre).2.f (.slice (lastY pre).2.a (lastY pre).2.ps.length (lastY pre).2.c) ∧ Boxed W (w.heap.size + 1 + 1) 4 (.bool true)) ∧ Below w.heap.size w W)
    (OwnFrom.and (OwnFrom.and (ownFrom_pure _ _) (OwnFrom.and (OwnFrom.and (Own.from (boxed_own _ _ _) _) (Own.from (fun s A B row hs hg hr => Box25.keep hs hg hr) _)) (Own.from (boxed_own _ _ _) _))) (ownFrom_below (Nat.le_refl _) (Nat.le_refl _)))
    (fun c => OwnFrom.and (OwnFrom.and (ownFrom_pure _ _) (OwnFrom.and (Own.from (show Own (fun (pre : List (Int × FV)) W => Box25 W (w.heap.size + 1) (lastY pre).2.f (.slice (lastY pre).2.a (lastY pre).2.ps.length (lastY pre).2.c)) from fun s A B row hs hg hr => Box25.keep hs hg hr) _) (Own.from (boxed_own _ _ _) _))) (ownFrom_below (Nat.le_refl _) (by omega)))
    ⟨⟨(fun _ h => by cases h), ⟨b0, b1⟩, b2⟩, Below.refl _ _⟩
    (fun y a' W => ∃ Bx, W0.heap.size ≤ Bx ∧ Box25 W Bx y.2.f (.slice y.2.a y.2.ps.length y.2.c) ∧ a' = { tmps := #[.slice a L.length cap, .int .u64 n, undef, .pointer (some ⟨w.heap.size, 0, none⟩), .pointer (some ⟨w.heap.size + 1, 0, none⟩), .pointer (some ⟨w.heap.size + 1 + 1, 0, none⟩), undef, .pointer (some ⟨Bx, 0, none⟩), .slice a L.length cap, .func (.func 64) #[] #[.pointer (some ⟨w.heap.size + 3, 0, none⟩)], .int .i64 y.1, .agg #[.int .u64 y.2.f, .slice y.2.a y.2.ps.length y.2.c], undef, undef, undef, undef, undef, undef], defers := [] })
    (fun x a' _ X Y row hs hg hr => by obtain ⟨Bx, h1, h2, h3⟩ := hs; exact ⟨Bx, h1, h2.keep hg (fun r e => (hr r e).2), h3⟩)
    ?assign ?body ?done ?stop
  case assign =>
    rintro l pre ⟨k, x⟩ W K ⟨⟨hpre, ⟨q0, q1⟩, q2⟩, hB⟩ hK
    unfold encsF
    gi_wp2
    exact hK _ _ ((KeepsOthers.alloc _ _).from _) ((Below.refl _ W).alloc hB.size _) ⟨⟨hpre, ⟨q0.alloc _, q1.alloc _⟩, q2.alloc _⟩, hB.alloc hB.size _⟩ ⟨W.heap.size, hB.size, Box25.new _ _ _, rfl⟩
  case body =>
    rintro l pre ⟨k, x⟩ a' W hl hr ⟨⟨hpre, ⟨q0, q1⟩, q2⟩, hB⟩ ⟨Bx, hBx, hx, rfl⟩ hlt
    obtain ⟨f, xa, xc, xp⟩ := x
    dsimp only at hx ⊢
    obtain ⟨E, hE⟩ : ∃ E, xp.length = E := ⟨_, rfl⟩
    rw [hE] at hx ⊢
    have c0 := q0.cell
    have x0 := hx.c0
    have x1 := hx.c1
    have d0 := q1.c0
    have d1 := q1.c1
    have d2 := q2.cell
    have f0 := q1.fz
    have f2 := q2.frozen
    have hBW : Below w.heap.size w W := hB4.trans (hB.mono (by omega))
    by_cases hfn : f ≤ n
    · have HST : Hid (KeepsFrom W0.heap.size W (((W.setCell ⟨w.heap.size + 1, 0, none⟩ (.int .u64 f)).setCell ⟨w.heap.size + 1, 1, none⟩ (.slice xa E xc)).setCell ⟨w.heap.size + 1 + 1, 0, none⟩ (.bool true)) ∧ (Box25 (((W.setCell ⟨w.heap.size + 1, 0, none⟩ (.int .u64 f)).setCell ⟨w.heap.size + 1, 1, none⟩ (.slice xa E xc)).setCell ⟨w.heap.size + 1 + 1, 0, none⟩ (.bool true)) (w.heap.size + 1) f (.slice xa E xc) ∧ Boxed (((W.setCell ⟨w.heap.size + 1, 0, none⟩ (.int .u64 f)).setCell ⟨w.heap.size + 1, 1, none⟩ (.slice xa E xc)).setCell ⟨w.heap.size + 1 + 1, 0, none⟩ (.bool true)) (w.heap.size + 1 + 1) 4 (.bool true)) ∧ Below w.heap.size w (((W.setCell ⟨w.heap.size + 1, 0, none⟩ (.int .u64 f)).setCell ⟨w.heap.size + 1, 1, none⟩ (.slice xa E xc)).setCell ⟨w.heap.size + 1 + 1, 0, none⟩ (.bool true))) :=
        ⟨(((KeepsOthers.setCell _ _ _).trans (KeepsOthers.setCell _ _ _)).trans (KeepsOthers.setCell _ _ _)).from _, ⟨(q1.put f _).other (by omega) _ _, Boxed.set _ (Boxed.beside (Boxed.beside q2 (by omega) _ _) (by omega) _ _)⟩, ((hBW.setCell (p := ⟨w.heap.size + 1, 0, none⟩) (by show w.heap.size ≤ w.heap.size + 1; omega) _).setCell (p := ⟨w.heap.size + 1, 1, none⟩) (by show w.heap.size ≤ w.heap.size + 1; omega) _).setCell (p := ⟨w.heap.size + 1 + 1, 0, none⟩) (by show w.heap.size ≤ w.heap.size + 1 + 1; omega) _⟩
      have HPRE := Lib.hid (show NoneOf n (pre ++ [((k, ⟨f, xa, xc, xp⟩) : Int × FV)]).dropLast by rw [List.dropLast_concat]; exact hpre)
      have HFN := Lib.hid hfn
      have HEE := Lib.hid hE
      clear hr hx hpre q0 q1 q2 hB hBW b0 b1 b2 b3 h4 hB4 hsz hE hlt
      gi_wp2
      refine ⟨HST.out.1, ⟨⟨rfl, by simp, by rw [lastY_snoc]; exact HFN.out, by simpa using HPRE.out⟩, ?_⟩, HST.out.2.2⟩
      rw [lastY_snoc]
      dsimp only
      rw [HEE.out]
      exact HST.out.2.1
    · have HPRE := Lib.hid (show NoneOf n (pre ++ [((k, ⟨f, xa, xc, xp⟩) : Int × FV)]) from fun y hy => by
        rcases List.mem_append.1 hy with h | h
        · exact hpre y h
        · rw [List.mem_singleton] at h; rw [h]; exact hfn)
      have HGO := Lib.hid (And.intro (And.intro q0 q1) (And.intro q2 hB))
      clear hr hx hpre q0 q1 q2 hB hBW b0 b1 b2 b3 h4 hB4 hsz hE hlt
      gi_wp2
      exact ⟨KeepsFrom.refl _ _, Below.refl _ _, ⟨HPRE.out, HGO.out.1, HGO.out.2.1⟩, HGO.out.2.2⟩
  case done =>
    rintro D ys W hD rfl ⟨⟨hno, ⟨q0, q1⟩, q2⟩, hB⟩ hK
    have hBW : Below w.heap.size w W := hB4.trans (hB.mono (by omega))
    have d0 := Box25.c0 q1
    have d1 := Box25.c1 q1
    have d2 := Boxed.cell q2
    have f0 := Box25.fz q1
    have f2 := Boxed.frozen q2
    have hK' := (((KeepsOthers.setCell W ⟨w.heap.size + 1, 0, none⟩ (.int .u64 0)).trans (KeepsOthers.setCell _ ⟨w.heap.size + 1, 1, none⟩ (.slice none 0 0))).trans (KeepsOthers.setCell _ ⟨w.heap.size + 1 + 1, 0, none⟩ (.bool false))).same D _ hK rfl
    have r1 := Box25.other (Box25.put q1 0 (.slice none 0 0)) (B := w.heap.size + 1 + 1) (by omega) 0 (.bool false)
    have r2 := Boxed.set (.bool false) (Boxed.beside (Boxed.beside q2 (B := w.heap.size + 1) (by omega) 0 (.int .u64 0)) (B := w.heap.size + 1) (by omega) 1 (.slice none 0 0))
    have hB2 := ((hBW.setCell (p := ⟨w.heap.size + 1, 0, none⟩) (by show w.heap.size ≤ w.heap.size + 1; omega) (.int .u64 0)).setCell (p := ⟨w.heap.size + 1, 1, none⟩) (by show w.heap.size ≤ w.heap.size + 1; omega) (.slice none 0 0)).setCell (p := ⟨w.heap.size + 1 + 1, 0, none⟩) (by show w.heap.size ≤ w.heap.size + 1 + 1; omega) (.bool false)
    have s1 := Box25.keep r1 (grownBy_putObj' _ D (.deferred none)) (fun r e => by cases e; exact ⟨_, hK', rfl⟩)
    have h7 := cell_kept (Boxed.cell r2) (grownBy_putObj' _ D (.deferred none)) (fun r e => by cases e; exact ⟨_, hK', rfl⟩)
    have hBD := hB2.trans (belowK_b (w := w) (Nat.le_refl _) _ D _ (.deferred none) (by omega) hK' rfl rfl)
    have HH := Lib.hid (And.intro s1 (And.intro h7 (And.intro hBD (And.intro (fragV_none hno) hK'))))
    clear hsz s1 h7 hBD hB2 r1 r2 hK' hBW hB b0 b1 b2 b3 h4 hB4 q0 q1 q2 hno
    gi_wp2
    refine ⟨by simp, .inl ⟨_, _, rfl, run_takeDeferred HH.out.2.2.2.2, ?_⟩⟩
    refine ⟨.tuple #[.agg #[.int .u64 0, .slice none 0 0], .bool false], ?_, .inl ⟨HH.out.2.2.2.1, rfl⟩, HH.out.2.2.1⟩
    have h6 := Box25.c0 HH.out.1
    have h9 := Box25.c1 HH.out.1
    have h8 := HH.out.2.1
    simp [results, Try.f34, go_sem, h6, h8, h9]
  case stop =>
    rintro D c' pre W hD ⟨t, ht, hpt⟩ ⟨⟨⟨rfl, hne, hl, hdl⟩, q1, q2⟩, hB⟩ hK
    have hfv : fragV L n = some (lastY pre).2 := by rw [hpt] at hne hl hdl ⊢; exact fragV_some hne hl hdl
    obtain ⟨⟨k, f, xa, xc, xp⟩, hy⟩ : ∃ y, lastY pre = y := ⟨_, rfl⟩
    rw [hy] at q1 hfv
    dsimp only at q1
    obtain ⟨E, hE⟩ : ∃ E, xp.length = E := ⟨_, rfl⟩
    rw [hE] at q1
    have s1 := Box25.keep q1 (grownBy_putObj' _ D (.deferred none)) (fun r e => by cases e; exact ⟨_, hK, rfl⟩)
    have h7 := cell_kept (Boxed.cell q2) (grownBy_putObj' _ D (.deferred none)) (fun r e => by cases e; exact ⟨_, hK, rfl⟩)
    have hBD := hB.trans (belowK_b (w := w) (Nat.le_refl _) _ D _ (.deferred none) (by omega) hK rfl rfl)
    have HH := Lib.hid (And.intro s1 (And.intro h7 (And.intro hBD (And.intro (And.intro hfv hE) hK))))
    clear hsz s1 h7 hBD hB b0 b1 b2 b3 h4 hB4 q1 q2 hK hfv hE hne hl hdl ht hpt hy
    gi_wp2
    refine ⟨by simp, .inl ⟨_, _, rfl, run_takeDeferred HH.out.2.2.2.2, ?_⟩⟩
    refine ⟨.tuple #[.agg #[.int .u64 f, .slice xa E xc], .bool true], ?_, .inr ⟨_, HH.out.2.2.2.1.1, by dsimp only; rw [HH.out.2.2.2.1.2]⟩, HH.out.2.2.1⟩
    have h6 := Box25.c0 HH.out.1
    have h9 := Box25.c1 HH.out.1
    have h8 := HH.out.2.1
    simp [results, Try.f34, go_sem, h6, h8, h9]
end Go.Proofs.Ytpihogkhfmijcaa
