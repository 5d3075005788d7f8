/- Rows of fragments: what they read as; slices.Backward over them; the fragment of an entry. fragment: the fragment of an entry, of any row. Set, of any row of fragments. The document's Frag, Set, of any row of fragments. -/
import Derived.Test.YtpihogkhfmijcaaGreatPb
namespace Go.Proofs.YtpihogkhfmijcaaGreat
open Go.RowKit Go.Maps Go.Shelf
attribute [local go_sem] Oper.semAt_some
/-- a fragment -/
structure FM where
  f : Int
  ps : List PL
/-- a fragment, and where its places lie -/
structure FV where
  f : Int
  a : Option Addr
  c : Nat
  ps : List PL
instance : Inhabited FV := ⟨⟨0, none, 0, []⟩⟩
def FV.m (x : FV) : FM := ⟨x.f, x.ps⟩
def FV.cells (x : FV) : List Value := [.int .u64 x.f, .slice x.a x.ps.length x.c]
def u64ok (n : Int) : Prop := 0 ≤ n ∧ n ≤ 18446744073709551615
def FV.ok (w : World) (x : FV) : Prop := u64ok x.f ∧ PsAt w (.slice x.a x.ps.length x.c) x.ps
abbrev FsAt (w : World) (v : Value) (L : List FV) : Prop := RowAt FV.ok 2 FV.cells w v L
theorem FV.ok.below {w w' : World} {x : FV} (h : x.ok w) (hb : Below w.heap.size w w') : x.ok w' := ⟨h.1, h.2.below hb⟩
theorem FsAt.below {w w' : World} {v : Value} {L : List FV} (h : FsAt w v L) (hb : Below w.heap.size w w') : FsAt w' v L := RowAt.below h hb fun _ hx => hx.below hb
theorem RowAt.form {α : Type} {P : World → α → Prop} {k : Nat} {enc : α → List Value} {w : World} {v : Value} {l : List α} (h : RowAt P k enc w v l) : ∃ a cap, v = .slice a l.length cap ∧ l.length ≤ 9223372036854775807 ∧ l.length ≤ cap ∧ (a = none → cap = 0) := by
  obtain ⟨a, cap, hv, h1, h2, h3, _⟩ := h
  exact ⟨a, cap, hv, h1, h2, h3⟩
theorem RowAt.each {α : Type} {P : World → α → Prop} {k : Nat} {enc : α → List Value} {w : World} {v : Value} {l : List α} (h : RowAt P k enc w v l) : ∀ x ∈ l, P w x := by
  intro q hq
  obtain ⟨j, hj⟩ := List.getElem?_of_mem hq
  obtain ⟨a, cap, _, _, _, _, h⟩ := h
  obtain ⟨b, off, _, _, h⟩ := h (by cases l with | nil => cases hq | cons => simp)
  exact (h j q hj).1
/-- the cells of one of a row, in whatever later world -/
theorem RowAt.cell {α : Type} {P : World → α → Prop} {k : Nat} {enc : α → List Value} {w : World} {a : Option Addr} {n cap : Nat} {l : List α} (h : RowAt P k enc w (.slice a n cap) l) {j : Nat} {x : α} (hx : l[j]? = some x) :
    ∃ b off, a = some ⟨b, off, none⟩ ∧ b < w.heap.size ∧ P w x ∧ ∀ r, r < k → ∀ W, Below w.heap.size w W → W.cell? ⟨b, off + j * k + r, none⟩ = (enc x)[r]? := by
  obtain ⟨a', cap', hv, _, _, _, h⟩ := h
  cases hv
  obtain ⟨b, off, rfl, hb, h⟩ := h (by have := (List.getElem?_eq_some_iff.1 hx).1; omega)
  refine ⟨b, off, rfl, hb, (h j x hx).1, fun r hr W hW => ?_⟩
  rw [hW.cell (show (⟨b, off + j * k + r, none⟩ : Addr).block < _ from hb)]
  exact (h j x hx).2 r hr
theorem FsAt.cell {w : World} {a : Option Addr} {n cap : Nat} {L : List FV} (h : FsAt w (.slice a n cap) L) {j : Nat} {x : FV} (hx : L[j]? = some x) : ∃ b off, a = some ⟨b, off, none⟩ ∧ b < w.heap.size ∧ x.ok w ∧ ∀ W, Below w.heap.size w W → W.cell? ⟨b, off + j * 2, none⟩ = some (.int .u64 x.f) ∧ W.cell? ⟨b, off + j * 2 + 1, none⟩ = some (.slice x.a x.ps.length x.c) := by
  obtain ⟨b, off, h1, h2, h3, h4⟩ := RowAt.cell h hx
  exact ⟨b, off, h1, h2, h3, fun W hW => ⟨h4 0 (by omega) W hW, h4 1 (by omega) W hW⟩⟩
theorem backward_any (a : Option Addr) (n cap : Nat) (w : World) :
    Calls Tryz.prog 62 #[.slice a n cap] w fun e w' => e = .returned (.func (.func 75) #[] #[.pointer (some ⟨w.heap.size, 0, none⟩)]) ∧ w' = w.alloc (.cells #[.slice a n cap] 23) := by
  have hmf : ∀ (fn : Fn) (first cap : Array Value) (w : World), (Instr.makeFunc fn first cap).run Tryz.prog w = .ok (.func fn first cap) w := fun _ _ _ _ => rfl
  go_enter Tryz.func62, Tryz.ntmps62
  go_wp2
  go_ret
  exact ⟨rfl, rfl⟩
/-- the values of one round -/
def encsF (y : Int × FV) : Array Value := #[.int .i64 y.1, .agg #[.int .u64 y.2.f, .slice y.2.a y.2.ps.length y.2.c]]
/-- a row from its end on, with the places' numbers -/
def revs (L : List FV) : List (Int × FV) := (List.range L.length).map fun t => (((L.length - 1 - t : Nat) : Int), L.getD (L.length - 1 - t) default)
theorem revs_len (L : List FV) : (revs L).length = L.length := by simp [revs]
theorem revs_get {L : List FV} {k : Nat} {x : FV} (h : L[k]? = some x) : (revs L)[L.length - 1 - k]? = some ((k : Int), x) := by
  have hk := (List.getElem?_eq_some_iff.1 h).1
  unfold revs
  rw [List.getElem?_map, List.getElem?_range (by omega)]
  simp only [Option.map_some, Option.some.injEq]
  rw [show L.length - 1 - (L.length - 1 - k) = k by omega, List.getD_eq_getElem?_getD, h]
  rfl
theorem revs_take {L : List FV} {k : Nat} {x : FV} (h : L[k]? = some x) : (revs L).take (L.length - 1 - k) ++ [((k : Int), x)] = (revs L).take (L.length - k) := by
  have hk := (List.getElem?_eq_some_iff.1 h).1
  rw [show L.length - k = L.length - 1 - k + 1 by omega, take_snoc (revs_get h)]
set_option maxRecDepth 100000 in
set_option maxHeartbeats 2000000 in
theorem backs_in (F : Fence) (n : Nat) (h108 : F.fn 75) (hro : F.round = none) (hn : 1 ≤ n) (l B n₀ : Nat) (a : Option Addr) (cap : Nat) (L : List FV) (hb : B < n₀) (J Jx : List (Int × FV) → World → Prop)
    (W : World) (hB : W.cell? ⟨B, 0, none⟩ = some (.slice a L.length cap)) (hF : ∀ W', Below n₀ W W' → FsAt W' (.slice a L.length cap) L)
    (hY : ∀ pre y W1, J pre W1 → pre.length < L.length → YieldAt F (n - 1) Tryz.prog l (encsF y) W1 fun e W' =>
      (e = .returned (.bool true) ∧ J (pre ++ [y]) W' ∧ Below n₀ W1 W') ∨ (e = .returned (.bool false) ∧ Jx (pre ++ [y]) W')) (h0 : J [] W) :
    CallsIn F n Tryz.prog 75 #[.func (.yield l) #[] #[], .pointer (some ⟨B, 0, none⟩)] W fun e W' => (∃ v, e = .returned v) ∧
      ((∃ ys, ys = revs L ∧ J ys W') ∨ (∃ pre, (∃ t, t ≤ L.length ∧ pre = (revs L).take t) ∧ Jx pre W')) := by
  obtain ⟨N, hN⟩ : ∃ N, L.length = N := ⟨_, rfl⟩
  have hlen := (RowAt.form (hF W (Below.refl _ _))).choose_spec.choose_spec.2.1
  have hR : ∀ k x, L[k]? = some x → (revs L).take (N - 1 - k) ++ [((k : Int), x)] = (revs L).take (N - k) := fun k x h => by rw [← hN]; exact revs_take h
  have hRl : (revs L).take N = revs L := take_all (by rw [revs_len, hN])
  rw [hN] at hB hF hY hlen ⊢
  have HN := Lib.hid hN
  clear hN
  refine callsIn_of_wp Tryz.func75 rfl h108 ?_ hro
  simp only [Tryz.ntmps75, List.size_toArray, List.length_cons, List.length_nil, Nat.reduceAdd, Nat.reduceSub, Array.replicate_succ, Array.replicate_zero, List.push_toArray, List.append_toArray, List.nil_append, List.cons_append]
  gi_wp2
  gi_loopw [3] (fun i wr => ((∃ k : Nat, k < N ∧ i = .int .i64 (k : Nat) ∧ J ((revs L).take (N - 1 - k)) wr) ∨ (i = .int .i64 (-1) ∧ J (revs L) wr)) ∧ Below n₀ W wr) (fun i _ => (intOf i + 1).toNat)
  case atStart =>
    refine ⟨?_, Below.refl _ _⟩
    rcases Nat.eq_zero_or_pos N with rfl | hp
    · refine .inr ⟨by go_num, ?_⟩
      have : revs L = [] := List.eq_nil_of_length_eq_zero (by rw [revs_len]; exact HN.out)
      rw [this]
      exact h0
    · refine .inl ⟨N - 1, by omega, by go_num, ?_⟩
      rw [Nat.sub_self, List.take_zero]
      exact h0
  case round =>
    obtain ⟨hor, hnx⟩ := hrel
    have hB' := (hnx.cell (p := ⟨B, 0, none⟩) hb).trans hB
    rcases hor with ⟨k, hk, rfl, hJ⟩ | ⟨rfl, hJ⟩
    · obtain ⟨x, hx⟩ : ∃ x, L[k]? = some x := ⟨_, List.getElem?_eq_getElem (by rw [HN.out]; exact hk)⟩
      have hkz : (k : Int) < (N : Int) := by omega
      obtain ⟨b, off, rfl, -, -, hc⟩ := FsAt.cell (hF wr hnx) hx
      obtain ⟨c0, c1⟩ := hc wr (Below.refl _ _)
      obtain ⟨fn, tmps, assign, body, hy, hY2⟩ := hY _ ((k : Int), x) wr hJ (by rw [List.length_take, revs_len, HN.out]; omega)
      rw [hR k x hx] at hY2
      unfold encsF at hy
      clear hc hB hx
      gi_wp2
      refine hY2.mono ?_
      rintro e W3 (⟨rfl, hJ3, hk3⟩ | ⟨rfl, hJx3⟩)
      · rcases Nat.eq_zero_or_pos k with rfl | hk0
        · gi_wp2
          go_roundw
          case rel => exact ⟨.inr ⟨by go_num, by rw [Nat.sub_zero, hRl] at hJ3; exact hJ3⟩, hnx.trans hk3⟩
          case measure => simp [intOf]
        · obtain ⟨j, rfl⟩ : ∃ j, k = j + 1 := ⟨k - 1, by omega⟩
          gi_wp2
          go_roundw
          case rel => exact ⟨.inl ⟨j, by omega, by go_num, by rw [show N - 1 - j = N - (j + 1) by omega]; exact hJ3⟩, hnx.trans hk3⟩
          case measure => simp [intOf]; omega
      · gi_wp2
        refine bodyPost_ret (results_none rfl _ _ _) rfl ?_
        exact ⟨⟨_, rfl⟩, .inr ⟨_, ⟨N - k, by omega, rfl⟩, hJx3⟩⟩
    · gi_wp2
      go_end0
      exact ⟨⟨_, rfl⟩, .inl ⟨_, rfl, hJ⟩⟩
theorem backs_stop (F : Fence) (n : Nat) (h108 : F.fn 75) (hro : F.round = none) (hn : 1 ≤ n) (B cap : Nat) (a : Option Addr) (L : List FV) (w : World) (hb : B < w.heap.size)
    (hB : w.cell? ⟨B, 0, none⟩ = some (.slice a L.length cap)) (h : FsAt w (.slice a L.length cap) L) :
    SeqStopsK F n Tryz.prog 75 #[.pointer (some ⟨B, 0, none⟩)] encsF (Below w.heap.size) (fun ys => ys = revs L) (fun pre => ∃ t, t ≤ L.length ∧ pre = (revs L).take t) L.length w := fun l J Jx W hW _ _ hY h0 =>
  backs_in F n h108 hro hn l B w.heap.size a cap L hb J Jx W ((hW.cell (p := ⟨B, 0, none⟩) hb).trans hB) (fun _ hW' => h.below (hW.trans (hW'))) hY h0
end Go.Proofs.YtpihogkhfmijcaaGreat
namespace Go.Proofs.YtpihogkhfmijcaaGreat
open Go.RowKit Go.Maps Go.Shelf
attribute [local go_sem] Oper.semAt_some
/-- fragment's boxes -/
def F3 (w : World) (n : Int) : World := ((w.alloc (.cells #[.int .u64 n] 22)).alloc (.cells #[.int .u64 0, .slice none 0 0] 73)).alloc (.cells #[.bool false] 4)
theorem F3.size (w : World) (n : Int) : (F3 w n).heap.size = w.heap.size + 3 := by unfold F3; simp only [World.size_alloc]
theorem F3.below (w : World) (n : Int) : Below w.heap.size w (F3 w n) := by
  unfold F3
  exact (((Below.refl _ w).alloc (Nat.le_refl _) _).alloc (by simp only [World.size_alloc]; omega) _).alloc (by simp only [World.size_alloc]; omega) _
theorem F3.boxes (w : World) (n : Int) : Boxed (F3 w n) w.heap.size 22 (.int .u64 n) ∧ Box25 (F3 w n) (w.heap.size + 1) 0 (.slice none 0 0) ∧ Boxed (F3 w n) (w.heap.size + 1 + 1) 4 (.bool false) := by
  unfold F3
  have h1 := ((Boxed.new w 22 (.int .u64 n)).alloc (.cells #[.int .u64 0, .slice none 0 0] 73)).alloc (.cells #[.bool false] 4)
  have h2 := (Box25.new (w.alloc (.cells #[.int .u64 n] 22)) 0 (.slice none 0 0)).alloc (.cells #[.bool false] 4)
  have h3 := Boxed.new ((w.alloc (.cells #[.int .u64 n] 22)).alloc (.cells #[.int .u64 0, .slice none 0 0] 73)) 4 (.bool false)
  simp only [World.size_alloc] at h2 h3
  exact ⟨h1, h2, h3⟩
def F4 (w : World) (n : Int) (v : Value) : World := (F3 w n).alloc (.cells #[v] 23)
theorem F4.size (w : World) (n : Int) (v : Value) : (F4 w n v).heap.size = w.heap.size + 4 := by unfold F4; rw [World.size_alloc, F3.size]
theorem F4.below (w : World) (n : Int) (v : Value) : Below w.heap.size w (F4 w n v) := (F3.below w n).alloc (F3.below w n).size _
/-- the fragment of an entry -/
def fragV (L : List FV) (n : Int) : Option FV := L.reverse.find? fun x => decide (x.f ≤ n)
theorem revs_snd (L : List FV) : (revs L).map Prod.snd = L.reverse := by
  apply List.ext_getElem?
  intro t
  rw [List.getElem?_map]
  by_cases ht : t < L.length
  · have hx : L[L.length - 1 - t]? = some (L[L.length - 1 - t]'(by omega)) := List.getElem?_eq_getElem _
    have := revs_get hx
    rw [show L.length - 1 - (L.length - 1 - t) = t by omega] at this
    rw [this, List.getElem?_reverse ht, hx]
    rfl
  · rw [List.getElem?_eq_none (by rw [revs_len]; omega), List.getElem?_eq_none (by simp; omega)]
    rfl
theorem fragV_none {L : List FV} {n : Int} (h : ∀ y ∈ revs L, ¬ y.2.f ≤ n) : fragV L n = none := by
  unfold fragV
  rw [← revs_snd, List.find?_eq_none]
  intro x hx
  obtain ⟨y, hy, rfl⟩ := List.mem_map.1 hx
  simpa using h y hy
def NoneOf (n : Int) (pre : List (Int × FV)) : Prop := ∀ y ∈ pre, ¬ y.2.f ≤ n
def lastY (pre : List (Int × FV)) : Int × FV := pre.getLastD (0, default)
theorem lastY_snoc (pre : List (Int × FV)) (y : Int × FV) : lastY (pre ++ [y]) = y := by simp [lastY]
theorem fragV_some {L : List FV} {n : Int} {t : Nat} (hne : (revs L).take t ≠ []) (hl : (lastY ((revs L).take t)).2.f ≤ n) (h : ∀ y ∈ ((revs L).take t).dropLast, ¬ y.2.f ≤ n) : fragV L n = some (lastY ((revs L).take t)).2 := by
  unfold fragV
  rw [← revs_snd, ← List.take_append_drop t (revs L)]
  obtain ⟨pre, hp⟩ : ∃ pre, (revs L).take t = pre := ⟨_, rfl⟩
  rw [List.take_append_drop]
  have hR : revs L = pre ++ (revs L).drop t := by rw [← hp, List.take_append_drop]
  rw [hp] at hne hl h ⊢
  have hd : pre = pre.dropLast ++ [lastY pre] := by
    unfold lastY
    rw [List.getLastD_eq_getLast?, List.getLast?_eq_some_getLast hne]
    exact (List.dropLast_concat_getLast hne).symm
  rw [hR, List.map_append, List.find?_append]
  have : List.find? (fun x : FV => decide (x.f ≤ n)) (pre.map Prod.snd) = some (lastY pre).2 := by
    rw [hd, List.map_append, List.find?_append, List.find?_eq_none.2 (fun x hx => by
      obtain ⟨y, hy, rfl⟩ := List.mem_map.1 hx
      simpa using h y hy)]
    simp only [List.map_cons, List.map_nil, Option.none_or, List.find?_cons]
    rw [← hd, decide_eq_true hl]
  rw [this]
  rfl
theorem fragV_mem {L : List FV} {n : Int} {x : FV} (h : fragV L n = some x) : x ∈ L ∧ x.f ≤ n := by
  have h1 := List.mem_of_find?_eq_some h
  have h2 := List.find?_some h
  exact ⟨by simpa using h1, by simpa using h2⟩
set_option maxRecDepth 100000 in
set_option maxHeartbeats 2000000 in
theorem fragment_any (v : Value) (n : Int) (L : List FV) (w : World) (h : FsAt w v L) :
    Calls Tryz.prog 43 #[v, .int .u64 n] w fun e w' => ((fragV L n = none ∧ e = .returned (.tuple #[.agg #[.int .u64 0, .slice none 0 0], .bool false])) ∨ ∃ x, fragV L n = some x ∧ e = .returned (.tuple #[.agg #[.int .u64 x.f, .slice x.a x.ps.length x.c], .bool true])) ∧ Below w.heap.size w w' := by
  obtain ⟨a, cap, rfl, -⟩ := RowAt.form h
  have HBK : Hid (Calls Tryz.prog 62 #[.slice a L.length cap] (F3 w n) fun e w' => e = .returned (.func (.func 75) #[] #[.pointer (some ⟨w.heap.size + 3, 0, none⟩)]) ∧ w' = F4 w n (.slice a L.length cap)) := by
    have := backward_any a L.length cap (F3 w n)
    rw [F3.size] at this
    exact this
  refine (callsIn_wide (n := 3)).1 ?_
  refine callsIn_of_wp_marks Tryz.func43 rfl trivial ?_ rfl
  simp only [Tryz.ntmps43, List.size_toArray, List.length_cons, List.length_nil, Nat.reduceAdd, Nat.reduceSub, Array.replicate_succ, Array.replicate_zero, List.push_toArray, List.append_toArray, List.nil_append, List.cons_append]
  gi_wp2_with fail
  change Fence.wide.fn 62 ∧ CallsIn _ _ _ _ _ (F3 w n) _
  refine ⟨trivial, (callsIn_wide.2 HBK.out).mono ?_⟩
  rintro e w1 ⟨rfl, rfl⟩
  gi_wp2
  have hsz := F4.size w n (.slice a L.length cap)
  have hB4 := F4.below w n (.slice a L.length cap)
  have h4 := h.below hB4
  obtain ⟨q0, q1, q2⟩ := F3.boxes w n
  have b0 : Boxed (F4 w n (.slice a L.length cap)) w.heap.size 22 (.int .u64 n) := q0.alloc _
  have b1 : Box25 (F4 w n (.slice a L.length cap)) (w.heap.size + 1) 0 (.slice none 0 0) := q1.alloc _
  have b2 : Boxed (F4 w n (.slice a L.length cap)) (w.heap.size + 1 + 1) 4 (.bool false) := q2.alloc _
  have b3 : (F4 w n (.slice a L.length cap)).cell? ⟨w.heap.size + 3, 0, none⟩ = some (.slice a L.length cap) := by
    have := (Boxed.new (F3 w n) 23 (.slice a L.length cap)).cell
    rw [F3.size] at this
    exact this
  obtain ⟨W0, hW0⟩ : ∃ W0, F4 w n (.slice a L.length cap) = W0 := ⟨_, rfl⟩
  rw [hW0] at hsz hB4 h4 b0 b1 b2 b3 ⊢
  clear hW0 q0 q1 q2 HBK h
  refine wpIn_rangeFunc_ownH rfl (by omega) (gf := 75) (lb := #[.pointer (some ⟨w.heap.size + 3, 0, none⟩)]) rfl trivial (enters_of Tryz.func75 (by kernel_rfl) rfl)
    (backs_stop Fence.wide _ trivial rfl (by omega) (w.heap.size + 3) cap a L W0 (by omega) b3 h4) belowK_t (belowK_b (Nat.le_refl _)) (Below.refl _ _) (fun _ => rfl)
    (fun pre W => (NoneOf n pre ∧ ((Boxed W w.heap.size 22 (.int .u64 n) ∧ Box25 W (w.heap.size + 1) 0 (.slice none 0 0)) ∧ Boxed W (w.heap.size + 1 + 1) 4 (.bool false))) ∧ Below W0.heap.size W0 W)
    (fun c' pre W => ((c' = .ret ∧ pre ≠ [] ∧ (lastY pre).2.f ≤ n ∧ NoneOf n pre.dropLast) ∧ Box25 W (w.heap.size + 1) (lastY pre).2.f (.slice (lastY pre).2.a (lastY pre).2.ps.length (lastY pre).2.c) ∧ Boxed W (w.heap.size + 1 + 1) 4 (.bool true)) ∧ Below w.heap.size w W)
    (OwnFrom.and (OwnFrom.and (ownFrom_pure _ _) (OwnFrom.and (OwnFrom.and (Own.from (boxed_own _ _ _) _) (Own.from (fun s A B row hs hg hr => Box25.keep hs hg hr) _)) (Own.from (boxed_own _ _ _) _))) (ownFrom_below (Nat.le_refl _) (Nat.le_refl _)))
    (fun c => OwnFrom.and (OwnFrom.and (ownFrom_pure _ _) (OwnFrom.and (Own.from (show Own (fun (pre : List (Int × FV)) W => Box25 W (w.heap.size + 1) (lastY pre).2.f (.slice (lastY pre).2.a (lastY pre).2.ps.length (lastY pre).2.c)) from fun s A B row hs hg hr => Box25.keep hs hg hr) _) (Own.from (boxed_own _ _ _) _))) (ownFrom_below (Nat.le_refl _) (by omega)))
    ⟨⟨(fun _ h => by cases h), ⟨b0, b1⟩, b2⟩, Below.refl _ _⟩
    (fun y a' W => ∃ Bx, W0.heap.size ≤ Bx ∧ Box25 W Bx y.2.f (.slice y.2.a y.2.ps.length y.2.c) ∧ a' = { tmps := #[.slice a L.length cap, .int .u64 n, undef, .pointer (some ⟨w.heap.size, 0, none⟩), .pointer (some ⟨w.heap.size + 1, 0, none⟩), .pointer (some ⟨w.heap.size + 1 + 1, 0, none⟩), undef, .pointer (some ⟨Bx, 0, none⟩), .slice a L.length cap, .func (.func 75) #[] #[.pointer (some ⟨w.heap.size + 3, 0, none⟩)], .int .i64 y.1, .agg #[.int .u64 y.2.f, .slice y.2.a y.2.ps.length y.2.c], undef, undef, undef, undef, undef, undef], defers := [] })
    (fun x a' _ X Y row hs hg hr => by obtain ⟨Bx, h1, h2, h3⟩ := hs; exact ⟨Bx, h1, h2.keep hg (fun r e => (hr r e).2), h3⟩)
    ?assign ?body ?done ?stop
  case assign =>
    rintro l pre ⟨k, x⟩ W K ⟨⟨hpre, ⟨q0, q1⟩, q2⟩, hB⟩ hK
    unfold encsF
    gi_wp2
    exact hK _ _ ((KeepsOthers.alloc _ _).from _) ((Below.refl _ W).alloc hB.size _) ⟨⟨hpre, ⟨q0.alloc _, q1.alloc _⟩, q2.alloc _⟩, hB.alloc hB.size _⟩ ⟨W.heap.size, hB.size, Box25.new _ _ _, rfl⟩
  case body =>
    rintro l pre ⟨k, x⟩ a' W hl hr ⟨⟨hpre, ⟨q0, q1⟩, q2⟩, hB⟩ ⟨Bx, hBx, hx, rfl⟩ hlt
    obtain ⟨f, xa, xc, xp⟩ := x
    dsimp only at hx ⊢
    obtain ⟨E, hE⟩ : ∃ E, xp.length = E := ⟨_, rfl⟩
    rw [hE] at hx ⊢
    have c0 := q0.cell
    have x0 := hx.c0
    have x1 := hx.c1
    have d0 := q1.c0
    have d1 := q1.c1
    have d2 := q2.cell
    have f0 := q1.fz
    have f2 := q2.frozen
    have hBW : Below w.heap.size w W := hB4.trans (hB.mono (by omega))
    by_cases hfn : f ≤ n
    · have HST : Hid (KeepsFrom W0.heap.size W (((W.setCell ⟨w.heap.size + 1, 0, none⟩ (.int .u64 f)).setCell ⟨w.heap.size + 1, 1, none⟩ (.slice xa E xc)).setCell ⟨w.heap.size + 1 + 1, 0, none⟩ (.bool true)) ∧ (Box25 (((W.setCell ⟨w.heap.size + 1, 0, none⟩ (.int .u64 f)).setCell ⟨w.heap.size + 1, 1, none⟩ (.slice xa E xc)).setCell ⟨w.heap.size + 1 + 1, 0, none⟩ (.bool true)) (w.heap.size + 1) f (.slice xa E xc) ∧ Boxed (((W.setCell ⟨w.heap.size + 1, 0, none⟩ (.int .u64 f)).setCell ⟨w.heap.size + 1, 1, none⟩ (.slice xa E xc)).setCell ⟨w.heap.size + 1 + 1, 0, none⟩ (.bool true)) (w.heap.size + 1 + 1) 4 (.bool true)) ∧ Below w.heap.size w (((W.setCell ⟨w.heap.size + 1, 0, none⟩ (.int .u64 f)).setCell ⟨w.heap.size + 1, 1, none⟩ (.slice xa E xc)).setCell ⟨w.heap.size + 1 + 1, 0, none⟩ (.bool true))) :=
        ⟨(((KeepsOthers.setCell _ _ _).trans (KeepsOthers.setCell _ _ _)).trans (KeepsOthers.setCell _ _ _)).from _, ⟨(q1.put f _).other (by omega) _ _, Boxed.set _ (Boxed.beside (Boxed.beside q2 (by omega) _ _) (by omega) _ _)⟩, ((hBW.setCell (p := ⟨w.heap.size + 1, 0, none⟩) (by show w.heap.size ≤ w.heap.size + 1; omega) _).setCell (p := ⟨w.heap.size + 1, 1, none⟩) (by show w.heap.size ≤ w.heap.size + 1; omega) _).setCell (p := ⟨w.heap.size + 1 + 1, 0, none⟩) (by show w.heap.size ≤ w.heap.size + 1 + 1; omega) _⟩
      have HPRE := Lib.hid (show NoneOf n (pre ++ [((k, ⟨f, xa, xc, xp⟩) : Int × FV)]).dropLast by rw [List.dropLast_concat]; exact hpre)
      have HFN := Lib.hid hfn
      have HEE := Lib.hid hE
      clear hr hx hpre q0 q1 q2 hB hBW b0 b1 b2 b3 h4 hB4 hsz hE hlt
      gi_wp2
      refine ⟨HST.out.1, ⟨⟨rfl, by simp, by rw [lastY_snoc]; exact HFN.out, by simpa using HPRE.out⟩, ?_⟩, HST.out.2.2⟩
      rw [lastY_snoc]
      dsimp only
      rw [HEE.out]
      exact HST.out.2.1
    · have HPRE := Lib.hid (show NoneOf n (pre ++ [((k, ⟨f, xa, xc, xp⟩) : Int × FV)]) from fun y hy => by
        rcases List.mem_append.1 hy with h | h
        · exact hpre y h
        · rw [List.mem_singleton] at h; rw [h]; exact hfn)
      have HGO := Lib.hid (And.intro (And.intro q0 q1) (And.intro q2 hB))
      clear hr hx hpre q0 q1 q2 hB hBW b0 b1 b2 b3 h4 hB4 hsz hE hlt
      gi_wp2
      exact ⟨KeepsFrom.refl _ _, Below.refl _ _, ⟨HPRE.out, HGO.out.1, HGO.out.2.1⟩, HGO.out.2.2⟩
  case done =>
    rintro D ys W hD rfl ⟨⟨hno, ⟨q0, q1⟩, q2⟩, hB⟩ hK
    have hBW : Below w.heap.size w W := hB4.trans (hB.mono (by omega))
    have d0 := Box25.c0 q1
    have d1 := Box25.c1 q1
    have d2 := Boxed.cell q2
    have f0 := Box25.fz q1
    have f2 := Boxed.frozen q2
    have hK' := (((KeepsOthers.setCell W ⟨w.heap.size + 1, 0, none⟩ (.int .u64 0)).trans (KeepsOthers.setCell _ ⟨w.heap.size + 1, 1, none⟩ (.slice none 0 0))).trans (KeepsOthers.setCell _ ⟨w.heap.size + 1 + 1, 0, none⟩ (.bool false))).same D _ hK rfl
    have r1 := Box25.other (Box25.put q1 0 (.slice none 0 0)) (B := w.heap.size + 1 + 1) (by omega) 0 (.bool false)
    have r2 := Boxed.set (.bool false) (Boxed.beside (Boxed.beside q2 (B := w.heap.size + 1) (by omega) 0 (.int .u64 0)) (B := w.heap.size + 1) (by omega) 1 (.slice none 0 0))
    have hB2 := ((hBW.setCell (p := ⟨w.heap.size + 1, 0, none⟩) (by show w.heap.size ≤ w.heap.size + 1; omega) (.int .u64 0)).setCell (p := ⟨w.heap.size + 1, 1, none⟩) (by show w.heap.size ≤ w.heap.size + 1; omega) (.slice none 0 0)).setCell (p := ⟨w.heap.size + 1 + 1, 0, none⟩) (by show w.heap.size ≤ w.heap.size + 1 + 1; omega) (.bool false)
    have s1 := Box25.keep r1 (grownBy_putObj' _ D (.deferred none)) (fun r e => by cases e; exact ⟨_, hK', rfl⟩)
    have h7 := cell_kept (Boxed.cell r2) (grownBy_putObj' _ D (.deferred none)) (fun r e => by cases e; exact ⟨_, hK', rfl⟩)
    have hBD := hB2.trans (belowK_b (w := w) (Nat.le_refl _) _ D _ (.deferred none) (by omega) hK' rfl rfl)
    have HH := Lib.hid (And.intro s1 (And.intro h7 (And.intro hBD (And.intro (fragV_none hno) hK'))))
    clear hsz s1 h7 hBD hB2 r1 r2 hK' hBW hB b0 b1 b2 b3 h4 hB4 q0 q1 q2 hno
    gi_wp2
    refine ⟨by simp, .inl ⟨_, _, rfl, run_takeDeferred HH.out.2.2.2.2, ?_⟩⟩
    refine ⟨.tuple #[.agg #[.int .u64 0, .slice none 0 0], .bool false], ?_, .inl ⟨HH.out.2.2.2.1, rfl⟩, HH.out.2.2.1⟩
    have h6 := Box25.c0 HH.out.1
    have h9 := Box25.c1 HH.out.1
    have h8 := HH.out.2.1
    simp [results, Tryz.f43, go_sem, h6, h8, h9]
  case stop =>
    rintro D c' pre W hD ⟨t, ht, hpt⟩ ⟨⟨⟨rfl, hne, hl, hdl⟩, q1, q2⟩, hB⟩ hK
    have hfv : fragV L n = some (lastY pre).2 := by rw [hpt] at hne hl hdl ⊢; exact fragV_some hne hl hdl
    obtain ⟨⟨k, f, xa, xc, xp⟩, hy⟩ : ∃ y, lastY pre = y := ⟨_, rfl⟩
    rw [hy] at q1 hfv
    dsimp only at q1
    obtain ⟨E, hE⟩ : ∃ E, xp.length = E := ⟨_, rfl⟩
    rw [hE] at q1
    have s1 := Box25.keep q1 (grownBy_putObj' _ D (.deferred none)) (fun r e => by cases e; exact ⟨_, hK, rfl⟩)
    have h7 := cell_kept (Boxed.cell q2) (grownBy_putObj' _ D (.deferred none)) (fun r e => by cases e; exact ⟨_, hK, rfl⟩)
    have hBD := hB.trans (belowK_b (w := w) (Nat.le_refl _) _ D _ (.deferred none) (by omega) hK rfl rfl)
    have HH := Lib.hid (And.intro s1 (And.intro h7 (And.intro hBD (And.intro (And.intro hfv hE) hK))))
    clear hsz s1 h7 hBD hB b0 b1 b2 b3 h4 hB4 q1 q2 hK hfv hE hne hl hdl ht hpt hy
    gi_wp2
    refine ⟨by simp, .inl ⟨_, _, rfl, run_takeDeferred HH.out.2.2.2.2, ?_⟩⟩
    refine ⟨.tuple #[.agg #[.int .u64 f, .slice xa E xc], .bool true], ?_, .inr ⟨_, HH.out.2.2.2.1.1, by dsimp only; rw [HH.out.2.2.2.1.2]⟩, HH.out.2.2.1⟩
    have h6 := Box25.c0 HH.out.1
    have h9 := Box25.c1 HH.out.1
    have h8 := HH.out.2.1
    simp [results, Tryz.f43, go_sem, h6, h8, h9]
end Go.Proofs.YtpihogkhfmijcaaGreat
namespace Go.Proofs.YtpihogkhfmijcaaGreat
open Go.RowKit Go.Maps Go.Shelf
/-- the write set of an entry -/
def setL (f : Int) (row : List PL) (n k : Int) : List PL := if f ≤ k ∧ hasB row n = true then rot row ((k - f) % (row.length : Int)).toNat n.toNat else []
set_option maxRecDepth 100000 in
set_option maxHeartbeats 1000000 in
/-- the write set of an entry, by any row -/
def setV (L : List FV) (n k : Int) : List PL := match fragV L k with
  | none => []
  | some x => setL x.f x.ps n k
theorem setL_ok {f n k : Int} {row : List PL} (h : ∀ q ∈ row, q.ok) : ∀ q ∈ setL f row n k, q.ok := by
  unfold setL
  split
  · rename_i hh
    have h0 : 0 < row.length := by
      have := hh.2
      unfold hasB at this
      simp at this
      omega
    exact rot_ok h0 h
  · simp
theorem set_any (v : Value) (n k : Int) (L : List FV) (w : World) (h : FsAt w v L) (hl : ∀ x ∈ L, x.ps.length ≤ 100000) (hk : 0 ≤ k ∧ k ≤ 18446744073709551615) :
    Calls Tryz.prog 24 #[v, .int .i64 n, .int .u64 k] w fun e w' => ∃ v', e = .returned v' ∧ OwnPs w.heap.size w' v' (setV L n k) ∧ Below w.heap.size w w' := by
  have HF := Lib.hid (fragment_any v k L w h)
  have HL := Lib.hid (RowAt.each h)
  have HLL := Lib.hid hl
  obtain ⟨va, vc, rfl, -⟩ := RowAt.form h
  clear h hl
  unfold setV
  cases hfv : fragV L k with
  | none =>
    rw [hfv] at HF
    go_enter Tryz.func24, Tryz.ntmps24
    go_wp2_with fail
    refine HF.out.mono ?_
    rintro e w1 ⟨⟨-, rfl⟩ | ⟨x, hx, -⟩, hb1⟩
    · have HB1 := Lib.hid (hb1.alloc hb1.size (.cells #[.int .u64 0, .slice none 0 0] 73))
      clear hb1
      go_wp2
      go_ret
      exact ⟨_, rfl, World.ownsRow_nil _ _ _ _, HB1.out⟩
    · cases hx
  | some x =>
    obtain ⟨hxm, hfk⟩ := fragV_mem hfv
    obtain ⟨hf, hp⟩ := HL.out x hxm
    have hl := HLL.out x hxm
    obtain ⟨f, a, c, row⟩ := x
    dsimp only at hfk hf hp hl ⊢
    unfold u64ok at hf
    replace HF := Lib.hid (show Calls Tryz.prog 43 #[.slice va L.length vc, .int .u64 k] w fun e w' => e = .returned (.tuple #[.agg #[.int .u64 f, .slice a row.length c], .bool true]) ∧ Below w.heap.size w w' from HF.out.mono fun e w' ⟨hh, hb⟩ => by
      rcases hh with ⟨hn, -⟩ | ⟨y, hy, he⟩
      · rw [hfv] at hn; cases hn
      · rw [hfv] at hy; cases hy; exact ⟨he, hb⟩)
    generalize L.length = LL at HF ⊢
    clear HL HLL hxm hfv
    have HP := Lib.hid hp
    have HH := Lib.hid (fun w => hasset_any f n a c row w)
    obtain ⟨E, hE⟩ : ∃ E, row.length = E := ⟨_, rfl⟩
    unfold setL
    rw [hE] at HF HP HH hl ⊢
    have HE := Lib.hid hE
    clear hE hp
    cases hb : hasB row n
    · rw [hb] at HH
      rw [if_neg (by simp)]
      go_enter Tryz.func24, Tryz.ntmps24
      go_wp2_with fail
      refine HF.out.mono ?_
      rintro e w1 ⟨rfl, hb1⟩
      have HB1 := Lib.hid (hb1.alloc hb1.size (.cells #[.int .u64 f, .slice a E c] 73))
      clear hb1
      go_wp2_with (go_at_call 44; refine (HH.out _).mono ?_; rintro e w2 ⟨rfl, hb2⟩; have HB2 := Lib.hid (HB1.out.trans (hb2.mono HB1.out.size)); clear hb2)
      go_ret
      exact ⟨_, rfl, World.ownsRow_nil _ _ _ _, HB2.out⟩
    · rw [hb] at HH
      have hbn : 1 ≤ n ∧ n ≤ (E : Int) := by
        unfold hasB at hb
        rw [HE.out] at hb
        simpa using hb
      rw [if_pos ⟨hfk, rfl⟩]
      obtain ⟨N, rfl⟩ : ∃ N : Nat, n = N := ⟨n.toNat, by omega⟩
      obtain ⟨J, hJ⟩ : ∃ J : Nat, (k - f) % (E : Int) = J := ⟨((k - f) % (E : Int)).toNat, by have := Int.emod_nonneg (k - f) (show (E : Int) ≠ 0 by omega); omega⟩
      have hJE : J < E := by have := Int.emod_lt_of_pos (k - f) (show (0 : Int) < E by omega); omega
      have HRD := Lib.hid (fun w1 (hb : Below w.heap.size w w1) => round_any (.slice a E c) row J N w1 (HP.out.below hb) (by rw [HE.out]; omega) (by rw [HE.out]; omega) (by omega) (by omega))
      rw [hJ, show ((J : Int)).toNat = J from Int.toNat_natCast J, show ((N : Int)).toNat = N from Int.toNat_natCast N]
      have e1 : IntKind.u64.wrap (k - f) = k - f := by rw [wrapu]; omega
      have e2 : (k - f).tmod (E : Int) = (J : Int) := by rw [Int.tmod_eq_emod_of_nonneg (by omega)]; exact hJ
      have e3 : IntKind.u64.wrap (E : Int) = E := by rw [wrapu]; omega
      have hE0 : (E : Int) ≠ 0 := by omega
      have hEb : ((E : Int) == 0) = false := by simp; omega
      go_enter Tryz.func24, Tryz.ntmps24
      go_wp2_with fail
      refine HF.out.mono ?_
      rintro e w1 ⟨rfl, hb1⟩
      obtain ⟨W, hW⟩ : ∃ W, W = w1.alloc (.cells #[.int .u64 f, .slice a E c] 73) := ⟨_, rfl⟩
      have hB1 : Below w.heap.size w W := by rw [hW]; exact hb1.alloc hb1.size _
      have hbx : Box25 W w1.heap.size f (.slice a E c) := by rw [hW]; exact Box25.new _ _ _
      have HX : Hid (∀ w2, Below W.heap.size W w2 → w2.cell? ⟨w1.heap.size, 0, none⟩ = some (.int .u64 f) ∧ w2.cell? ⟨w1.heap.size, 1, none⟩ = some (.slice a E c) ∧ Below w.heap.size w w2) := fun w2 h2 => by
        have hlt : w1.heap.size < W.heap.size := by rw [hW, World.size_alloc]; omega
        exact ⟨(h2.cell (p := ⟨w1.heap.size, 0, none⟩) hlt).trans hbx.c0, (h2.cell (p := ⟨w1.heap.size, 1, none⟩) hlt).trans hbx.c1, hB1.trans (h2.mono hB1.size)⟩
      have HHW := Lib.hid (HH.out W)
      clear hb1 hbx hB1 HH HF
      subst hW
      go_wp2_with fail
      refine HHW.out.mono ?_
      rintro e w2 ⟨rfl, hb2⟩
      obtain ⟨x0, x1, hB2⟩ := HX.out w2 hb2
      have HR := Lib.hid (HRD.out w2 hB2)
      have HB2 := Lib.hid hB2
      clear hb2 hB2 HX HHW
      go_wp2_with fail
      refine HR.out.mono ?_
      rintro e w3 ⟨rfl, ho3, hb3⟩
      have H3 := Lib.hid (And.intro (ho3.base_le HB2.out.size) (HB2.out.trans (hb3.mono HB2.out.size)))
      clear ho3 hb3
      go_wp2
      go_ret
      exact ⟨_, rfl, H3.out⟩
end Go.Proofs.YtpihogkhfmijcaaGreat
namespace Go.Proofs.YtpihogkhfmijcaaGreat
open Go.RowKit Go.Maps Go.Shelf
theorem fragV_at {L : List FV} {n : Int} {k : Nat} {x : FV} (h : L[k]? = some x) (hx : x.f ≤ n) (hn : NoneOf n ((revs L).take (L.length - 1 - k))) : fragV L n = some x := by
  have ht := revs_take h
  have hl : (lastY ((revs L).take (L.length - k))).2 = x := by rw [← ht, lastY_snoc]
  have := fragV_some (L := L) (n := n) (t := L.length - k) (by rw [← ht]; simp) (by rw [hl]; exact hx) (by rw [← ht, List.dropLast_concat]; exact hn)
  rw [hl] at this
  exact this
theorem NoneOf.snoc {n : Int} {pre : List (Int × FV)} {y : Int × FV} (h : NoneOf n pre) (hy : ¬ y.2.f ≤ n) : NoneOf n (pre ++ [y]) := fun z hz => by
  rcases List.mem_append.1 hz with hz | hz
  · exact h z hz
  · rw [List.mem_singleton] at hz; rw [hz]; exact hy
set_option maxRecDepth 100000 in
theorem rfrag_any (v : Value) (n : Int) (L : List FV) (w : World) (h : FsAt w v L) :
    Calls Tryz.prog 47 #[v, .int .u64 n] w fun e w' => ((e = .returned (.int .i64 (-1)) ∧ fragV L n = none) ∨ ∃ (k : Nat) (x : FV), e = .returned (.int .i64 (k : Nat)) ∧ L[k]? = some x ∧ fragV L n = some x) ∧ w' = w := by
  obtain ⟨a, cap, rfl, hlen, -⟩ := RowAt.form h
  have HC := Lib.hid h
  have HAT := Lib.hid (fun (k : Nat) (x : FV) (h : L[k]? = some x) => fragV_at (n := n) h)
  have HTK := Lib.hid (fun (k : Nat) (x : FV) (h : L[k]? = some x) => revs_take h)
  have HNN := Lib.hid (show NoneOf n (revs L) → fragV L n = none from fun h => fragV_none h)
  have HRL := Lib.hid (revs_len L)
  obtain ⟨N, hN⟩ : ∃ N, L.length = N := ⟨_, rfl⟩
  rw [hN] at HC HAT HTK HRL hlen ⊢
  have HN := Lib.hid hN
  clear hN h
  go_enter Tryz.func47, Tryz.ntmps47
  go_wp2
  go_loopw [5] (fun i wr => ((∃ k : Nat, k < N ∧ i = .int .i64 (k : Nat) ∧ Hid (NoneOf n ((revs L).take (N - 1 - k)))) ∨ (i = .int .i64 (-1) ∧ Hid (NoneOf n (revs L)))) ∧ wr = w) (fun i _ => (intOf i + 1).toNat)
  case atStart =>
    refine ⟨?_, rfl⟩
    rcases Nat.eq_zero_or_pos N with rfl | hp
    · refine .inr ⟨by go_num, ?_⟩
      intro y hy
      rw [List.eq_nil_of_length_eq_zero HRL.out] at hy
      cases hy
    · refine .inl ⟨N - 1, by omega, by go_num, ?_⟩
      intro y hy
      rw [Nat.sub_self, List.take_zero] at hy
      cases hy
  case round =>
    obtain ⟨⟨k, hk, rfl, HO⟩ | ⟨rfl, HO⟩, rfl⟩ := hrel
    · obtain ⟨x, hx⟩ : ∃ x, L[k]? = some x := ⟨_, List.getElem?_eq_getElem (by rw [HN.out]; exact hk)⟩
      have hkz : (k : Int) < (N : Int) := by omega
      obtain ⟨b, off, rfl, -, -, hc⟩ := FsAt.cell HC.out hx
      obtain ⟨c0, -⟩ := hc wr (Below.refl _ _)
      have HX := Lib.hid hx
      clear hc hx
      by_cases hfn : x.f ≤ n
      · have HF := Lib.hid (HAT.out k x HX.out hfn HO.out)
        go_wp2
        go_ret
        exact ⟨.inr ⟨k, x, rfl, HX.out, HF.out⟩, rfl⟩
      · have HS := Lib.hid (show NoneOf n ((revs L).take (N - k)) from by rw [← HTK.out k x HX.out]; exact HO.out.snoc hfn)
        rcases Nat.eq_zero_or_pos k with rfl | hk0
        · have HS2 := Lib.hid (show NoneOf n (revs L) from by have := HS.out; rw [Nat.sub_zero, take_all HRL.out] at this; exact this)
          rw [Nat.zero_mul, Nat.add_zero] at c0
          go_wp2
          go_roundw
          case rel => exact ⟨.inr ⟨by go_num, HS2.out⟩, by first | rfl | trivial⟩
          case measure => simp [intOf]
        · obtain ⟨j, rfl⟩ : ∃ j, k = j + 1 := ⟨k - 1, by omega⟩
          go_wp2
          go_roundw
          case rel => exact ⟨.inl ⟨j, by omega, by go_num, by unfold Hid; rw [show N - 1 - j = N - (j + 1) by omega]; exact HS.out⟩, by first | rfl | trivial⟩
          case measure => simp [intOf]; omega
    · have HF := Lib.hid (HNN.out HO.out)
      go_wp2
      go_ret
      exact ⟨.inl ⟨rfl, HF.out⟩, rfl⟩
/-- a slice of n -/
def IsSl (s : Value) (n : Nat) : Prop := ∃ a c, s = .slice a n c
def slen (v : Value) : Nat := match v with | .slice _ n _ => n | _ => 0
set_option maxRecDepth 100000 in
set_option maxHeartbeats 2000000 in
theorem rset_any (v : Value) (n k : Int) (L : List FV) (w : World) (h : FsAt w v L) (hl : ∀ x ∈ L, x.ps.length ≤ 100000) (hk : 0 ≤ k ∧ k ≤ 18446744073709551615) :
    Calls Tryz.prog 27 #[v, .int .i64 n, .int .u64 k] w fun e w' => ∃ v', e = .returned v' ∧ OwnPs w.heap.size w' v' (setV L n k) ∧ Below w.heap.size w w' := by
  have HF := Lib.hid (rfrag_any v k L w h)
  have HL := Lib.hid h
  have HLL := Lib.hid hl
  obtain ⟨va, vc, rfl, hlen, -⟩ := RowAt.form h
  clear h hl
  unfold setV
  cases hfv : fragV L k with
  | none =>
    rw [hfv] at HF
    go_enter Tryz.func27, Tryz.ntmps27
    go_wp2_with fail
    refine HF.out.mono ?_
    rintro e w1 ⟨⟨rfl, -⟩ | ⟨_, x, -, -, hx⟩, rfl⟩
    · go_wp2
      go_ret
      exact ⟨_, rfl, World.ownsRow_nil _ _ _ _, Below.refl _ _⟩
    · cases hx
  | some x =>
    obtain ⟨hxm, hfk⟩ := fragV_mem hfv
    obtain ⟨hf, hp⟩ := RowAt.each HL.out x hxm
    have hl := HLL.out x hxm
    obtain ⟨f, a, c, row⟩ := x
    dsimp only at hfk hf hp hl ⊢
    unfold u64ok at hf
    obtain ⟨LL, hLL⟩ : ∃ LL, L.length = LL := ⟨_, rfl⟩
    rw [hLL] at HF HL hlen ⊢
    replace HF := Lib.hid (show Calls Tryz.prog 47 #[.slice va LL vc, .int .u64 k] w fun e w' => ∃ KK : Nat, e = .returned (.int .i64 (KK : Nat)) ∧ w' = w ∧ (KK : Int) < (LL : Int) ∧ Hid (L[KK]? = some ⟨f, a, c, row⟩) from HF.out.mono fun e w' ⟨hh, hb⟩ => by
      rcases hh with ⟨-, hn⟩ | ⟨KK, y, he, hy, hy2⟩
      · rw [hfv] at hn; cases hn
      · rw [hfv] at hy2; cases hy2; exact ⟨KK, he, hb, by have := (List.getElem?_eq_some_iff.1 hy).1; omega, hy⟩)
    clear HLL hxm hfv hLL
    have HP := Lib.hid hp
    have HPO := Lib.hid hp.ok
    obtain ⟨E, hE⟩ : ∃ E, row.length = E := ⟨_, rfl⟩
    have hhas : hasB row n = (decide (1 ≤ n) && decide (n ≤ (E : Int))) := by unfold hasB; rw [hE]
    unfold setL
    rw [hhas]
    rw [hE] at HP hl ⊢
    have HE := Lib.hid hE
    clear hE hp hhas
    by_cases hbn : 1 ≤ n ∧ n ≤ (E : Int)
    · rw [if_pos ⟨hfk, by simp [hbn.1, hbn.2]⟩]
      obtain ⟨N, rfl⟩ : ∃ N : Nat, n = N := ⟨n.toNat, by omega⟩
      obtain ⟨J, hJ⟩ : ∃ J : Nat, (k - f) % (E : Int) = J := ⟨((k - f) % (E : Int)).toNat, by have := Int.emod_nonneg (k - f) (show (E : Int) ≠ 0 by omega); omega⟩
      have hJE : J < E := by have := Int.emod_lt_of_pos (k - f) (show (0 : Int) < E by omega); omega
      rw [hJ, show ((J : Int)).toNat = J from Int.toNat_natCast J, show ((N : Int)).toNat = N from Int.toNat_natCast N]
      have e1 : IntKind.u64.wrap (k - f) = k - f := by rw [wrapu]; omega
      have e2 : (k - f).tmod (E : Int) = (J : Int) := by rw [Int.tmod_eq_emod_of_nonneg (by omega)]; exact hJ
      have e3 : IntKind.u64.wrap (E : Int) = E := by rw [wrapu]; omega
      have hE0 : (E : Int) ≠ 0 := by omega
      have hE00 : 0 < E := by omega
      have hEb : ((E : Int) == 0) = false := by simp; omega
      obtain ⟨h1, h2⟩ := hbn
      have d1 : decide ((N : Int) < 1) = false := by simp; omega
      have d2 : decide (E < N) = false := by simp; omega
      go_enter Tryz.func27, Tryz.ntmps27
      go_wp2_with fail
      refine HF.out.mono ?_
      rintro e w1 ⟨KK, rfl, rfl, hKz, HKK⟩
      obtain ⟨kb, koff, rfl, -, -, hkc⟩ := FsAt.cell HL.out HKK.out
      obtain ⟨c0, c1⟩ := hkc w1 (Below.refl _ _)
      dsimp only at c0 c1
      rw [HE.out] at c1
      clear hkc
      go_wp2
      clear c0 c1 e1 e2 e3 hJ hf hk hfk
      go_loopw [8, 10] (fun s i wr => ∃ t A : Nat, t ≤ N ∧ i = .int .i64 (A : Nat) ∧ A = (J + t) % E ∧ Hid (OwnPs w1.heap.size wr s (rot row J t) ∧ Below w1.heap.size w1 wr) ∧ IsSl s t) (fun s _ _ => N - slen s)
      case atStart => exact ⟨0, J, Nat.zero_le _, rfl, by rw [Nat.add_zero, Nat.mod_eq_of_lt hJE], ⟨World.ownsRow_nil _ _ _ _, Below.refl _ _⟩, ⟨none, 0, rfl⟩⟩
      case round =>
        obtain ⟨t, A, ht, rfl, hA, HR, sa, sc, rfl⟩ := hrel
        have hAE : A < E := by rw [hA]; exact Nat.mod_lt _ hE00
        by_cases hlt : t < N
        · have hltz : (t : Int) < (N : Int) := by omega
          obtain ⟨x, hx⟩ : ∃ x, row[A]? = some x := ⟨_, List.getElem?_eq_getElem (by rw [HE.out]; exact hAE)⟩
          obtain ⟨r3, r4⟩ := HR.out
          have hPK := HP.out.below r4
          obtain ⟨b2, off2, rfl, hb2, hc⟩ := PsAt.cell hPK hx
          obtain ⟨c0, c1⟩ := hc wr (Below.refl _ _)
          have hxo := hPK.ok x (List.mem_of_getElem? hx)
          have HSN := Lib.hid (show rot row J (t + 1) = rot row J t ++ [x] by rw [rot_snoc, HE.out, ← hA, List.getD_eq_getElem?_getD, hx]; rfl)
          have HA2 : Hid (OwnPs w1.heap.size (wr.alloc (.cells #[.int .i64 x.n, .int .u64 x.s] 40)) (.slice sa t sc) (rot row J t) ∧ PsAt (wr.alloc (.cells #[.int .i64 x.n, .int .u64 x.s] 40)) (.slice (some ⟨wr.heap.size, 0, none⟩) 1 1) [x] ∧ Below w1.heap.size w1 (wr.alloc (.cells #[.int .i64 x.n, .int .u64 x.s] 40)) ∧ w1.heap.size ≤ (wr.alloc (.cells #[.int .i64 x.n, .int .u64 x.s] 40)).heap.size) :=
            ⟨r3.kept (Go.Joins.below_alloc1 wr _) (Nat.le_refl _), ps_one wr x hxo, r4.alloc r4.size _, by rw [World.size_alloc]; have := r4.size; omega⟩
          have HLE := Lib.hid (show (rot row J t).length = t from rot_length _ _ _)
          have HOKS := Lib.hid (show ∀ q ∈ rot row J t ++ [x], q.ok from by rw [← HSN.out]; exact rot_ok (by rw [HE.out]; exact hE00) HPO.out)
          clear hx hc hPK hxo r3 r4 HR hb2
          have HLX := Lib.hid (show (rot row J t ++ [x]).length = t + 1 from by rw [List.length_append, HLE.out]; rfl)
          by_cases hAe : A + 1 = E
          · have hm : (J + (t + 1)) % E = 0 := by
              rw [← Nat.add_assoc, Nat.add_mod, ← hA]
              rcases Nat.eq_or_lt_of_le (show 1 ≤ E by omega) with h | h
              · rw [← h]; omega
              · rw [Nat.mod_eq_of_lt h, hAe, Nat.mod_self]
            have HM := Lib.hid hm
            have hAz : (((A : Int) + 1) == (E : Int)) = true := by simp; omega
            clear hm hA
            go_wp2_with (at_builtin; refine wpList_append_rows rfl _ _ 29 40 2 16 _ PL.cells rfl Tryz.underlying29 info38 rfl (by decide) (by decide) (fun _ => rfl) w1.heap.size _ _ (rot row J t) [x] rfl rfl HA2.out.1 HA2.out.2.1 (ps_oneCell _) (by rw [HLE.out]; simp only [List.length_cons, List.length_nil]; omega) HA2.out.2.2.2 ?_; intro v2 w2 ho2 hg2; have hbb := HA2.out.2.2.1.grown hg2 HA2.out.2.2.1.size (fun j hj => (HA2.out.1.own j hj)); obtain ⟨v2a, v2c, rfl⟩ := OwnPs.form ho2 HOKS.out; have hlx := HLX.out; rw [hlx] at ho2 ⊢; have H2 := Lib.hid (And.intro ho2 hbb); clear ho2 hg2 hbb hlx)
            go_roundw
            case rel => exact ⟨t + 1, 0, by omega, by go_num, HM.out.symm, by rw [HSN.out]; exact H2.out, ⟨_, _, rfl⟩⟩
            case measure => show N - (t + 1) < N - t; omega
          · have hm : (J + (t + 1)) % E = (A + 1) := by
              rw [← Nat.add_assoc, Nat.add_mod, ← hA, Nat.mod_eq_of_lt (show 1 < E by omega), Nat.mod_eq_of_lt (show A + 1 < E by omega)]
            have HM := Lib.hid hm
            have hAz : (((A : Int) + 1) == (E : Int)) = false := by simp; omega
            clear hm hA
            go_wp2_with (at_builtin; refine wpList_append_rows rfl _ _ 29 40 2 16 _ PL.cells rfl Tryz.underlying29 info38 rfl (by decide) (by decide) (fun _ => rfl) w1.heap.size _ _ (rot row J t) [x] rfl rfl HA2.out.1 HA2.out.2.1 (ps_oneCell _) (by rw [HLE.out]; simp only [List.length_cons, List.length_nil]; omega) HA2.out.2.2.2 ?_; intro v2 w2 ho2 hg2; have hbb := HA2.out.2.2.1.grown hg2 HA2.out.2.2.1.size (fun j hj => (HA2.out.1.own j hj)); obtain ⟨v2a, v2c, rfl⟩ := OwnPs.form ho2 HOKS.out; have hlx := HLX.out; rw [hlx] at ho2 ⊢; have H2 := Lib.hid (And.intro ho2 hbb); clear ho2 hg2 hbb hlx)
            go_roundw
            case rel => exact ⟨t + 1, (A + 1), by omega, by go_num, HM.out.symm, by rw [HSN.out]; exact H2.out, ⟨_, _, rfl⟩⟩
            case measure => show N - (t + 1) < N - t; omega
        · obtain rfl : t = N := by omega
          go_wp2
          go_ret
          exact ⟨_, rfl, HR.out⟩
    · rw [if_neg (by simp; intro _ h1; omega)]
      have hlow : n < 1 ∨ (E : Int) < n := by omega
      by_cases h1 : n < 1
      · go_enter Tryz.func27, Tryz.ntmps27
        go_wp2_with fail
        refine HF.out.mono ?_
        rintro e w1 ⟨KK, rfl, rfl, hKz, HKK⟩
        obtain ⟨kb, koff, rfl, -, -, hkc⟩ := FsAt.cell HL.out HKK.out
        obtain ⟨c0, c1⟩ := hkc w1 (Below.refl _ _)
        dsimp only at c0 c1
        rw [HE.out] at c1
        clear hkc
        go_wp2
        go_ret
        exact ⟨_, rfl, World.ownsRow_nil _ _ _ _, Below.refl _ _⟩
      · have h2 : (E : Int) < n := by omega
        clear hlow hbn
        go_enter Tryz.func27, Tryz.ntmps27
        go_wp2_with fail
        refine HF.out.mono ?_
        rintro e w1 ⟨KK, rfl, rfl, hKz, HKK⟩
        obtain ⟨kb, koff, rfl, -, -, hkc⟩ := FsAt.cell HL.out HKK.out
        obtain ⟨c0, c1⟩ := hkc w1 (Below.refl _ _)
        dsimp only at c0 c1
        rw [HE.out] at c1
        clear hkc
        go_wp2
        go_ret
        exact ⟨_, rfl, World.ownsRow_nil _ _ _ _, Below.refl _ _⟩
end Go.Proofs.YtpihogkhfmijcaaGreat
