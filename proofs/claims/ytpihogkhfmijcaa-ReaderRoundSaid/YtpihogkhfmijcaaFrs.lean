/- Rows of fragments: what they read as; slices.Backward over them; the fragment of an entry. -/
import Derived.Test.YtpihogkhfmijcaaBoxes
namespace Go.Proofs.Ytpihogkhfmijcaa
open Go.RowKit Go.Maps Go.Shelf
attribute [local go_sem] Oper.semAt_some
/-- a fragment -/
structure FM where
  f : Int
  ps : List PL
/-- a fragment, and where its places lie -/
structure FV where
  f : Int
  a : Option Addr
  c : Nat
  ps : List PL
instance : Inhabited FV := ⟨⟨0, none, 0, []⟩⟩
def FV.m (x : FV) : FM := ⟨x.f, x.ps⟩
def FV.cells (x : FV) : List Value := [.int .u64 x.f, .slice x.a x.ps.length x.c]
def u64ok (n : Int) : Prop := 0 ≤ n ∧ n ≤ 18446744073709551615
def FV.ok (w : World) (x : FV) : Prop := u64ok x.f ∧ PsAt w (.slice x.a x.ps.length x.c) x.ps
abbrev FsAt (w : World) (v : Value) (L : List FV) : Prop := RowAt FV.ok 2 FV.cells w v L
theorem FV.ok.below {w w' : World} {x : FV} (h : x.ok w) (hb : Below w.heap.size w w') : x.ok w' := ⟨h.1, h.2.below hb⟩
theorem FsAt.below {w w' : World} {v : Value} {L : List FV} (h : FsAt w v L) (hb : Below w.heap.size w w') : FsAt w' v L := RowAt.below h hb fun _ hx => hx.below hb
theorem RowAt.form {α : Type} {P : World → α → Prop} {k : Nat} {enc : α → List Value} {w : World} {v : Value} {l : List α} (h : RowAt P k enc w v l) : ∃ a cap, v = .slice a l.length cap ∧ l.length ≤ 9223372036854775807 ∧ l.length ≤ cap ∧ (a = none → cap = 0) := by
  obtain ⟨a, cap, hv, h1, h2, h3, _⟩ := h
  exact ⟨a, cap, hv, h1, h2, h3⟩
theorem RowAt.each {α : Type} {P : World → α → Prop} {k : Nat} {enc : α → List Value} {w : World} {v : Value} {l : List α} (h : RowAt P k enc w v l) : ∀ x ∈ l, P w x := by
  intro q hq
  obtain ⟨j, hj⟩ := List.getElem?_of_mem hq
  obtain ⟨a, cap, _, _, _, _, h⟩ := h
  obtain ⟨b, off, _, _, h⟩ := h (by cases l with | nil => cases hq | cons => simp)
  exact (h j q hj).1
/-- the cells of one of a row, in whatever later world -/
theorem RowAt.cell {α : Type} {P : World → α → Prop} {k : Nat} {enc : α → List Value} {w : World} {a : Option Addr} {n cap : Nat} {l : List α} (h : RowAt P k enc w (.slice a n cap) l) {j : Nat} {x : α} (hx : l[j]? = some x) :
    ∃ b off, a = some ⟨b, off, none⟩ ∧ b < w.heap.size ∧ P w x ∧ ∀ r, r < k → ∀ W, Below w.heap.size w W → W.cell? ⟨b, off + j * k + r, none⟩ = (enc x)[r]? := by
  obtain ⟨a', cap', hv, _, _, _, h⟩ := h
  cases hv
  obtain ⟨b, off, rfl, hb, h⟩ := h (by have := (List.getElem?_eq_some_iff.1 hx).1; omega)
  refine ⟨b, off, rfl, hb, (h j x hx).1, fun r hr W hW => ?_⟩
  rw [hW.cell (show (⟨b, off + j * k + r, none⟩ : Addr).block < _ from hb)]
  exact (h j x hx).2 r hr
theorem FsAt.cell {w : World} {a : Option Addr} {n cap : Nat} {L : List FV} (h : FsAt w (.slice a n cap) L) {j : Nat} {x : FV} (hx : L[j]? = some x) : ∃ b off, a = some ⟨b, off, none⟩ ∧ b < w.heap.size ∧ x.ok w ∧ ∀ W, Below w.heap.size w W → W.cell? ⟨b, off + j * 2, none⟩ = some (.int .u64 x.f) ∧ W.cell? ⟨b, off + j * 2 + 1, none⟩ = some (.slice x.a x.ps.length x.c) := by
  obtain ⟨b, off, h1, h2, h3, h4⟩ := RowAt.cell h hx
  exact ⟨b, off, h1, h2, h3, fun W hW => ⟨h4 0 (by omega) W hW, h4 1 (by omega) W hW⟩⟩
theorem backward_any (a : Option Addr) (n cap : Nat) (w : World) :
    Calls Try.prog 52 #[.slice a n cap] w fun e w' => e = .returned (.func (.func 64) #[] #[.pointer (some ⟨w.heap.size, 0, none⟩)]) ∧ w' = w.alloc (.cells #[.slice a n cap] 23) := by
  have hmf : ∀ (fn : Fn) (first cap : Array Value) (w : World), (Instr.makeFunc fn first cap).run Try.prog w = .ok (.func fn first cap) w := fun _ _ _ _ => rfl
  go_enter Try.func52, Try.ntmps52
  go_wp2
  go_ret
  exact ⟨rfl, rfl⟩
/-- the values of one round -/
def encsF (y : Int × FV) : Array Value := #[.int .i64 y.1, .agg #[.int .u64 y.2.f, .slice y.2.a y.2.ps.length y.2.c]]
/-- a row from its end on, with the places' numbers -/
def revs (L : List FV) : List (Int × FV) := (List.range L.length).map fun t => (((L.length - 1 - t : Nat) : Int), L.getD (L.length - 1 - t) default)
theorem revs_len (L : List FV) : (revs L).length = L.length := by simp [revs]
theorem revs_get {L : List FV} {k : Nat} {x : FV} (h : L[k]? = some x) : (revs L)[L.length - 1 - k]? = some ((k : Int), x) := by
  have hk := (List.getElem?_eq_some_iff.1 h).1
  unfold revs
  rw [List.getElem?_map, List.getElem?_range (by omega)]
  simp only [Option.map_some, Option.some.injEq]
  rw [show L.length - 1 - (L.length - 1 - k) = k by omega, List.getD_eq_getElem?_getD, h]
  rfl
theorem revs_take {L : List FV} {k : Nat} {x : FV} (h : L[k]? = some x) : (revs L).take (L.length - 1 - k) ++ [((k : Int), x)] = (revs L).take (L.length - k) := by
  have hk := (List.getElem?_eq_some_iff.1 h).1
  rw [show L.length - k = L.length - 1 - k + 1 by omega, take_snoc (revs_get h)]
set_option maxRecDepth 100000 in
set_option maxHeartbeats 2000000 in
theorem backs_in (F : Fence) (n : Nat) (h108 : F.fn 64) (hro : F.round = none) (hn : 1 ≤ n) (l B n₀ : Nat) (a : Option Addr) (cap : Nat) (L : List FV) (hb : B < n₀) (J Jx : List (Int × FV) → World → Prop)
    (W : World) (hB : W.cell? ⟨B, 0, none⟩ = some (.slice a L.length cap)) (hF : ∀ W', Below n₀ W W' → FsAt W' (.slice a L.length cap) L)
    (hY : ∀ pre y W1, J pre W1 → pre.length < L.length → YieldAt F (n - 1) Try.prog l (encsF y) W1 fun e W' =>
      (e = .returned (.bool true) ∧ J (pre ++ [y]) W' ∧ Below n₀ W1 W') ∨ (e = .returned (.bool false) ∧ Jx (pre ++ [y]) W')) (h0 : J [] W) :
    CallsIn F n Try.prog 64 #[.func (.yield l) #[] #[], .pointer (some ⟨B, 0, none⟩)] W fun e W' => (∃ v, e = .returned v) ∧
      ((∃ ys, ys = revs L ∧ J ys W') ∨ (∃ pre, (∃ t, t ≤ L.length ∧ pre = (revs L).take t) ∧ Jx pre W')) := by
  obtain ⟨N, hN⟩ : ∃ N, L.length = N := ⟨_, rfl⟩
  have hlen := (RowAt.form (hF W (Below.refl _ _))).choose_spec.choose_spec.2.1
  have hR : ∀ k x, L[k]? = some x → (revs L).take (N - 1 - k) ++ [((k : Int), x)] = (revs L).take (N - k) := fun k x h => by rw [← hN]; exact revs_take h
  have hRl : (revs L).take N = revs L := take_all (by rw [revs_len, hN])
  rw [hN] at hB hF hY hlen ⊢
  have HN := Lib.hid hN
  clear hN
  refine callsIn_of_wp Try.func64 rfl h108 ?_ hro
  simp only [Try.ntmps64, List.size_toArray, List.length_cons, List.length_nil, Nat.reduceAdd, Nat.reduceSub, Array.replicate_succ, Array.replicate_zero, List.push_toArray, List.append_toArray, List.nil_append, List.cons_append]
  gi_wp2
  gi_loopw [3] (fun i wr => ((∃ k : Nat, k < N ∧ i = .int .i64 (k : Nat) ∧ J ((revs L).take (N - 1 - k)) wr) ∨ (i = .int .i64 (-1) ∧ J (revs L) wr)) ∧ Below n₀ W wr) (fun i _ => (intOf i + 1).toNat)
  case atStart =>
    refine ⟨?_, Below.refl _ _⟩
    rcases Nat.eq_zero_or_pos N with rfl | hp
    · refine .inr ⟨by go_num, ?_⟩
      have : revs L = [] := List.eq_nil_of_length_eq_zero (by rw [revs_len]; exact HN.out)
      rw [this]
      exact h0
    · refine .inl ⟨N - 1, by omega, by go_num, ?_⟩
      rw [Nat.sub_self, List.take_zero]
      exact h0
  case round =>
    obtain ⟨hor, hnx⟩ := hrel
    have hB' := (hnx.cell (p := ⟨B, 0, none⟩) hb).trans hB
    rcases hor with ⟨k, hk, rfl, hJ⟩ | ⟨rfl, hJ⟩
    · obtain ⟨x, hx⟩ : ∃ x, L[k]? = some x := ⟨_, List.getElem?_eq_getElem (by rw [HN.out]; exact hk)⟩
      have hkz : (k : Int) < (N : Int) := by omega
      obtain ⟨b, off, rfl, -, -, hc⟩ := FsAt.cell (hF wr hnx) hx
      obtain ⟨c0, c1⟩ := hc wr (Below.refl _ _)
      obtain ⟨fn, tmps, assign, body, hy, hY2⟩ := hY _ ((k : Int), x) wr hJ (by rw [List.length_take, revs_len, HN.out]; omega)
      rw [hR k x hx] at hY2
      unfold encsF at hy
      clear hc hB hx
      gi_wp2
      refine hY2.mono ?_
      rintro e W3 (⟨rfl, hJ3, hk3⟩ | ⟨rfl, hJx3⟩)
      · rcases Nat.eq_zero_or_pos k with rfl | hk0
        · gi_wp2
          go_roundw
          case rel => exact ⟨.inr ⟨by go_num, by rw [Nat.sub_zero, hRl] at hJ3; exact hJ3⟩, hnx.trans hk3⟩
          case measure => simp [intOf]
        · obtain ⟨j, rfl⟩ : ∃ j, k = j + 1 := ⟨k - 1, by omega⟩
          gi_wp2
          go_roundw
          case rel => exact ⟨.inl ⟨j, by omega, by go_num, by rw [show N - 1 - j = N - (j + 1) by omega]; exact hJ3⟩, hnx.trans hk3⟩
          case measure => simp [intOf]; omega
      · gi_wp2
        refine bodyPost_ret (results_none rfl _ _ _) rfl ?_
        exact ⟨⟨_, rfl⟩, .inr ⟨_, ⟨N - k, by omega, rfl⟩, hJx3⟩⟩
    · gi_wp2
      go_end0
      exact ⟨⟨_, rfl⟩, .inl ⟨_, rfl, hJ⟩⟩
theorem backs_stop (F : Fence) (n : Nat) (h108 : F.fn 64) (hro : F.round = none) (hn : 1 ≤ n) (B cap : Nat) (a : Option Addr) (L : List FV) (w : World) (hb : B < w.heap.size)
    (hB : w.cell? ⟨B, 0, none⟩ = some (.slice a L.length cap)) (h : FsAt w (.slice a L.length cap) L) :
    SeqStopsK F n Try.prog 64 #[.pointer (some ⟨B, 0, none⟩)] encsF (Below w.heap.size) (fun ys => ys = revs L) (fun pre => ∃ t, t ≤ L.length ∧ pre = (revs L).take t) L.length w := fun l J Jx W hW _ _ hY h0 =>
  backs_in F n h108 hro hn l B w.heap.size a cap L hb J Jx W ((hW.cell (p := ⟨B, 0, none⟩) hb).trans hB) (fun _ hW' => h.below (hW.trans (hW'))) hY h0
end Go.Proofs.Ytpihogkhfmijcaa
