/- Find: a range over a function. -/
import Derived.Test.YtbmebmkpjbgdoaaCopyN
import Derived.RangeFuncNested
import Derived.RangeFuncBound
import Derived.RangeFuncCalls
import Derived.RangeFuncLeaves
import Derived.RangeFuncBox
import Derived.Shelf.Abstract
import Derived.Shelf.RegionOpen
import Derived.WalkKit
import Derived.OwnWalkIn
import Derived.TacticsInMore
import Derived.LoopNIn
import Derived.LoopIn
namespace Go.Proofs.Ytbmebmkpjbgdoaa
open Go.RowKit Go.Shelf
attribute [local go_sem] Oper.semAt_some
/-- a message as the bag hands it out, with its number -/
structure It where
  j : Nat
  fr : Int
  to : Int
  a : Option Addr
  n : Nat
  c : Nat
def It.agg (x : It) : Value := .agg #[.int .i64 x.fr, .int .i64 x.to, .slice x.a x.n x.c]
def itOf (vs : List MV) (j : Nat) : It :=
  match vs[j]? with
  | some (m, .slice a n c) => ⟨j, m.fr, m.to, a, n, c⟩
  | _ => ⟨j, 0, 0, none, 0, 0⟩
/-- what has come ahead of number k -/
def came (vs : List MV) (k0 k : Nat) : List It := (List.range (k - k0)).map fun j => itOf vs (k0 + j)
theorem came_length (vs : List MV) (k0 k : Nat) : (came vs k0 k).length = k - k0 := by simp [came]
theorem came_succ (vs : List MV) (k0 k : Nat) (h : k0 ≤ k) : came vs k0 (k + 1) = came vs k0 k ++ [itOf vs k] := by
  unfold came
  rw [show k + 1 - k0 = (k - k0) + 1 by omega, List.range_succ, List.map_append]
  simp
  congr 1
  omega
theorem came_self (vs : List MV) (k0 : Nat) : came vs k0 k0 = [] := by simp [came]
def encsIt (x : It) : Array Value := #[.int .i64 (x.j : Int), .agg #[.int .i64 x.fr, .int .i64 x.to, .slice x.a x.n x.c]]
set_option maxHeartbeats 1000000 in
theorem onward_any (p : Nat) (fr : Int) (w : World) :
    Calls Try.prog 43 #[.pointer (some ⟨p, 0, none⟩), .int .i64 fr] w fun e w' => e = .returned (.func (.func 54) #[] #[.pointer (some ⟨w.heap.size + 1, 0, none⟩), .pointer (some ⟨w.heap.size, 0, none⟩)]) ∧ w' = (w.alloc (.cells #[.pointer (some ⟨p, 0, none⟩)] 78)).alloc (.cells #[.int .i64 fr] 3) := by
  have hmf : ∀ (fn : Fn) (first cap : Array Value) (w : World), (Instr.makeFunc fn first cap).run Try.prog w = .ok (.func fn first cap) w := fun _ _ _ _ => rfl
  go_enter Try.func43, Try.ntmps43
  go_wp2
  go_ret
  exact ⟨rfl, rfl⟩
/-- the bag's messages in their row -/
def ItsAt (W : World) (n₀ : Nat) (sa : Option Addr) (vs : List MV) : Prop := 0 < vs.length → ∃ g, sa = some ⟨g, 0, none⟩ ∧ g < n₀ ∧ ∀ k, k < vs.length → (W.cell? ⟨g, k * 3, none⟩ = some (.int .i64 (itOf vs k).fr) ∧ W.cell? ⟨g, k * 3 + 1, none⟩ = some (.int .i64 (itOf vs k).to) ∧ W.cell? ⟨g, k * 3 + 2, none⟩ = some (.slice (itOf vs k).a (itOf vs k).n (itOf vs k).c)) ∧ (itOf vs k).j = k
set_option maxRecDepth 100000 in
set_option maxHeartbeats 2000000 in
theorem onward1_in (F : Fence) (n : Nat) (h54 : F.fn 54) (hro : F.round = none) (hn : 1 ≤ n) (l B5 B4 n₀ p cap : Nat) (sa : Option Addr) (vs : List MV) (fr : Int) (k0 : Nat) (hk0 : max fr 0 = (k0 : Nat)) (hlen : vs.length ≤ 100000) (hb : p < n₀ ∧ B4 < n₀ ∧ B5 < n₀) (J Jx : List It → World → Prop)
    (hY : ∀ pre x W, J pre W → pre.length < vs.length → YieldAt F (n - 1) Try.prog l (encsIt x) W fun e W' =>
      (e = .returned (.bool true) ∧ J (pre ++ [x]) W' ∧ Below n₀ W W') ∨ (e = .returned (.bool false) ∧ Jx (pre ++ [x]) W'))
    (W : World) (h5 : W.cell? ⟨B5, 0, none⟩ = some (.int .i64 fr)) (h4 : W.cell? ⟨B4, 0, none⟩ = some (.pointer (some ⟨p, 0, none⟩))) (hp : W.cell? ⟨p, 0, none⟩ = some (.slice sa vs.length cap)) (hs : ItsAt W n₀ sa vs) (h0 : J [] W) :
    CallsIn F n Try.prog 54 #[.func (.yield l) #[] #[], .pointer (some ⟨B5, 0, none⟩), .pointer (some ⟨B4, 0, none⟩)] W fun e W' => (∃ v, e = .returned v) ∧
      ((∃ ys, ys = came vs k0 (max vs.length k0) ∧ J ys W') ∨ (∃ pre, (∃ k, k0 ≤ k ∧ k < vs.length ∧ pre = came vs k0 (k + 1)) ∧ Jx pre W')) := by
  obtain ⟨hb1, hb2, hb3⟩ := hb
  obtain ⟨L, hL⟩ : ∃ L, vs.length = L := ⟨_, rfl⟩
  have hs' := hs
  unfold ItsAt at hs
  rw [hL] at hs hlen hY hp ⊢
  refine callsIn_of_wp Try.func54 rfl h54 ?_ hro
  simp only [Try.ntmps54, List.size_toArray, List.length_cons, List.length_nil, Nat.reduceAdd, Nat.reduceSub, Array.replicate_succ, Array.replicate_zero, List.push_toArray, List.append_toArray, List.nil_append, List.cons_append]
  gi_wp2
  all_goals gi_loopw [4] (fun i wr => ∃ k : Nat, k0 ≤ k ∧ k ≤ max L k0 ∧ i = .int .i64 k ∧ J (came vs k0 k) wr ∧ Below n₀ W wr) (fun i _ => L - (intOf i).toNat)
  case atStart => exact ⟨k0, Nat.le_refl _, by omega, by rw [show ((k0 : Nat) : Int) = 0 by omega], by rw [came_self]; exact h0, Below.refl _ _⟩
  case round =>
    obtain ⟨k, hk1, hk2, rfl, hJs, hnx⟩ := hrel
    have hp' := (hnx.cell (p := ⟨p, 0, none⟩) hb1).trans hp
    have h4' := (hnx.cell (p := ⟨B4, 0, none⟩) hb2).trans h4
    by_cases hlt : k < L
    · obtain ⟨g, rfl, hg, hcs⟩ := hs (by omega)
      obtain ⟨⟨e0, e1, e2⟩, ej⟩ := hcs k hlt
      have e0' := (hnx.cell (p := ⟨g, k * 3, none⟩) hg).trans e0
      have e1' := (hnx.cell (p := ⟨g, k * 3 + 1, none⟩) hg).trans e1
      have e2' := (hnx.cell (p := ⟨g, k * 3 + 2, none⟩) hg).trans e2
      obtain ⟨fn, tmps, assign, body, hy, hR⟩ := hY _ (itOf vs k) wr hJs (by rw [came_length]; omega)
      unfold encsIt at hy
      rw [ej] at hy
      clear hs hcs e0 e1 e2 hp h4 h5
      gi_wp2
      refine hR.mono ?_
      rintro e W3 (⟨rfl, hJ3, hk3⟩ | ⟨rfl, hJx3⟩)
      · gi_wp2
        go_roundw
        case rel => exact ⟨k + 1, by omega, by omega, by simp, by rw [came_succ _ _ _ hk1]; exact hJ3, hnx.trans hk3⟩
        case measure => simp [intOf]; omega
      · gi_wp2
        refine bodyPost_ret (results_none rfl _ _ _) rfl ?_
        exact ⟨⟨_, rfl⟩, .inr ⟨_, ⟨k, hk1, hlt, (came_succ _ _ _ hk1).symm⟩, hJx3⟩⟩
    · clear hs hp h4 h5
      gi_wp2
      go_end0
      exact ⟨⟨_, rfl⟩, .inl ⟨came vs k0 k, by rw [show max L k0 = k by clear hk0; omega], hJs⟩⟩
  case atStart => exact ⟨k0, Nat.le_refl _, by omega, by rw [← hk0, Int.max_eq_left (by assumption)], by rw [came_self]; exact h0, Below.refl _ _⟩
  case round =>
    obtain ⟨k, hk1, hk2, rfl, hJs, hnx⟩ := hrel
    have hp' := (hnx.cell (p := ⟨p, 0, none⟩) hb1).trans hp
    have h4' := (hnx.cell (p := ⟨B4, 0, none⟩) hb2).trans h4
    by_cases hlt : k < L
    · obtain ⟨g, rfl, hg, hcs⟩ := hs (by omega)
      obtain ⟨⟨e0, e1, e2⟩, ej⟩ := hcs k hlt
      have e0' := (hnx.cell (p := ⟨g, k * 3, none⟩) hg).trans e0
      have e1' := (hnx.cell (p := ⟨g, k * 3 + 1, none⟩) hg).trans e1
      have e2' := (hnx.cell (p := ⟨g, k * 3 + 2, none⟩) hg).trans e2
      obtain ⟨fn, tmps, assign, body, hy, hR⟩ := hY _ (itOf vs k) wr hJs (by rw [came_length]; omega)
      unfold encsIt at hy
      rw [ej] at hy
      clear hs hcs e0 e1 e2 hp h4 h5
      gi_wp2
      refine hR.mono ?_
      rintro e W3 (⟨rfl, hJ3, hk3⟩ | ⟨rfl, hJx3⟩)
      · gi_wp2
        go_roundw
        case rel => exact ⟨k + 1, by omega, by omega, by simp, by rw [came_succ _ _ _ hk1]; exact hJ3, hnx.trans hk3⟩
        case measure => simp [intOf]; omega
      · gi_wp2
        refine bodyPost_ret (results_none rfl _ _ _) rfl ?_
        exact ⟨⟨_, rfl⟩, .inr ⟨_, ⟨k, hk1, hlt, (came_succ _ _ _ hk1).symm⟩, hJx3⟩⟩
    · clear hs hp h4 h5
      gi_wp2
      go_end0
      exact ⟨⟨_, rfl⟩, .inl ⟨came vs k0 k, by rw [show max L k0 = k by clear hk0; omega], hJs⟩⟩
theorem ItsAt.below {W W' : World} {n₀ : Nat} {sa : Option Addr} {vs : List MV} (h : ItsAt W n₀ sa vs) (hb : Below n₀ W W') : ItsAt W' n₀ sa vs := fun hp => by
  obtain ⟨g, e, hg, hc⟩ := h hp
  exact ⟨g, e, hg, fun k hk => ⟨⟨(hb.cell (p := ⟨g, k * 3, none⟩) hg).trans (hc k hk).1.1, (hb.cell (p := ⟨g, k * 3 + 1, none⟩) hg).trans (hc k hk).1.2.1, (hb.cell (p := ⟨g, k * 3 + 2, none⟩) hg).trans (hc k hk).1.2.2⟩, (hc k hk).2⟩⟩
theorem onward_stops (F : Fence) (n : Nat) (h54 : F.fn 54) (hro : F.round = none) (hn : 1 ≤ n) (B5 B4 p cap : Nat) (sa : Option Addr) (vs : List MV) (fr : Int) (k0 : Nat) (hk0 : max fr 0 = (k0 : Nat)) (hlen : vs.length ≤ 100000) (w : World) (hb : p < w.heap.size ∧ B4 < w.heap.size ∧ B5 < w.heap.size)
    (h5 : w.cell? ⟨B5, 0, none⟩ = some (.int .i64 fr)) (h4 : w.cell? ⟨B4, 0, none⟩ = some (.pointer (some ⟨p, 0, none⟩))) (hp : w.cell? ⟨p, 0, none⟩ = some (.slice sa vs.length cap)) (hs : ItsAt w w.heap.size sa vs) :
    SeqStopsK F n Try.prog 54 #[.pointer (some ⟨B5, 0, none⟩), .pointer (some ⟨B4, 0, none⟩)] encsIt (Below w.heap.size) (fun ys => ys = came vs k0 (max vs.length k0)) (fun pre => ∃ k, k0 ≤ k ∧ k < vs.length ∧ pre = came vs k0 (k + 1)) vs.length w := fun l J Jx W hW _ _ hY h0 =>
  onward1_in F n h54 hro hn l B5 B4 w.heap.size p cap sa vs fr k0 hk0 hlen hb J Jx hY W ((hW.cell (p := ⟨B5, 0, none⟩) hb.2.2).trans h5) ((hW.cell (p := ⟨B4, 0, none⟩) hb.2.1).trans h4) ((hW.cell (p := ⟨p, 0, none⟩) hb.1).trans hp) (hs.below hW) h0
theorem NetP.its {w : World} {O I : Nat → Prop} {p : Nat} {d : Nt} {sa : Option Addr} {cap : Nat} {vs : List MV} (h : NetP w O I p d (.slice sa vs.length cap) vs) : ItsAt w w.heap.size sa vs := fun hp => by
  rcases h.row.2 with ⟨h1, h0⟩ | ⟨g, cap', cur, hv, hbg, hg, hnc, hcm, hcs, htake⟩
  · omega
  · injection hv with e1 e2 e3
    subst e1
    refine ⟨g, rfl, lt_of_block hg, fun k hk => ?_⟩
    have hv := List.getElem?_eq_getElem hk
    obtain ⟨⟨m, u⟩, hmu⟩ : ∃ x, x = vs[k] := ⟨_, rfl⟩
    rw [← hmu] at hv
    obtain ⟨a, c, hu, _⟩ := (h.byt _ (List.mem_of_getElem? hv)).form
    dsimp only at hu
    subst hu
    have hit : itOf vs k = ⟨k, m.fr, m.to, a, m.b.length, c⟩ := by unfold itOf; rw [hv]
    rw [hit]
    exact ⟨⟨h.row.cell hv 0 (by omega), h.row.cell hv 1 (by omega), h.row.cell hv 2 (by omega)⟩, rfl⟩
def It.goes (d : Nt) (to : Int) (x : It) : Bool := x.to == to && d.isOpen x.fr x.to
theorem itOf_goes {w : World} {O I : Nat → Prop} {p : Nat} {d : Nt} {sv : Value} {vs : List MV} (h : NetP w O I p d sv vs) (to : Int) {k : Nat} {m : Msg} (hk : d.bag[k]? = some m) : (itOf vs k).goes d to = d.goes to m ∧ (itOf vs k).j = k := by
  obtain ⟨u, hv, hu⟩ := h.at hk
  obtain ⟨a, c, rfl, _⟩ := hu.form
  have hit : itOf vs k = ⟨k, m.fr, m.to, a, m.b.length, c⟩ := by unfold itOf; rw [hv]
  rw [hit]
  exact ⟨rfl, rfl⟩
theorem findFrom_none (d : Nt) (to : Int) : ∀ (l : List Msg) (k : Nat), (∀ m ∈ l, d.goes to m = false) → d.findFrom to l k = none
  | [], _, _ => rfl
  | m :: r, k, h => by
    rw [Nt.findFrom, if_neg (by rw [h m List.mem_cons_self]; simp)]
    exact findFrom_none d to r (k + 1) fun x hx => h x (List.mem_cons_of_mem _ hx)
theorem findFrom_some (d : Nt) (to : Int) : ∀ (l : List Msg) (k j : Nat) (m : Msg), l[j]? = some m → (∀ i x, i < j → l[i]? = some x → d.goes to x = false) → d.goes to m = true → d.findFrom to l k = some (k + j)
  | [], _, _, _, h, _, _ => by simp at h
  | x :: r, k, 0, m, h, _, hg => by
    simp at h
    subst h
    rw [Nt.findFrom, if_pos hg]; rfl
  | x :: r, k, j + 1, m, h, hn, hg => by
    rw [Nt.findFrom, if_neg (by rw [hn 0 x (by omega) rfl]; simp), findFrom_some d to r (k + 1) j m (by simpa using h) (fun i y hi hy => hn (i + 1) y (by omega) (by simpa using hy)) hg]
    congr 1
    omega
end Go.Proofs.Ytbmebmkpjbgdoaa
