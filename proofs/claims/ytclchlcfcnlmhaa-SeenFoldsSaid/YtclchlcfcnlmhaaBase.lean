/- What a call changes; what rows read as; append of rows; marks. -/
import Derived.Test.YtclchlcfcnlmhaaProg
import Derived.WalkKit
import Derived.WalkSpells
import Derived.WalkLawsBesides
import Derived.RegionTactic
import Derived.RegionCalls
import Derived.Deep.RegionWith
import Derived.BigQuiet
import Derived.Outline
import Derived.Lib.Hide
import Derived.Lib.SmallJoins
import Derived.OneCell
import Derived.Deep.DeepAppendWide
import Derived.Laws.AppendOwnNone
import Derived.Laws.Rows
import Derived.ArgAppend
import Derived.StillTailTactics
import Derived.Deep.RegionHeld3
import Derived.Laws.StructEq
import Derived.Laws.IdiomCopy
import Derived.Deep.MidRow
import Derived.Laws.MakeOwn
import Derived.Laws.OwnMore
import Derived.Laws.ResultCell
namespace Go.Proofs.Ytclchlcfcnlmhaa
open Go.RowKit
theorem maxLen_eq : maxLen = 9223372036854775807 := rfl
/-- w' is w with more blocks, and with other cells in the blocks S alone -/
structure Chg (S : Nat → Prop) (w w' : World) : Prop where
  os : w'.os = w.os
  tape : w'.tape = w.tape
  output : w'.output = w.output
  size : w.heap.size ≤ w'.heap.size
  block : ∀ k, k < w.heap.size → ¬ S k → w'.heap[k]? = w.heap[k]?
theorem Chg.refl (S : Nat → Prop) (w : World) : Chg S w w := ⟨rfl, rfl, rfl, Nat.le_refl _, fun _ _ _ => rfl⟩
/-- one change behind another -/
theorem Chg.then {S S' : Nat → Prop} {a b c : World} (h : Chg S a b) (k : Chg S' b c) (hs : ∀ i, S' i → S i ∨ a.heap.size ≤ i) : Chg S a c :=
  ⟨k.os.trans h.os, k.tape.trans h.tape, k.output.trans h.output, Nat.le_trans h.size k.size, fun i hi hn => (k.block i (Nat.lt_of_lt_of_le hi h.size) fun hm => by rcases hs i hm with h' | h'; exact hn h'; omega).trans (h.block i hi hn)⟩
theorem Chg.trans {S : Nat → Prop} {a b c : World} (h : Chg S a b) (k : Chg S b c) : Chg S a c := h.then k fun _ h => .inl h
theorem Chg.mono {S S' : Nat → Prop} {a b : World} (h : Chg S a b) (hs : ∀ k, S k → S' k ∨ a.heap.size ≤ k) : Chg S' a b := (Chg.refl S' a).then h hs
theorem Chg.of_below {B : Nat} {S : Nat → Prop} {a b : World} (h : Below B a b) (hB : a.heap.size ≤ B) : Chg S a b := ⟨h.os, h.tape, h.output, h.size, fun k hk _ => h.block k (by omega)⟩
theorem Chg.below {S : Nat → Prop} {a b : World} (h : Chg S a b) {B : Nat} (hB : B ≤ a.heap.size) (hs : ∀ k, S k → B ≤ k) : Below B a b :=
  ⟨h.os, h.tape, h.output, h.size, fun k hk => h.block k (by omega) fun hm => by have := hs k hm; omega⟩
theorem Chg.alloc {S : Nat → Prop} {a w : World} (h : Chg S a w) (o : Obj) : Chg S a (w.alloc o) :=
  h.then (S' := fun _ => False) (Chg.of_below ((Below.refl _ w).alloc (Nat.le_refl _) o) (Nat.le_refl _)) (fun _ h => h.elim)
theorem Chg.drew {S : Nat → Prop} {a w : World} (h : Chg S a w) : Chg S a w.drew := ⟨h.os, h.tape, h.output, h.size, h.block⟩
theorem Chg.drewN {S : Nat → Prop} {a w : World} (h : Chg S a w) (n : Nat) : Chg S a (w.drewN n) := ⟨h.os, h.tape, h.output, h.size, h.block⟩
theorem Chg.setCell {S : Nat → Prop} {a w : World} (h : Chg S a w) {p : Addr} (hp : S p.block ∨ a.heap.size ≤ p.block) (v : Value) : Chg S a (w.setCell p v) :=
  h.then (S' := fun k => k = p.block) ⟨rfl, rfl, rfl, by simp [World.setCell], fun k _ hn => Below.heap_setCell _ _ _ _ hn⟩ (fun i hi => by rw [hi]; exact hp)
theorem Chg.grown {S : Nat → Prop} {a w w' : World} {row : Option Nat} (h : Chg S a w) (hg : w.grownBy w' row) (hr : ∀ k, row = some k → S k ∨ a.heap.size ≤ k) : Chg S a w' :=
  h.then (S' := fun k => row = some k) ⟨hg.os, hg.tape, hg.output, hg.size, fun k hk hn => hg.block k hk (fun e => hn e.symm)⟩ (fun i hi => hr i hi)
theorem Chg.heap {S : Nat → Prop} {w w' : World} (h : Chg S w w') {k : Nat} {o : Obj} (ho : w.heap[k]? = some o) (hn : ¬ S k) : w'.heap[k]? = some o := by
  rw [h.block k (lt_of_block ho) hn]; exact ho

/-- the slice v reads as l, each of k cells -/
def RowAt {α : Type} (P : World → α → Prop) (k : Nat) (enc : α → List Value) (w : World) (v : Value) (l : List α) : Prop :=
  ∃ a cap, v = .slice a l.length cap ∧ l.length ≤ 9223372036854775807 ∧ l.length ≤ cap ∧ (a = none → cap = 0) ∧ (0 < l.length → ∃ b off, a = some ⟨b, off, none⟩ ∧ b < w.heap.size ∧ ∀ (j : Nat) x, l[j]? = some x → P w x ∧ ∀ r, r < k → w.cell? ⟨b, off + j * k + r, none⟩ = (enc x)[r]?)
theorem RowAt.below {α : Type} {P : World → α → Prop} {k : Nat} {enc : α → List Value} {w w' : World} {v : Value} {l : List α} (h : RowAt P k enc w v l) (hb : Below w.heap.size w w') (hP : ∀ x, P w x → P w' x) : RowAt P k enc w' v l := by
  obtain ⟨a, cap, hv, hl, hlc, hn, h⟩ := h
  refine ⟨a, cap, hv, hl, hlc, hn, fun h0 => ?_⟩
  obtain ⟨b, off, ha, hbl, hc⟩ := h h0
  refine ⟨b, off, ha, by have := hb.size; omega, fun j q hj => ?_⟩
  obtain ⟨hok, hr⟩ := hc j q hj
  exact ⟨hP _ hok, fun r hr' => by rw [hb.cell (show (⟨b, off + j * k + r, none⟩ : Addr).block < _ from hbl)]; exact hr r hr'⟩
section
variable {α : Type} {P : World → α → Prop} {k : Nat} {enc : α → List Value} {T : TypeId}
theorem flat_len (hk : ∀ x, (enc x).length = k) (l : List α) : (l.flatMap enc).length = l.length * k := by
  induction l with
  | nil => simp
  | cons p ps ih => rw [List.flatMap_cons, List.length_append, ih, hk, List.length_cons, Nat.succ_mul, Nat.add_comm]
theorem flat_at (hk : ∀ x, (enc x).length = k) : ∀ (l : List α) (i r : Nat), r < k → (l.flatMap enc)[i * k + r]? = (l[i]?).bind fun x => (enc x)[r]?
  | [], i, r, _ => by simp
  | x :: l, 0, r, h => by
    rw [List.flatMap_cons, Nat.zero_mul, Nat.zero_add, List.getElem?_append_left (by rw [hk]; exact h)]
    rfl
  | x :: l, i + 1, r, h => by
    rw [List.flatMap_cons, List.getElem?_append_right (by rw [hk, Nat.succ_mul]; omega), hk, show (i + 1) * k + r - k = i * k + r by rw [Nat.succ_mul]; omega, flat_at hk l i r h]
    rfl
/-- rows of the call's own -/
def OwnRow (T : TypeId) (k : Nat) (enc : α → List Value) (base : Nat) (w : World) (v : Value) (l : List α) : Prop := w.ownsRow base T k v l.length (l.flatMap enc)
theorem OwnRow.at {base : Nat} {w : World} {v : Value} {l : List α} (hk : ∀ x, (enc x).length = k) (h : OwnRow T k enc base w v l) (hP : ∀ x ∈ l, P w x) : RowAt P k enc w v l := by
  rcases h.2 with ⟨rfl, h0⟩ | ⟨g, cap, cur, rfl, hbg, hg, hnc, hcm, hcs, htake⟩
  · obtain rfl : l = [] := List.eq_nil_of_length_eq_zero h0
    exact ⟨none, 0, rfl, by simp, by simp, fun _ => rfl, fun h => absurd h (by simp)⟩
  · rw [maxLen_eq] at hcm
    refine ⟨_, cap, rfl, by omega, hnc, (fun h => by cases h), fun _ => ⟨g, 0, rfl, (Array.getElem?_eq_some_iff.1 hg).1, fun j x hj => ⟨hP x (List.mem_of_getElem? hj), fun r hr => ?_⟩⟩⟩
    have hjl := (List.getElem?_eq_some_iff.1 hj).1
    have hlt : j * k + r < l.length * k := by
      have := Nat.mul_le_mul_right k (show j + 1 ≤ l.length by omega)
      rw [Nat.succ_mul] at this
      omega
    have := World.ownsRow.cellAt h (j * k + r) hlt
    rw [Nat.zero_add, this, flat_at hk _ _ _ hr, hj]
    rfl
theorem OwnRow.lt {base : Nat} {w : World} {v : Value} {l : List α} (h : OwnRow T k enc base w v l) : ∀ b, v.ownBlock = some b → base ≤ b ∧ b < w.heap.size := World.ownsRow.lt h
theorem OwnRow.made (w : World) : OwnRow T k enc w.heap.size (w.alloc (.cells #[] T)) (.slice (some ⟨w.heap.size, 0, none⟩) 0 0) [] := World.ownsRow_made w #[] 0 (Nat.le_refl _) (Nat.zero_le _) (by simp)
theorem wpList_append_rows {w : World} {ops : Array Oper} {rest : List Oper} {o : Oper} {a : Act} {Q : Exit → Act → World → Prop} (hgd : o.guard = none) (s x : Operand) (S T : TypeId) (k bytes : Nat) (z : Value) (enc : α → List Value)
    (ho : o.op = .call { callee := .builtin .append, args := #[s, x], argTypes := #[S, S] }) (hU : Try.prog.underlying S = some (.slice T)) (hI : (Try.prog.info? T).map (fun i => (i.zero, i.size, i.bytes)) = some (some z, k, bytes)) (hzc : z.cells.size = k) (hk0 : 0 < k) (hby : bytes ≤ 1000)
    (hk : ∀ x, (enc x).length = k) (base : Nat) (v u : Value) (n l : List α) (hs : a.eval s = v) (hx : a.eval x = u)
    (hown : OwnRow T k enc base w v n) (hb : RowAt P k enc w u l) (hone : ∀ u ∈ l.flatMap enc, u.oneCell' = true) (hsmall : n.length + l.length ≤ 1000000) (hbase : base ≤ w.heap.size)
    (h : ∀ v' w', OwnRow T k enc base w' v' (n ++ l) → w.grownBy w' v.ownBlock → wpList Try.prog ops Q rest (a.put o.dst v') w') : wpList Try.prog ops Q (o :: rest) a w := by
  obtain ⟨i0, hi, hz0, hz1, hz2⟩ := info_parts hI
  obtain ⟨ad, cap, rfl, _, hlc, hn, hc⟩ := hb
  cases ad with
  | none =>
    have := hn rfl
    obtain rfl : l = [] := List.eq_nil_of_length_eq_zero (by omega)
    subst this
    exact wpList_append_own_none hgd s x S ho base T i0 k hU hi v n.length (n.flatMap enc) hs hown hx (h v w (by rw [List.append_nil]; exact hown) (World.grownBy.refl _ _))
  | some ad =>
    refine wpList_plain hgd fun K hK => ?_
    have hnews : ∀ (j : Nat) u, (l.flatMap enc)[j]? = some u → w.cell? (ad.add j) = some u := by
      intro j u hj
      have hjl := (List.getElem?_eq_some_iff.1 hj).1
      rw [flat_len hk] at hjl
      have hl0 : 0 < l.length := by
        rcases Nat.eq_zero_or_pos l.length with h0 | h0
        · rw [h0] at hjl; omega
        · exact h0
      obtain ⟨b, off, hab, _, hc2⟩ := hc hl0
      cases hab
      have hd : j / k * k + j % k = j := by rw [Nat.mul_comm]; exact Nat.div_add_mod j k
      rw [← hd, flat_at hk _ _ _ (Nat.mod_lt _ hk0)] at hj
      obtain ⟨x, hx, hxr⟩ := Option.bind_eq_some_iff.1 hj
      rw [Addr.add_lit, ← hd, ← Nat.add_assoc, (hc2 (j / k) x hx).2 _ (Nat.mod_lt _ hk0)]
      exact hxr
    have hb1 : (n.length + l.length) * bytes ≤ 1000000 * 1000 := Nat.mul_le_mul hsmall hby
    have hb2 : (n.length + l.length + (n.length + l.length) / 4 + 192) * bytes ≤ 2000000 * 1000 := Nat.mul_le_mul (by omega) hby
    obtain ⟨v', w', hr, h2, h3, _⟩ := run_append_own_wide (P := Try.prog) w base S o.type T i0 z k bytes hU hi hz0 hz1 hz2 hzc hk0 v n.length (n.flatMap enc) hown ad l.length cap (l.flatMap enc) (flat_len hk l) hnews hone (by unfold maxLen; omega) (by omega) hbase
    have h2' : OwnRow T k enc base w' v' (n ++ l) := by
      unfold OwnRow
      rw [List.length_append, List.flatMap_append]
      exact h2
    unfold Oper.wp execOp
    simp only [ho, resolve, invoke, builtin, Sem.run_bind, Sem.run_pure, Result.andThen_ok, List.map_toArray, List.map_cons, List.map_nil, hs, hx, hr]
    exact hK _ _ (h v' w' h2' h3)
end
theorem OwnRow.chg {α : Type} {k : Nat} {enc : α → List Value} {T : TypeId} {base : Nat} {w w' : World} {v : Value} {l : List α} {S : Nat → Prop} (h : OwnRow T k enc base w v l) (hc : Chg S w w') (hS : ∀ k, v.ownBlock = some k → ¬ S k) : OwnRow T k enc base w' v l := by
  refine ⟨h.1, ?_⟩
  rcases h.2 with h2 | ⟨g, cap, cur, rfl, hbg, hg, r⟩
  · exact .inl h2
  · exact .inr ⟨g, cap, cur, rfl, hbg, hc.heap hg (hS g rfl), r⟩
/-- a mark -/
structure MK where
  p : Int
  s : Int
  o : Int
theorem MK.ext' {a b : MK} (h1 : a.p = b.p) (h2 : a.s = b.s) (h3 : a.o = b.o) : a = b := by
  cases a; cases b; simp at h1 h2 h3; subst h1 h2 h3; rfl
instance : DecidableEq MK := fun a b =>
  if h : a.p = b.p ∧ a.s = b.s ∧ a.o = b.o then .isTrue (MK.ext' h.1 h.2.1 h.2.2) else .isFalse fun e => h (by subst e; exact ⟨rfl, rfl, rfl⟩)
instance : Inhabited MK := ⟨⟨0, 0, 0⟩⟩
def MK.ok (m : MK) : Prop := (-9223372036854775808 ≤ m.p ∧ m.p ≤ 9223372036854775807) ∧ (0 ≤ m.s ∧ m.s ≤ 18446744073709551615) ∧ (0 ≤ m.o ∧ m.o ≤ 18446744073709551615)
/-- a mark may be -/
def MK.may (m : MK) : Prop := (1 ≤ m.p ∧ m.p ≤ 15) ∧ (1 ≤ m.s ∧ m.s ≤ 4611686018427387903) ∧ (0 ≤ m.o ∧ m.o ≤ 4611686018427387903)
theorem MK.may.ok {m : MK} (h : m.may) : m.ok := by obtain ⟨⟨a, b⟩, ⟨c, d⟩, e, f⟩ := h; exact ⟨⟨by omega, by omega⟩, ⟨by omega, by omega⟩, by omega, by omega⟩
def MK.cells (m : MK) : List Value := [.int .i64 m.p, .int .u64 m.s, .int .u64 m.o]
abbrev MK.val (m : MK) : Value := .agg #[.int .i64 m.p, .int .u64 m.s, .int .u64 m.o]
abbrev MsAt (w : World) (v : Value) (l : List MK) : Prop := RowAt (fun _ m => m.ok) 3 MK.cells w v l
abbrev OwnMs (base : Nat) (w : World) (v : Value) (l : List MK) : Prop := OwnRow 26 3 MK.cells base w v l
theorem MsAt.below {w w' : World} {v : Value} {l : List MK} (h : MsAt w v l) (hb : Below w.heap.size w w') : MsAt w' v l := RowAt.below h hb fun _ h => h
theorem MsAt.ok {w : World} {v : Value} {l : List MK} (h : MsAt w v l) : ∀ x ∈ l, x.ok := by
  intro q hq
  obtain ⟨j, hj⟩ := List.getElem?_of_mem hq
  obtain ⟨a, cap, _, _, _, _, h⟩ := h
  obtain ⟨b, off, _, _, h⟩ := h (by cases l with | nil => cases hq | cons => simp)
  exact (h j q hj).1
theorem MsAt.nil (w : World) : MsAt w (.slice none 0 0) [] := ⟨none, 0, rfl, by simp, by simp, fun _ => rfl, fun h => absurd h (by simp)⟩
/-- the cells of one of a row -/
theorem MsAt.cell {w : World} {a : Option Addr} {n cap : Nat} {l : List MK} (h : MsAt w (.slice a n cap) l) {j : Nat} {x : MK} (hx : l[j]? = some x) : ∃ b off, a = some ⟨b, off, none⟩ ∧ b < w.heap.size ∧ ∀ W, Below w.heap.size w W → W.cell? ⟨b, off + j * 3, none⟩ = some (.int .i64 x.p) ∧ W.cell? ⟨b, off + j * 3 + 1, none⟩ = some (.int .u64 x.s) ∧ W.cell? ⟨b, off + j * 3 + 2, none⟩ = some (.int .u64 x.o) := by
  obtain ⟨a', cap', hv, _, _, _, h⟩ := h
  cases hv
  obtain ⟨b, off, rfl, hb, h⟩ := h (by have := (List.getElem?_eq_some_iff.1 hx).1; omega)
  refine ⟨b, off, rfl, hb, fun W hW => ⟨?_, ?_, ?_⟩⟩
  · rw [hW.cell (show (⟨b, off + j * 3, none⟩ : Addr).block < _ from hb)]; exact (h j x hx).2 0 (by omega)
  · rw [hW.cell (show (⟨b, off + j * 3 + 1, none⟩ : Addr).block < _ from hb)]; exact (h j x hx).2 1 (by omega)
  · rw [hW.cell (show (⟨b, off + j * 3 + 2, none⟩ : Addr).block < _ from hb)]; exact (h j x hx).2 2 (by omega)
theorem MsAt.form {w : World} {v : Value} {l : List MK} (h : MsAt w v l) : ∃ a cap, v = .slice a l.length cap ∧ l.length ≤ 9223372036854775807 ∧ l.length ≤ cap ∧ (a = none → cap = 0) := by
  obtain ⟨a, cap, hv, hl, hlc, hn, _⟩ := h
  exact ⟨a, cap, hv, hl, hlc, hn⟩
theorem ms_oneCell (l : List MK) : ∀ u ∈ l.flatMap MK.cells, u.oneCell' = true := by
  intro u hu
  obtain ⟨x, _, hu⟩ := List.mem_flatMap.1 hu
  simp only [MK.cells, List.mem_cons, List.not_mem_nil, or_false] at hu
  rcases hu with rfl | rfl | rfl <;> rfl
theorem take_snoc {α : Type} {l : List α} {k : Nat} {x : α} (h : l[k]? = some x) : l.take (k + 1) = l.take k ++ [x] := by
  rw [List.take_add_one, h]; rfl
theorem info26 : (Try.prog.info? 26).map (fun i => (i.zero, i.size, i.bytes)) = some (some (.agg #[.int .i64 0, .int .u64 0, .int .u64 0]), 3, 24) := by kernel_rfl
theorem take_all {α : Type} {l : List α} {n : Nat} (h : l.length = n) : l.take n = l := by rw [← h, List.take_length]
theorem OwnMs.at {base : Nat} {w : World} {v : Value} {l : List MK} (h : OwnMs base w v l) (hok : ∀ x ∈ l, x.ok) : MsAt w v l := OwnRow.at (fun _ => rfl) h hok
theorem OwnMs.kept {base B : Nat} {w w' : World} {v : Value} {l : List MK} (h : OwnMs base w v l) (hb : Below B w w') (hB : w.heap.size ≤ B) : OwnMs base w' v l :=
  OwnRow.chg h (Chg.of_below (S := fun _ => False) hb hB) (fun _ _ h => h)
theorem OwnMs.own {base : Nat} {w : World} {v : Value} {l : List MK} (h : OwnMs base w v l) : ∀ k, v.ownBlock = some k → base ≤ k := fun k hk => (OwnRow.lt h k hk).1
theorem OwnMs.base_le {base base' : Nat} {w : World} {v : Value} {l : List MK} (h : OwnMs base w v l) (hb : base' ≤ base) : OwnMs base' w v l := Go.Joins.ownsRow_le h hb
def put3 (w : World) (g o : Nat) (x : MK) : World := ((w.setCell ⟨g, o, none⟩ (.int .i64 x.p)).setCell ⟨g, o + 1, none⟩ (.int .u64 x.s)).setCell ⟨g, o + 2, none⟩ (.int .u64 x.o)
theorem put3_cells (w : World) (g o : Nat) (q : MK) : put3 w g o q = w.setCells g o q.cells := rfl
theorem flat_set : ∀ (l : List MK) (i : Nat) (x : MK), (((l.flatMap MK.cells).set (i * 3) (.int .i64 x.p)).set (i * 3 + 1) (.int .u64 x.s)).set (i * 3 + 2) (.int .u64 x.o) = (l.set i x).flatMap MK.cells
  | [], _, _ => by simp
  | y :: l, 0, x => by simp [MK.cells]
  | y :: l, i + 1, x => by
    have := flat_set l i x
    simp only [List.flatMap_cons, List.set_cons_succ, MK.cells, List.cons_append, List.nil_append]
    rw [show (i + 1) * 3 = i * 3 + 1 + 1 + 1 by omega]
    simp only [List.set_cons_succ]
    rw [← this]
/-- a mark is stored -/
theorem OwnMs.set {base : Nat} {w : World} {g cap L : Nat} {l : List MK} (hL : l.length = L) (h : OwnMs base w (.slice (some ⟨g, 0, none⟩) L cap) l) (i : Nat) (x : MK) :
    OwnMs base (put3 w g (i * 3) x) (.slice (some ⟨g, 0, none⟩) L cap) (l.set i x) := by
  subst hL
  have h1 := (World.ownsRow.stored h (i * 3) (.int .i64 x.p)).1
  have h2 := (World.ownsRow.stored h1 (i * 3 + 1) (.int .u64 x.s)).1
  have h3 := (World.ownsRow.stored h2 (i * 3 + 2) (.int .u64 x.o)).1
  unfold OwnMs OwnRow
  rw [List.length_set, ← flat_set]
  exact h3
theorem put3_chg {S : Nat → Prop} {a w : World} (h : Chg S a w) (g o : Nat) (x : MK) (hg : S g ∨ a.heap.size ≤ g) : Chg S a (put3 w g o x) :=
  ((h.setCell (p := ⟨g, o, none⟩) hg _).setCell (p := ⟨g, o + 1, none⟩) hg _).setCell (p := ⟨g, o + 2, none⟩) hg _
theorem OwnMs.has {base : Nat} {w : World} {g cap L : Nat} {l : List MK} (hL : l.length = L) (h : OwnMs base w (.slice (some ⟨g, 0, none⟩) L cap) l) (i : Nat) (hi : i < L) :
    (∃ e, w.cell? ⟨g, i * 3, none⟩ = some e) ∧ (∃ e, w.cell? ⟨g, i * 3 + 1, none⟩ = some e) ∧ (∃ e, w.cell? ⟨g, i * 3 + 2, none⟩ = some e) ∧ w.frozen? ⟨g, i * 3, none⟩ = false ∧ w.frozen? ⟨g, i * 3 + 1, none⟩ = false ∧ w.frozen? ⟨g, i * 3 + 2, none⟩ = false := by
  subst hL
  have hf := flat_len (k := 3) (enc := MK.cells) (fun _ => rfl) l
  have a1 := World.ownsRow.cellAt h (i * 3) (by omega)
  have a2 := World.ownsRow.cellAt h (i * 3 + 1) (by omega)
  have a3 := World.ownsRow.cellAt h (i * 3 + 2) (by omega)
  rw [List.getElem?_eq_getElem (by rw [hf]; omega)] at a1 a2 a3
  exact ⟨⟨_, a1⟩, ⟨_, a2⟩, ⟨_, a3⟩, World.ownsRow.frozenAt h _, World.ownsRow.frozenAt h _, World.ownsRow.frozenAt h _⟩
/-- those that are not as asked -/
structure AsksAt (w : World) (f : Nat) (c : Value) (p : MK → Bool) : Prop where
  enters : ∀ args w, (callFunc f args).run Try.prog w = .ok (.enter f args) w
  calls : ∀ W, Below w.heap.size w W → ∀ x : MK, x.ok → Calls Try.prog f #[x.val, c] W fun e w' => e = .returned (.bool (p x)) ∧ Below W.heap.size W w'
theorem AsksAt.below {w w' : World} {f : Nat} {c : Value} {p : MK → Bool} (h : AsksAt w f c p) (hb : Below w.heap.size w w') : AsksAt w' f c p :=
  ⟨h.enters, fun W hW => h.calls W (hb.trans (hW.mono hb.size))⟩
theorem drewN_below {B : Nat} {a w : World} (h : Below B a w) (q : Nat) : Below B a (w.drewN q) := ⟨h.os, h.tape, h.output, h.size, h.block⟩
theorem eqIn26 (a b : MK) (d : Nat) (w : World) : (Op.equalIn (d + 1 + 1) 26 a.val b.val).run Try.prog w = .ok (decide (a = b)) w := by
  have u3 := Try.underlying3
  have a3 := Try.isAgg3
  have z3 := Try.sizeOf3
  have u22 := Try.underlying23
  have a22 := Try.isAgg23
  have z22 := Try.sizeOf23
  have hS : Try.prog.underlying 26 = some (.struct (Try.prog.fieldsOf 26)) := by kernel_rfl
  have hp : Try.prog.stoodInHeld 26 = false := by kernel_rfl
  obtain ⟨r, n, t⟩ := a
  obtain ⟨s, m, u⟩ := b
  have e : (decide ((⟨r, n, t⟩ : MK) = ⟨s, m, u⟩)) = (r == s && (n == m && t == u)) := by
    rw [Bool.eq_iff_iff]
    simp only [decide_eq_true_eq, Bool.and_eq_true, beq_iff_eq]
    exact ⟨fun h => by injection h with h1 h2 h3; exact ⟨h1, h2, h3⟩, fun h => MK.ext' h.1 h.2.1 h.2.2⟩
  rw [e, run_equalIn_agg w (d + 1) 26 _ _ hS hp]
  simp only [Program.fieldsOf, Try.underlying26]
  go_simp
  by_cases h1 : r = s <;> by_cases h2 : n = m <;> by_cases h3 : t = u <;> simp [h1, h2, h3]
theorem eql26 (a b : MK) (w : World) : (binOp .eql 26 a.val b.val).run Try.prog w = .ok (.bool (decide (a = b))) w := by
  rw [run_eql_struct, show (10000 : Nat) = 9998 + 1 + 1 from rfl, eqIn26]; rfl
theorem neq26 (a b : MK) (w : World) : (binOp .neq 26 a.val b.val).run Try.prog w = .ok (.bool (!decide (a = b))) w := by
  rw [run_neq_struct, show (10000 : Nat) = 9998 + 1 + 1 from rfl, eqIn26]; rfl
theorem guard26 : Try.prog.eqGuardType Try.prog.depth 26 = false := by kernel_rfl
def BoxC (w : World) (g : Nat) (T : TypeId) (cs : Array Value) : Prop := w.heap[g]? = some (.cells cs T (0, 0))
theorem BoxC.lt {w : World} {g : Nat} {T : TypeId} {cs : Array Value} (h : BoxC w g T cs) : g < w.heap.size := lt_of_block h
theorem BoxC.cell {w : World} {g : Nat} {T : TypeId} {cs : Array Value} (h : BoxC w g T cs) (j : Nat) : w.cell? ⟨g, j, none⟩ = cs[j]? := by rw [Go.Joins.cell_of_block h]
theorem BoxC.fz {w : World} {g : Nat} {T : TypeId} {cs : Array Value} (h : BoxC w g T cs) (j : Nat) : w.frozen? ⟨g, j, none⟩ = false := by unfold BoxC at h; simp [World.frozen?, h]
theorem BoxC.below {w w' : World} {g : Nat} {T : TypeId} {cs : Array Value} (h : BoxC w g T cs) (hb : Below w.heap.size w w') : BoxC w' g T cs := (hb.block g h.lt).trans h
theorem BoxC.alloc {w : World} {g : Nat} {T : TypeId} {cs : Array Value} (h : BoxC w g T cs) (o : Obj) : BoxC (w.alloc o) g T cs := (Below.heap_alloc w o g h.lt).trans h
theorem BoxC.new (w : World) (T : TypeId) (cs : Array Value) : BoxC (w.alloc (.cells cs T)) w.heap.size T cs := heap_alloc_new _ _
theorem BoxC.other {w : World} {g B : Nat} {T : TypeId} {cs : Array Value} (h : BoxC w g T cs) (hne : g ≠ B) (o : Nat) (v : Value) : BoxC (w.setCell ⟨B, o, none⟩ v) g T cs := (Below.heap_setCell w ⟨B, o, none⟩ v g hne).trans h
theorem BoxC.set {w : World} {g : Nat} {T : TypeId} {cs : Array Value} (h : BoxC w g T cs) (j : Nat) (v : Value) : BoxC (w.setCell ⟨g, j, none⟩ v) g T (cs.setIfInBounds j v) := Go.Joins.block_setCell h v
theorem BoxC.drew {w : World} {g : Nat} {T : TypeId} {cs : Array Value} (h : BoxC w g T cs) : BoxC w.drew g T cs := h
theorem results_m2 {fn : Func} {p u : Tmp} (h : fn.results = #[.cell p 26, .tmp u]) (tmps : Array Value) (w : World) (g : Nat) (m : MK) (hp : tmps.getD p undef = .pointer (some ⟨g, 0, none⟩)) (hg : BoxC w g 26 m.cells.toArray) :
    (results fn tmps).run Try.prog w = .ok (.tuple #[m.val, tmps.getD u undef]) w := by
  unfold BoxC MK.cells at hg
  rw [results_cell_tmp h, hp]
  simp [asAddr, Result.andThen, run_loadVar_row w g 26 26 _ _ _ hg Try.underlying26 rfl (by kernel_rfl)]
end Go.Proofs.Ytclchlcfcnlmhaa
