/- What a call changes; what rows read as; append of rows; places. A map that counts places: what it reads as, a look-up, one more. among: a function that tells whether a place is among those; its call; how many unlike ones are as asked. count: how many unlike ones of a row are as asked. == of places; the document's Has, Same, node; MayPlace. The document's Among, Acked, Missing. Acked, missing, Missing; the document's. round: places of a row from a number on. -/
import Derived.Test.YtpihogkhfmijcaaGreatProg
import Derived.WalkKit
import Derived.WalkSpells
import Derived.WalkLawsBesides
import Derived.RegionTactic
import Derived.RegionCalls
import Derived.Deep.RegionWith
import Derived.BigQuiet
import Derived.Outline
import Derived.Lib.Hide
import Derived.Lib.SmallJoins
import Derived.OneCell
import Derived.Deep.DeepAppendWide
import Derived.Laws.AppendOwnNone
import Derived.Laws.Rows
import Derived.Maps.OwnSet
import Derived.WideKeyEntry
import Derived.DeepKeys4
import Derived.StillTailTactics
import Derived.Deep.RegionHeld3
import Derived.Maps.OwnOps
import Derived.Shelf.Abstract
import Derived.Laws.StructEq
import Derived.Deep.MidRow
import Derived.Laws.MakeOwn
import Derived.Laws.OwnMore
namespace Go.Proofs.YtpihogkhfmijcaaGreat
open Go.RowKit
theorem maxLen_eq : maxLen = 9223372036854775807 := rfl
/-- w' is w with more blocks, and with other cells in the blocks S alone -/
structure Chg (S : Nat → Prop) (w w' : World) : Prop where
  os : w'.os = w.os
  tape : w'.tape = w.tape
  output : w'.output = w.output
  size : w.heap.size ≤ w'.heap.size
  block : ∀ k, k < w.heap.size → ¬ S k → w'.heap[k]? = w.heap[k]?
theorem Chg.refl (S : Nat → Prop) (w : World) : Chg S w w := ⟨rfl, rfl, rfl, Nat.le_refl _, fun _ _ _ => rfl⟩
/-- one change behind another -/
theorem Chg.then {S S' : Nat → Prop} {a b c : World} (h : Chg S a b) (k : Chg S' b c) (hs : ∀ i, S' i → S i ∨ a.heap.size ≤ i) : Chg S a c :=
  ⟨k.os.trans h.os, k.tape.trans h.tape, k.output.trans h.output, Nat.le_trans h.size k.size, fun i hi hn => (k.block i (Nat.lt_of_lt_of_le hi h.size) fun hm => by rcases hs i hm with h' | h'; exact hn h'; omega).trans (h.block i hi hn)⟩
theorem Chg.trans {S : Nat → Prop} {a b c : World} (h : Chg S a b) (k : Chg S b c) : Chg S a c := h.then k fun _ h => .inl h
theorem Chg.mono {S S' : Nat → Prop} {a b : World} (h : Chg S a b) (hs : ∀ k, S k → S' k ∨ a.heap.size ≤ k) : Chg S' a b := (Chg.refl S' a).then h hs
theorem Chg.of_below {B : Nat} {S : Nat → Prop} {a b : World} (h : Below B a b) (hB : a.heap.size ≤ B) : Chg S a b := ⟨h.os, h.tape, h.output, h.size, fun k hk _ => h.block k (by omega)⟩
theorem Chg.below {S : Nat → Prop} {a b : World} (h : Chg S a b) {B : Nat} (hB : B ≤ a.heap.size) (hs : ∀ k, S k → B ≤ k) : Below B a b :=
  ⟨h.os, h.tape, h.output, h.size, fun k hk => h.block k (by omega) fun hm => by have := hs k hm; omega⟩
theorem Chg.alloc {S : Nat → Prop} {a w : World} (h : Chg S a w) (o : Obj) : Chg S a (w.alloc o) :=
  h.then (S' := fun _ => False) (Chg.of_below ((Below.refl _ w).alloc (Nat.le_refl _) o) (Nat.le_refl _)) (fun _ h => h.elim)
theorem Chg.drew {S : Nat → Prop} {a w : World} (h : Chg S a w) : Chg S a w.drew := ⟨h.os, h.tape, h.output, h.size, h.block⟩
theorem Chg.drewN {S : Nat → Prop} {a w : World} (h : Chg S a w) (n : Nat) : Chg S a (w.drewN n) := ⟨h.os, h.tape, h.output, h.size, h.block⟩
theorem Chg.setCell {S : Nat → Prop} {a w : World} (h : Chg S a w) {p : Addr} (hp : S p.block ∨ a.heap.size ≤ p.block) (v : Value) : Chg S a (w.setCell p v) :=
  h.then (S' := fun k => k = p.block) ⟨rfl, rfl, rfl, by simp [World.setCell], fun k _ hn => Below.heap_setCell _ _ _ _ hn⟩ (fun i hi => by rw [hi]; exact hp)
theorem Chg.grown {S : Nat → Prop} {a w w' : World} {row : Option Nat} (h : Chg S a w) (hg : w.grownBy w' row) (hr : ∀ k, row = some k → S k ∨ a.heap.size ≤ k) : Chg S a w' :=
  h.then (S' := fun k => row = some k) ⟨hg.os, hg.tape, hg.output, hg.size, fun k hk hn => hg.block k hk (fun e => hn e.symm)⟩ (fun i hi => hr i hi)
theorem Chg.heap {S : Nat → Prop} {w w' : World} (h : Chg S w w') {k : Nat} {o : Obj} (ho : w.heap[k]? = some o) (hn : ¬ S k) : w'.heap[k]? = some o := by
  rw [h.block k (lt_of_block ho) hn]; exact ho

/-- the slice v reads as l, each of k cells -/
def RowAt {α : Type} (P : World → α → Prop) (k : Nat) (enc : α → List Value) (w : World) (v : Value) (l : List α) : Prop :=
  ∃ a cap, v = .slice a l.length cap ∧ l.length ≤ 9223372036854775807 ∧ l.length ≤ cap ∧ (a = none → cap = 0) ∧ (0 < l.length → ∃ b off, a = some ⟨b, off, none⟩ ∧ b < w.heap.size ∧ ∀ (j : Nat) x, l[j]? = some x → P w x ∧ ∀ r, r < k → w.cell? ⟨b, off + j * k + r, none⟩ = (enc x)[r]?)
theorem RowAt.below {α : Type} {P : World → α → Prop} {k : Nat} {enc : α → List Value} {w w' : World} {v : Value} {l : List α} (h : RowAt P k enc w v l) (hb : Below w.heap.size w w') (hP : ∀ x, P w x → P w' x) : RowAt P k enc w' v l := by
  obtain ⟨a, cap, hv, hl, hlc, hn, h⟩ := h
  refine ⟨a, cap, hv, hl, hlc, hn, fun h0 => ?_⟩
  obtain ⟨b, off, ha, hbl, hc⟩ := h h0
  refine ⟨b, off, ha, by have := hb.size; omega, fun j q hj => ?_⟩
  obtain ⟨hok, hr⟩ := hc j q hj
  exact ⟨hP _ hok, fun r hr' => by rw [hb.cell (show (⟨b, off + j * k + r, none⟩ : Addr).block < _ from hbl)]; exact hr r hr'⟩
section
variable {α : Type} {P : World → α → Prop} {k : Nat} {enc : α → List Value} {T : TypeId}
theorem flat_len (hk : ∀ x, (enc x).length = k) (l : List α) : (l.flatMap enc).length = l.length * k := by
  induction l with
  | nil => simp
  | cons p ps ih => rw [List.flatMap_cons, List.length_append, ih, hk, List.length_cons, Nat.succ_mul, Nat.add_comm]
theorem flat_at (hk : ∀ x, (enc x).length = k) : ∀ (l : List α) (i r : Nat), r < k → (l.flatMap enc)[i * k + r]? = (l[i]?).bind fun x => (enc x)[r]?
  | [], i, r, _ => by simp
  | x :: l, 0, r, h => by
    rw [List.flatMap_cons, Nat.zero_mul, Nat.zero_add, List.getElem?_append_left (by rw [hk]; exact h)]
    rfl
  | x :: l, i + 1, r, h => by
    rw [List.flatMap_cons, List.getElem?_append_right (by rw [hk, Nat.succ_mul]; omega), hk, show (i + 1) * k + r - k = i * k + r by rw [Nat.succ_mul]; omega, flat_at hk l i r h]
    rfl
/-- rows of the call's own -/
def OwnRow (T : TypeId) (k : Nat) (enc : α → List Value) (base : Nat) (w : World) (v : Value) (l : List α) : Prop := w.ownsRow base T k v l.length (l.flatMap enc)
theorem OwnRow.at {base : Nat} {w : World} {v : Value} {l : List α} (hk : ∀ x, (enc x).length = k) (h : OwnRow T k enc base w v l) (hP : ∀ x ∈ l, P w x) : RowAt P k enc w v l := by
  rcases h.2 with ⟨rfl, h0⟩ | ⟨g, cap, cur, rfl, hbg, hg, hnc, hcm, hcs, htake⟩
  · obtain rfl : l = [] := List.eq_nil_of_length_eq_zero h0
    exact ⟨none, 0, rfl, by simp, by simp, fun _ => rfl, fun h => absurd h (by simp)⟩
  · rw [maxLen_eq] at hcm
    refine ⟨_, cap, rfl, by omega, hnc, (fun h => by cases h), fun _ => ⟨g, 0, rfl, (Array.getElem?_eq_some_iff.1 hg).1, fun j x hj => ⟨hP x (List.mem_of_getElem? hj), fun r hr => ?_⟩⟩⟩
    have hjl := (List.getElem?_eq_some_iff.1 hj).1
    have hlt : j * k + r < l.length * k := by
      have := Nat.mul_le_mul_right k (show j + 1 ≤ l.length by omega)
      rw [Nat.succ_mul] at this
      omega
    have := World.ownsRow.cellAt h (j * k + r) hlt
    rw [Nat.zero_add, this, flat_at hk _ _ _ hr, hj]
    rfl
theorem OwnRow.lt {base : Nat} {w : World} {v : Value} {l : List α} (h : OwnRow T k enc base w v l) : ∀ b, v.ownBlock = some b → base ≤ b ∧ b < w.heap.size := World.ownsRow.lt h
theorem OwnRow.made (w : World) : OwnRow T k enc w.heap.size (w.alloc (.cells #[] T)) (.slice (some ⟨w.heap.size, 0, none⟩) 0 0) [] := World.ownsRow_made w #[] 0 (Nat.le_refl _) (Nat.zero_le _) (by simp)
theorem wpList_append_rows {w : World} {ops : Array Oper} {rest : List Oper} {o : Oper} {a : Act} {Q : Exit → Act → World → Prop} (hgd : o.guard = none) (s x : Operand) (S T : TypeId) (k bytes : Nat) (z : Value) (enc : α → List Value)
    (ho : o.op = .call { callee := .builtin .append, args := #[s, x], argTypes := #[S, S] }) (hU : Tryz.prog.underlying S = some (.slice T)) (hI : (Tryz.prog.info? T).map (fun i => (i.zero, i.size, i.bytes)) = some (some z, k, bytes)) (hzc : z.cells.size = k) (hk0 : 0 < k) (hby : bytes ≤ 1000)
    (hk : ∀ x, (enc x).length = k) (base : Nat) (v u : Value) (n l : List α) (hs : a.eval s = v) (hx : a.eval x = u)
    (hown : OwnRow T k enc base w v n) (hb : RowAt P k enc w u l) (hone : ∀ u ∈ l.flatMap enc, u.oneCell' = true) (hsmall : n.length + l.length ≤ 1000000) (hbase : base ≤ w.heap.size)
    (h : ∀ v' w', OwnRow T k enc base w' v' (n ++ l) → w.grownBy w' v.ownBlock → wpList Tryz.prog ops Q rest (a.put o.dst v') w') : wpList Tryz.prog ops Q (o :: rest) a w := by
  obtain ⟨i0, hi, hz0, hz1, hz2⟩ := info_parts hI
  obtain ⟨ad, cap, rfl, _, hlc, hn, hc⟩ := hb
  cases ad with
  | none =>
    have := hn rfl
    obtain rfl : l = [] := List.eq_nil_of_length_eq_zero (by omega)
    subst this
    exact wpList_append_own_none hgd s x S ho base T i0 k hU hi v n.length (n.flatMap enc) hs hown hx (h v w (by rw [List.append_nil]; exact hown) (World.grownBy.refl _ _))
  | some ad =>
    refine wpList_plain hgd fun K hK => ?_
    have hnews : ∀ (j : Nat) u, (l.flatMap enc)[j]? = some u → w.cell? (ad.add j) = some u := by
      intro j u hj
      have hjl := (List.getElem?_eq_some_iff.1 hj).1
      rw [flat_len hk] at hjl
      have hl0 : 0 < l.length := by
        rcases Nat.eq_zero_or_pos l.length with h0 | h0
        · rw [h0] at hjl; omega
        · exact h0
      obtain ⟨b, off, hab, _, hc2⟩ := hc hl0
      cases hab
      have hd : j / k * k + j % k = j := by rw [Nat.mul_comm]; exact Nat.div_add_mod j k
      rw [← hd, flat_at hk _ _ _ (Nat.mod_lt _ hk0)] at hj
      obtain ⟨x, hx, hxr⟩ := Option.bind_eq_some_iff.1 hj
      rw [Addr.add_lit, ← hd, ← Nat.add_assoc, (hc2 (j / k) x hx).2 _ (Nat.mod_lt _ hk0)]
      exact hxr
    have hb1 : (n.length + l.length) * bytes ≤ 1000000 * 1000 := Nat.mul_le_mul hsmall hby
    have hb2 : (n.length + l.length + (n.length + l.length) / 4 + 192) * bytes ≤ 2000000 * 1000 := Nat.mul_le_mul (by omega) hby
    obtain ⟨v', w', hr, h2, h3, _⟩ := run_append_own_wide (P := Tryz.prog) w base S o.type T i0 z k bytes hU hi hz0 hz1 hz2 hzc hk0 v n.length (n.flatMap enc) hown ad l.length cap (l.flatMap enc) (flat_len hk l) hnews hone (by unfold maxLen; omega) (by omega) hbase
    have h2' : OwnRow T k enc base w' v' (n ++ l) := by
      unfold OwnRow
      rw [List.length_append, List.flatMap_append]
      exact h2
    unfold Oper.wp execOp
    simp only [ho, resolve, invoke, builtin, Sem.run_bind, Sem.run_pure, Result.andThen_ok, List.map_toArray, List.map_cons, List.map_nil, hs, hx, hr]
    exact hK _ _ (h v' w' h2' h3)
end
theorem OwnRow.chg {α : Type} {k : Nat} {enc : α → List Value} {T : TypeId} {base : Nat} {w w' : World} {v : Value} {l : List α} {S : Nat → Prop} (h : OwnRow T k enc base w v l) (hc : Chg S w w') (hS : ∀ k, v.ownBlock = some k → ¬ S k) : OwnRow T k enc base w' v l := by
  refine ⟨h.1, ?_⟩
  rcases h.2 with h2 | ⟨g, cap, cur, rfl, hbg, hg, r⟩
  · exact .inl h2
  · exact .inr ⟨g, cap, cur, rfl, hbg, hc.heap hg (hS g rfl), r⟩
/-- a place -/
structure PL where
  n : Int
  s : Int
theorem PL.ext' {a b : PL} (h1 : a.n = b.n) (h2 : a.s = b.s) : a = b := by
  cases a; cases b; simp at h1 h2; subst h1 h2; rfl
instance : DecidableEq PL := fun a b =>
  if h : a.n = b.n ∧ a.s = b.s then .isTrue (PL.ext' h.1 h.2) else .isFalse fun e => h (by subst e; exact ⟨rfl, rfl⟩)
instance : Inhabited PL := ⟨⟨0, 0⟩⟩
def PL.ok (p : PL) : Prop := (-9223372036854775808 ≤ p.n ∧ p.n ≤ 9223372036854775807) ∧ (0 ≤ p.s ∧ p.s ≤ 18446744073709551615)
def PL.cells (p : PL) : List Value := [.int .i64 p.n, .int .u64 p.s]
abbrev PL.val (p : PL) : Value := .agg #[.int .i64 p.n, .int .u64 p.s]
abbrev PsAt (w : World) (v : Value) (l : List PL) : Prop := RowAt (fun _ p => p.ok) 2 PL.cells w v l
abbrev OwnPs (base : Nat) (w : World) (v : Value) (l : List PL) : Prop := OwnRow 40 2 PL.cells base w v l
abbrev IntsAt (w : World) (v : Value) (l : List Int) : Prop := RowAt (fun _ x => -9223372036854775808 ≤ x ∧ x ≤ 9223372036854775807) 1 (fun x => [.int .i64 x]) w v l
theorem PsAt.below {w w' : World} {v : Value} {l : List PL} (h : PsAt w v l) (hb : Below w.heap.size w w') : PsAt w' v l := RowAt.below h hb fun _ h => h
theorem IntsAt.below {w w' : World} {v : Value} {l : List Int} (h : IntsAt w v l) (hb : Below w.heap.size w w') : IntsAt w' v l := RowAt.below h hb fun _ h => h
theorem PsAt.ok {w : World} {v : Value} {l : List PL} (h : PsAt w v l) : ∀ x ∈ l, x.ok := by
  intro q hq
  obtain ⟨j, hj⟩ := List.getElem?_of_mem hq
  obtain ⟨a, cap, _, _, _, _, h⟩ := h
  obtain ⟨b, off, _, _, h⟩ := h (by cases l with | nil => cases hq | cons => simp)
  exact (h j q hj).1
/-- the cells of one of a row -/
theorem PsAt.cell {w : World} {a : Option Addr} {n cap : Nat} {l : List PL} (h : PsAt w (.slice a n cap) l) {j : Nat} {x : PL} (hx : l[j]? = some x) : ∃ b off, a = some ⟨b, off, none⟩ ∧ b < w.heap.size ∧ ∀ W, Below w.heap.size w W → W.cell? ⟨b, off + j * 2, none⟩ = some (.int .i64 x.n) ∧ W.cell? ⟨b, off + j * 2 + 1, none⟩ = some (.int .u64 x.s) := by
  obtain ⟨a', cap', hv, _, _, _, h⟩ := h
  cases hv
  obtain ⟨b, off, rfl, hb, h⟩ := h (by have := (List.getElem?_eq_some_iff.1 hx).1; omega)
  refine ⟨b, off, rfl, hb, fun W hW => ⟨?_, ?_⟩⟩
  · rw [hW.cell (show (⟨b, off + j * 2, none⟩ : Addr).block < _ from hb)]; exact (h j x hx).2 0 (by omega)
  · rw [hW.cell (show (⟨b, off + j * 2 + 1, none⟩ : Addr).block < _ from hb)]; exact (h j x hx).2 1 (by omega)
theorem PsAt.form {w : World} {v : Value} {l : List PL} (h : PsAt w v l) : ∃ a cap, v = .slice a l.length cap ∧ l.length ≤ 9223372036854775807 ∧ l.length ≤ cap ∧ (a = none → cap = 0) := by
  obtain ⟨a, cap, hv, h1, h2, h3, _⟩ := h
  exact ⟨a, cap, hv, h1, h2, h3⟩
theorem OwnPs.at {base : Nat} {w : World} {v : Value} {l : List PL} (h : OwnPs base w v l) (hok : ∀ x ∈ l, x.ok) : PsAt w v l := OwnRow.at (fun _ => rfl) h hok
theorem info38 : (Tryz.prog.info? 40).map (fun i => (i.zero, i.size, i.bytes)) = some (some (.agg #[.int .i64 0, .int .u64 0]), 2, 16) := by kernel_rfl
theorem ps_oneCell (l : List PL) : ∀ u ∈ l.flatMap PL.cells, u.oneCell' = true := by
  intro u hu
  obtain ⟨x, _, hx⟩ := List.mem_flatMap.1 hu
  simp only [PL.cells, List.mem_cons, List.not_mem_nil, or_false] at hx
  rcases hx with rfl | rfl <;> rfl
theorem OwnPs.kept {base B : Nat} {w w' : World} {v : Value} {l : List PL} (h : OwnPs base w v l) (hb : Below B w w') (hB : w.heap.size ≤ B) : OwnPs base w' v l :=
  OwnRow.chg h (Chg.of_below (S := fun _ => False) hb hB) (fun _ _ h => h)
theorem OwnPs.own {base : Nat} {w : World} {v : Value} {l : List PL} (h : OwnPs base w v l) : ∀ k, v.ownBlock = some k → base ≤ k := fun k hk => (OwnRow.lt h k hk).1
theorem OwnPs.made (w : World) (base : Nat) (hb : base ≤ w.heap.size) : OwnPs base (w.alloc (.cells #[] 40)) (.slice (some ⟨w.heap.size, 0, none⟩) 0 0) [] := World.ownsRow_made w #[] 0 hb (Nat.zero_le _) (by simp)
theorem OwnPs.base_le {base base' : Nat} {w : World} {v : Value} {l : List PL} (h : OwnPs base w v l) (hb : base' ≤ base) : OwnPs base' w v l := Go.Joins.ownsRow_le h hb
end Go.Proofs.YtpihogkhfmijcaaGreat
namespace Go.Proofs.YtpihogkhfmijcaaGreat
open Go.RowKit Go.Maps
open Go.WideElems (Fit)
open Go.ChangeMaps (setBlock)
theorem laidTwo : laidOutB Tryz.prog = true := by kernel_rfl
theorem row38 : 40 < Tryz.prog.types.size := of_decide_eq_true (by kernel_rfl)
theorem law38 : Go.WideMaps.KeyLaw Tryz.prog 40 := deep_law_laid laidTwo (m := 3) (by omega) row38 (by kernel_rfl) (by kernel_rfl)
theorem keyed38 : Keyed Tryz.prog 40 := Keyed.of_law law38
theorem keyType38 : Tryz.prog.keyType 40 = true := by kernel_rfl
theorem formed38 (a b : Value) : (Value.agg #[a, b]).formed Tryz.prog 40 = true := by kernel_rfl
theorem size38 : ∃ n, Tryz.prog.types.size + 1 = n + 2 := ⟨Tryz.prog.types.size - 1, by have := row38; omega⟩
theorem cellsOf38 : Tryz.prog.cellsOf 40 = 2 := by kernel_rfl
theorem cellsOf3 : Tryz.prog.cellsOf 3 = 1 := by kernel_rfl
theorem cellsOf22 : Tryz.prog.cellsOf 22 = 1 := by kernel_rfl
/-- what a place reads as, as a key -/
theorem key_some (p : PL) (h : p.ok) : ∃ k, keyOf Tryz.prog 40 p.val = some k := by
  obtain ⟨n, hn⟩ := size38
  obtain ⟨⟨h1, h2⟩, h3, h4⟩ := h
  have w1 : (Lit.int .i64 p.n).wf = true := WalkArith.wf_i64 ⟨h1, h2⟩
  have w2 : (Lit.int .u64 p.s).wf = true := by
    simp [Lit.wf, IntKind.min, IntKind.max, IntKind.signed, IntKind.bits]
    omega
  have e3 : Tryz.prog.keyLits (n + 1) 3 [.int .i64 p.n] = some [.int .i64 p.n] := by
    unfold Program.keyLits
    rw [Tryz.underlying3]
    simp [w1]
  have e22 : Tryz.prog.keyLits (n + 1) 22 [.int .u64 p.s] = some [.int .u64 p.s] := by
    unfold Program.keyLits
    rw [Tryz.underlying22]
    simp [w2]
  have e38 : Tryz.prog.keyLits (n + 2) 40 [.int .i64 p.n, .int .u64 p.s] = some [.int .i64 p.n, .int .u64 p.s] := by
    unfold Program.keyLits
    rw [Tryz.underlying40]
    simp [cellsOf38, cellsOf3, cellsOf22, e3, e22]
  unfold keyOf
  rw [Tryz.underlying40]
  simp only [keyType38, formed38, hn, Value.cells, e38]
  simp
theorem key_inj {p q : PL} {k : Lit} (h1 : keyOf Tryz.prog 40 p.val = some k) (h2 : keyOf Tryz.prog 40 q.val = some k) : p = q := by
  have := keyed38.inj h1 h2
  simp only [Value.agg.injEq] at this
  have e := congrArg Array.toList this
  simp at e
  exact PL.ext' e.1 e.2
/-- how many unlike ones -/
def dist (l : List PL) : Nat := l.eraseDups.length
theorem dist_nil : dist [] = 0 := rfl
theorem dist_snoc (l : List PL) (x : PL) : dist (l ++ [x]) = dist l + if x ∈ l then 0 else 1 := by
  unfold dist
  rw [List.eraseDups_append]
  by_cases h : x ∈ l <;> simp [h, List.removeAll, List.eraseDups_cons]
theorem dist_le (l : List PL) : ∀ r : List PL, dist (l ++ r) ≤ dist l + r.length := by
  intro r
  induction r generalizing l with
  | nil => simp
  | cons x r ih =>
    have := ih (l ++ [x])
    rw [dist_snoc] at this
    simp only [List.append_assoc, List.cons_append, List.nil_append] at this
    simp only [List.length_cons]
    split at this <;> omega
theorem dist_le_length (l : List PL) : dist l ≤ l.length := by
  have := dist_le [] l
  simp [dist_nil] at this
  exact this
/-- the map in block b counts the places l -/
def TimesAt (w : World) (b : Nat) (l : List PL) : Prop :=
  ∃ D : DataW Unit, w.ownsMap Tryz.prog 40 (plainElem Tryz.prog 3) b l.length D ∧ ∀ p k, keyOf Tryz.prog 40 p.val = some k → D.atKey k (.lit (.int .i64 0)) = .lit (.int .i64 (l.count p)) ∧ Maps.has D k = l.contains p
    ∧ Maps.size D = dist l
theorem TimesAt.lt {w : World} {b : Nat} {l : List PL} (h : TimesAt w b l) : b < w.heap.size := by
  obtain ⟨D, h, _⟩ := h
  exact h.lt
theorem TimesAt.block {w w' : World} {b : Nat} {l : List PL} (h : TimesAt w b l) (hb : w'.heap[b]? = w.heap[b]?) : TimesAt w' b l := by
  obtain ⟨D, ⟨es, clock, h1, h2⟩, h3⟩ := h
  exact ⟨D, ⟨es, clock, hb.trans h1, h2⟩, h3⟩
theorem TimesAt.below {w w' : World} {B b : Nat} {l : List PL} (h : TimesAt w b l) (hb : Below B w w') (hB : w.heap.size ≤ B) : TimesAt w' b l := h.block (hb.block b (by have := h.lt; omega))
theorem TimesAt.made (w : World) : TimesAt (w.alloc (.map #[] 0)) w.heap.size [] := ⟨_, World.ownsMap_made w _ _ _, fun p k _ => by simp [DataW.atKey, Maps.has, Maps.size, dist_nil]⟩
theorem zero3 (w : World) : (zeroValue 3).run Tryz.prog w = .ok (.int .i64 0) w := Tryz.zeroValue3 w
theorem count_lt (l : List PL) (p : PL) : l.count p ≤ l.length := List.count_le_length
end Go.Proofs.YtpihogkhfmijcaaGreat
namespace Go.Proofs.YtpihogkhfmijcaaGreat
open Go.RowKit Go.Maps Go.Shelf
theorem take_snoc {α : Type} {l : List α} {k : Nat} {x : α} (h : l[k]? = some x) : l.take (k + 1) = l.take k ++ [x] := by
  obtain ⟨hkl, rfl⟩ := List.getElem?_eq_some_iff.1 h
  exact List.take_succ_eq_append_getElem hkl
theorem take_all {α : Type} {l : List α} {k : Nat} (h : l.length = k) : l.take k = l := List.take_of_length_le (by omega)
theorem cell_grown {w w' : World} {b : Nat} (h : w.grownBy w' (some b)) {a : Addr} (ha : a.block < w.heap.size) (hb : a.block ≠ b) : w'.cell? a = w.cell? a :=
  World.cell?_of_block (h.block _ ha fun e => hb (Option.some.inj e))
/-- fv is a function of one captured cell that tells whether a place is as p says -/
structure AsksAt (w : World) (f : Nat) (c : Value) (p : PL → Bool) : Prop where
  enters : ∀ args w, (callFunc f args).run Tryz.prog w = .ok (.enter f args) w
  calls : ∀ W, Below w.heap.size w W → ∀ x : PL, x.ok → Calls Tryz.prog f #[x.val, c] W fun e w' => e = .returned (.bool (p x)) ∧ Below W.heap.size W w'
theorem AsksAt.below {w w' : World} {f : Nat} {c : Value} {p : PL → Bool} (h : AsksAt w f c p) (hb : Below w.heap.size w w') : AsksAt w' f c p :=
  ⟨h.enters, fun W hW => h.calls W (hb.trans (hW.mono hb.size))⟩
/-- what among hands back -/
structure AmongAt (w : World) (g b : Nat) (l : List PL) : Prop where
  lt : g < w.heap.size
  cell : w.cell? ⟨g, 0, none⟩ = some (.map (some b))
  times : TimesAt w b l
theorem AmongAt.below {w w' : World} {g b : Nat} {l : List PL} (h : AmongAt w g b l) (hb : Below w.heap.size w w') : AmongAt w' g b l :=
  ⟨by have := h.lt; have := hb.size; omega, (hb.cell (p := ⟨g, 0, none⟩) h.lt).trans h.cell, h.times.below hb (Nat.le_refl _)⟩
theorem count_pos (l : List PL) (x : PL) : decide ((0 : Int) < (l.count x : Int)) = l.contains x := by
  have := List.count_pos_iff (a := x) (l := l)
  by_cases h : x ∈ l
  · have := this.2 h
    simp [h]
  · have : ¬ 0 < l.count x := fun h' => h (this.1 h')
    simp [h]
end Go.Proofs.YtpihogkhfmijcaaGreat
namespace Go.Proofs.YtpihogkhfmijcaaGreat
open Go.RowKit Go.Maps Go.Shelf
/-- how many unlike ones are as p says -/
def hits (p : PL → Bool) (l : List PL) : Nat := dist (l.filter p)
theorem hits_le (p : PL → Bool) (l : List PL) : hits p l ≤ l.length := Nat.le_trans (dist_le_length _) (List.length_filter_le _ _)
end Go.Proofs.YtpihogkhfmijcaaGreat
namespace Go.Proofs.YtpihogkhfmijcaaGreat
open Go.RowKit Go.Maps Go.Shelf
theorem drewN_below {B : Nat} {a w : World} (h : Below B a w) (q : Nat) : Below B a (w.drewN q) := ⟨h.os, h.tape, h.output, h.size, h.block⟩
theorem eqIn38 (a b : PL) (d : Nat) (w : World) : (Op.equalIn (d + 1 + 1) 40 a.val b.val).run Tryz.prog w = .ok (decide (a = b)) w := by
  have u3 := Tryz.underlying3
  have a3 := Tryz.isAgg3
  have z3 := Tryz.sizeOf3
  have u22 := Tryz.underlying22
  have a22 := Tryz.isAgg22
  have z22 := Tryz.sizeOf22
  have hS : Tryz.prog.underlying 40 = some (.struct (Tryz.prog.fieldsOf 40)) := by kernel_rfl
  have hp : Tryz.prog.stoodInHeld 40 = false := by kernel_rfl
  obtain ⟨r, n⟩ := a
  obtain ⟨s, m⟩ := b
  have e : (decide ((⟨r, n⟩ : PL) = ⟨s, m⟩)) = (r == s && n == m) := by
    rw [Bool.eq_iff_iff]
    simp only [decide_eq_true_eq, Bool.and_eq_true, beq_iff_eq]
    exact ⟨fun h => by injection h with h1 h2; exact ⟨h1, h2⟩, fun h => PL.ext' h.1 h.2⟩
  rw [e, run_equalIn_agg w (d + 1) 40 _ _ hS hp]
  simp only [Program.fieldsOf, Tryz.underlying40]
  go_simp
  by_cases h1 : r = s <;> by_cases h2 : n = m <;> simp [h1, h2]
theorem eql38 (a b : PL) (w : World) : (binOp .eql 40 a.val b.val).run Tryz.prog w = .ok (.bool (decide (a = b))) w := by
  rw [run_eql_struct, show (10000 : Nat) = 9998 + 1 + 1 from rfl, eqIn38]; rfl
theorem neq38 (a b : PL) (w : World) : (binOp .neq 40 a.val b.val).run Tryz.prog w = .ok (.bool (!decide (a = b))) w := by
  rw [run_neq_struct, show (10000 : Nat) = 9998 + 1 + 1 from rfl, eqIn38]; rfl
theorem guard38 : Tryz.prog.eqGuardType Tryz.prog.depth 40 = false := by kernel_rfl
theorem contains_snoc {l : List PL} {k : Nat} {x y : PL} (h : l[k]? = some y) : (l.take (k + 1)).contains x = ((l.take k).contains x || decide (x = y)) := by
  rw [take_snoc h]
  simp only [List.contains_eq_mem, List.mem_append, List.mem_singleton, Bool.decide_or]
theorem take_eq_snoc {l m : List PL} {k : Nat} {x y : PL} (h : l.take k = m.take k) (hx : l[k]? = some x) (hy : m[k]? = some y) : l.take (k + 1) = m.take (k + 1) ↔ x = y := by
  rw [take_snoc hx, take_snoc hy, h]
  simp
/-- a place that may be -/
def PL.may (p : PL) : Bool := decide (0 < p.n) && decide (p.n ≤ 15) && (decide (0 < p.s) && decide (p.s ≤ 4611686018427387903))
end Go.Proofs.YtpihogkhfmijcaaGreat
namespace Go.Proofs.YtpihogkhfmijcaaGreat
open Go.RowKit Go.Maps Go.Shelf
theorem hits_snoc (p : PL → Bool) (l : List PL) (x : PL) : hits p (l ++ [x]) = hits p l + if (!l.contains x && p x) = true then 1 else 0 := by
  unfold hits
  rw [List.filter_append]
  cases hp : p x
  · simp [hp]
  · simp only [List.filter_cons, hp, List.filter_nil, if_true]
    rw [dist_snoc]
    by_cases h : x ∈ l <;> simp [h, hp]
end Go.Proofs.YtpihogkhfmijcaaGreat
namespace Go.Proofs.YtpihogkhfmijcaaGreat
open Go.RowKit Go.Maps Go.Shelf
def ackedB (p : PL → Bool) (set : List PL) (a : Int) : Bool := decide (1 ≤ a) && decide (a ≤ (hits p set : Int))
theorem wrapu (x : Int) : IntKind.u64.wrap x = x % 18446744073709551616 := by
  simp [IntKind.wrap, IntKind.bits, IntKind.signed]
theorem hits_small (p : PL → Bool) (set : List PL) (h : set.length ≤ 100000) : hits p set ≤ 100000 := Nat.le_trans (hits_le p set) h
theorem AmongAt.of {w w' : World} {l : List PL} (h : w'.cell? ⟨w.heap.size + 1, 0, none⟩ = some (.map (some w.heap.size)) ∧ w.heap.size + 1 < w'.heap.size ∧ TimesAt w' w.heap.size l ∧ Below w.heap.size w w') : AmongAt w' (w.heap.size + 1) w.heap.size l :=
  ⟨h.2.1, h.1, h.2.2.1⟩
end Go.Proofs.YtpihogkhfmijcaaGreat
namespace Go.Proofs.YtpihogkhfmijcaaGreat
open Go.RowKit Go.Maps Go.Shelf
/-- w places of a row from a number on, round -/
def rot (row : List PL) (fr w : Nat) : List PL := (List.range w).map fun i => row.getD ((fr + i) % row.length) default
theorem rot_length (row : List PL) (fr w : Nat) : (rot row fr w).length = w := by simp [rot]
theorem rot_mem {row : List PL} {fr w : Nat} (h : 0 < row.length) : ∀ x ∈ rot row fr w, x ∈ row := by
  intro x hx
  simp only [rot, List.mem_map, List.mem_range] at hx
  obtain ⟨i, _, rfl⟩ := hx
  have hm := Nat.mod_lt (fr + i) h
  rw [List.getD_eq_getElem?_getD, List.getElem?_eq_getElem hm]
  exact List.getElem_mem hm
theorem zero_ok : (default : PL).ok := ⟨by decide, by decide⟩
theorem made38 (w : World) (n : Nat) (hn : n ≤ 100000) : OwnPs w.heap.size (w.alloc (.cells (madeCells #[.int .i64 0, .int .u64 0] (n * 2)) 40)) (.slice (some ⟨w.heap.size, 0, none⟩) n n) (List.replicate n default) := by
  have hl : (List.replicate n (default : PL)).length = n := List.length_replicate
  have hf := flat_len (k := 2) (enc := PL.cells) (fun _ => rfl) (List.replicate n (default : PL))
  unfold OwnPs OwnRow
  rw [hl]
  refine ⟨by rw [hf, hl], .inr ⟨w.heap.size, n, _, rfl, Nat.le_refl _, heap_alloc_new _ _, Nat.le_refl _, by unfold maxLen; omega, size_madeCells _ _, ?_⟩⟩
  apply List.ext_getElem?
  intro i
  by_cases hi : i < n * 2
  · have hd : i / 2 * 2 + i % 2 = i := by omega
    rw [List.getElem?_take_of_lt hi, Array.getElem?_toList]
    have : (madeCells #[.int .i64 0, .int .u64 0] (n * 2))[i]? = (PL.cells default)[i % 2]? := by
      unfold madeCells
      simp only [Array.getElem?_map, Array.getElem?_range]
      rw [if_pos hi]
      have h2 : i % 2 = 0 ∨ i % 2 = 1 := by omega
      rcases h2 with h2 | h2 <;> simp [h2, PL.cells, default]
    rw [this]
    have hx : (List.replicate n (default : PL))[i / 2]? = some default := by rw [List.getElem?_replicate, if_pos (by omega)]
    conv => rhs; rw [← hd]
    rw [flat_at (k := 2) (enc := PL.cells) (fun _ => rfl) _ _ _ (by omega), hx]
    rfl
  · rw [List.getElem?_eq_none (by simp [size_madeCells]; omega), List.getElem?_eq_none (by rw [hf, hl]; omega)]
theorem flat_set : ∀ (l : List PL) (i : Nat) (x : PL), ((l.flatMap PL.cells).set (i * 2) (.int .i64 x.n)).set (i * 2 + 1) (.int .u64 x.s) = (l.set i x).flatMap PL.cells
  | [], _, _ => by simp
  | y :: l, 0, x => by simp [PL.cells]
  | y :: l, i + 1, x => by
    have := flat_set l i x
    simp only [List.flatMap_cons, List.set_cons_succ, PL.cells, List.cons_append, List.nil_append]
    rw [show (i + 1) * 2 = i * 2 + 1 + 1 by omega]
    simp only [List.set_cons_succ]
    rw [← this]
/-- a place is stored -/
def put2 (w : World) (g o : Nat) (x : PL) : World := (w.setCell ⟨g, o, none⟩ (.int .i64 x.n)).setCell ⟨g, o + 1, none⟩ (.int .u64 x.s)
theorem OwnPs.set {base : Nat} {w : World} {g cap L : Nat} {l : List PL} (hL : l.length = L) (h : OwnPs base w (.slice (some ⟨g, 0, none⟩) L cap) l) (i : Nat) (x : PL) :
    OwnPs base (put2 w g (i * 2) x) (.slice (some ⟨g, 0, none⟩) L cap) (l.set i x) := by
  subst hL
  have h1 := (World.ownsRow.stored h (i * 2) (.int .i64 x.n)).1
  have h2 := (World.ownsRow.stored h1 (i * 2 + 1) (.int .u64 x.s)).1
  unfold OwnPs OwnRow
  rw [List.length_set, ← flat_set]
  exact h2
theorem put2_chg {S : Nat → Prop} {a w : World} (h : Chg S a w) (g o : Nat) (x : PL) (hg : S g ∨ a.heap.size ≤ g) : Chg S a (put2 w g o x) :=
  (h.setCell (p := ⟨g, o, none⟩) hg _).setCell (p := ⟨g, o + 1, none⟩) hg _
theorem OwnPs.has {base : Nat} {w : World} {g cap L : Nat} {l : List PL} (hL : l.length = L) (h : OwnPs base w (.slice (some ⟨g, 0, none⟩) L cap) l) (i : Nat) (hi : i < L) :
    (∃ e, w.cell? ⟨g, i * 2, none⟩ = some e) ∧ (∃ e, w.cell? ⟨g, i * 2 + 1, none⟩ = some e) ∧ w.frozen? ⟨g, i * 2, none⟩ = false ∧ w.frozen? ⟨g, i * 2 + 1, none⟩ = false := by
  subst hL
  have hf := flat_len (k := 2) (enc := PL.cells) (fun _ => rfl) l
  have a1 := World.ownsRow.cellAt h (i * 2) (by omega)
  have a2 := World.ownsRow.cellAt h (i * 2 + 1) (by omega)
  rw [List.getElem?_eq_getElem (by rw [hf]; omega)] at a1 a2
  exact ⟨⟨_, a1⟩, ⟨_, a2⟩, World.ownsRow.frozenAt h _, World.ownsRow.frozenAt h _⟩
theorem set_fill {row : List PL} {fr k w : Nat} (x : PL) (hk : k < w) (hx : row.getD ((fr + k) % row.length) default = x) : (rot row fr k ++ List.replicate (w - k) default).set k x = rot row fr (k + 1) ++ List.replicate (w - (k + 1)) default := by
  have hl := rot_length row fr k
  obtain ⟨m, hm⟩ : ∃ m, w - k = m + 1 := ⟨w - k - 1, by omega⟩
  rw [List.set_append_right _ _ (by omega), hl, Nat.sub_self, hm, List.replicate_succ, List.set_cons_zero, show w - (k + 1) = m by omega]
  unfold rot
  rw [List.range_succ, List.map_append]
  simp [← hx]
set_option maxRecDepth 100000 in
set_option maxHeartbeats 1000000 in
theorem round_any (v : Value) (row : List PL) (fr n : Nat) (w : World) (hp : PsAt w v row) (hE : 0 < row.length) (hl : row.length ≤ 100000) (hf : fr ≤ 100000) (hn : n ≤ 100000) :
    Calls Tryz.prog 45 #[v, .int .i64 fr, .int .i64 n] w fun e w' => e = .returned (.slice (some ⟨w.heap.size, 0, none⟩) n n) ∧ OwnPs w.heap.size w' (.slice (some ⟨w.heap.size, 0, none⟩) n n) (rot row fr n) ∧ Below w.heap.size w w' := by
  have HP := Lib.hid hp
  obtain ⟨a, cap, rfl, hlen, -⟩ := hp
  obtain ⟨E, hE'⟩ : ∃ E, row.length = E := ⟨_, rfl⟩
  rw [hE'] at hlen HP hl hE ⊢
  have HE := Lib.hid hE'
  clear hE'
  obtain ⟨i0, hi, hz0, hz1, hz2⟩ := info_parts info38
  have hmk := fun w => run_make (P := Tryz.prog) w 29 40 i0 _ Tryz.underlying29 hi hz0 .i64 .i64 (n : Int) (n : Int) (by omega) (Int.le_refl _) (by rw [hz2]; omega) (by omega)
  simp only [Int.toNat_natCast, hz1, Value.cells] at hmk
  obtain ⟨W, hW⟩ : ∃ W, W = w.alloc (.cells (madeCells #[.int .i64 0, .int .u64 0] (n * 2)) 40) := ⟨_, rfl⟩
  have hST : OwnPs w.heap.size W (.slice (some ⟨w.heap.size, 0, none⟩) n n) (rot row fr 0 ++ List.replicate (n - 0) default) ∧ Chg (fun k => w.heap.size ≤ k) w W := by
    refine ⟨by rw [hW]; exact made38 w n hn, ?_⟩
    rw [hW]
    exact (Chg.refl _ w).alloc _
  have HST := Lib.hid hST
  clear hST
  subst hW
  go_enter Tryz.func45, Tryz.ntmps45
  go_wp2
  go_loopw [13] (fun i wr => ∃ k : Nat, k ≤ n ∧ i = .int .i64 (k : Nat) ∧ Hid (OwnPs w.heap.size wr (.slice (some ⟨w.heap.size, 0, none⟩) n n) (rot row fr k ++ List.replicate (n - k) default) ∧ Chg (fun k => w.heap.size ≤ k) w wr)) (fun i _ => n - (intOf i).toNat)
  case atStart => exact ⟨0, Nat.zero_le _, rfl, HST.out⟩
  case round =>
    obtain ⟨k, hk, rfl, HR⟩ := hrel
    by_cases hlt : k < n
    · have hltz : (k : Int) < (n : Int) := by omega
      have hm := Nat.mod_lt (fr + k) hE
      obtain ⟨x, hx⟩ : ∃ x, row[(fr + k) % E]? = some x := ⟨_, List.getElem?_eq_getElem (by rw [HE.out]; exact hm)⟩
      obtain ⟨r3, r4⟩ := HR.out
      have hBw : Below w.heap.size w wr := r4.below (Nat.le_refl _) fun _ h => h
      obtain ⟨b, off, rfl, hb, hc⟩ := PsAt.cell (HP.out.below hBw) hx
      obtain ⟨c0, c1⟩ := hc wr (Below.refl _ _)
      have hxd : row.getD ((fr + k) % row.length) default = x := by rw [HE.out, List.getD_eq_getElem?_getD, hx]; rfl
      have hlen2 : (rot row fr k ++ List.replicate (n - k) (default : PL)).length = n := by rw [List.length_append, rot_length, List.length_replicate]; omega
      obtain ⟨⟨e0, d0⟩, ⟨e1, d1⟩, f0, f1⟩ := r3.has hlen2 k hlt
      have HN : Hid (OwnPs w.heap.size (put2 wr w.heap.size (k * 2) x) (.slice (some ⟨w.heap.size, 0, none⟩) n n) (rot row fr (k + 1) ++ List.replicate (n - (k + 1)) default) ∧ Chg (fun k => w.heap.size ≤ k) w (put2 wr w.heap.size (k * 2) x)) :=
        ⟨by rw [← set_fill x hlt hxd]; exact r3.set hlen2 k x, put2_chg r4 _ _ _ (.inl (Nat.le_refl _))⟩
      obtain ⟨J, hJ⟩ : ∃ J, (fr + k) % E = J := ⟨_, rfl⟩
      have hJz : ((fr : Int) + (k : Int)).tmod (E : Int) = (J : Int) := by
        rw [← hJ, Int.tmod_eq_emod_of_nonneg (by omega), Int.natCast_emod, Int.natCast_add]
      rw [hJ] at c0 c1 hm
      have hJE : (J : Int) < (E : Int) := by omega
      clear hx hxd hlen2 r3 r4 HR hc hBw hb hJ
      go_wp2
      go_roundw
      case rel => exact ⟨k + 1, by omega, by go_num, HN.out⟩
      case measure => simp [intOf]; omega
    · obtain rfl : k = n := by omega
      have HD := Lib.hid (show OwnPs w.heap.size wr (.slice (some ⟨w.heap.size, 0, none⟩) k k) (rot row fr k) ∧ Below w.heap.size w wr from ⟨by have := HR.out.1; rw [Nat.sub_self, List.replicate_zero, List.append_nil] at this; exact this, HR.out.2.below (Nat.le_refl _) fun _ h => h⟩)
      clear HR
      go_wp2
      go_ret
      exact ⟨rfl, HD.out⟩
/-- has a fragment write sets of w places -/
def hasB (row : List PL) (n : Int) : Bool := decide (1 ≤ n) && decide (n ≤ (row.length : Int))
theorem hasset_any (f n : Int) (a : Option Addr) (c : Nat) (row : List PL) (w : World) : Calls Tryz.prog 44 #[.agg #[.int .u64 f, .slice a row.length c], .int .i64 n] w fun e w' => e = .returned (.bool (hasB row n)) ∧ Below w.heap.size w w' := by
  have HB := Lib.hid (Go.Joins.below_alloc1 w (.cells #[.int .u64 f, .slice a row.length c] 73))
  unfold hasB
  generalize row.length = E at HB
  by_cases h : 1 ≤ n
  · rw [decide_eq_true h]
    go_enter Tryz.func44, Tryz.ntmps44
    go_wp2
    all_goals go_ret
    all_goals exact ⟨by simp_all, HB.out⟩
  · rw [decide_eq_false h]
    go_enter Tryz.func44, Tryz.ntmps44
    go_wp2
    all_goals go_ret
    all_goals exact ⟨by simp_all, HB.out⟩
end Go.Proofs.YtpihogkhfmijcaaGreat
