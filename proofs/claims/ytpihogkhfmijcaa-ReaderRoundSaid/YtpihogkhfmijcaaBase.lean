/- What a call changes; what rows read as; append of rows; places. -/
import Derived.Test.YtpihogkhfmijcaaProg
import Derived.WalkKit
import Derived.WalkSpells
import Derived.WalkLawsBesides
import Derived.RegionTactic
import Derived.RegionCalls
import Derived.Deep.RegionWith
import Derived.BigQuiet
import Derived.Outline
import Derived.Lib.Hide
import Derived.Lib.SmallJoins
import Derived.OneCell
import Derived.Deep.DeepAppendWide
import Derived.Laws.AppendOwnNone
import Derived.Laws.Rows
namespace Go.Proofs.Ytpihogkhfmijcaa
open Go.RowKit
theorem maxLen_eq : maxLen = 9223372036854775807 := rfl
/-- w' is w with more blocks, and with other cells in the blocks S alone -/
structure Chg (S : Nat → Prop) (w w' : World) : Prop where
  os : w'.os = w.os
  tape : w'.tape = w.tape
  output : w'.output = w.output
  size : w.heap.size ≤ w'.heap.size
  block : ∀ k, k < w.heap.size → ¬ S k → w'.heap[k]? = w.heap[k]?
theorem Chg.refl (S : Nat → Prop) (w : World) : Chg S w w := ⟨rfl, rfl, rfl, Nat.le_refl _, fun _ _ _ => rfl⟩
/-- one change behind another -/
theorem Chg.then {S S' : Nat → Prop} {a b c : World} (h : Chg S a b) (k : Chg S' b c) (hs : ∀ i, S' i → S i ∨ a.heap.size ≤ i) : Chg S a c :=
  ⟨k.os.trans h.os, k.tape.trans h.tape, k.output.trans h.output, Nat.le_trans h.size k.size, fun i hi hn => (k.block i (Nat.lt_of_lt_of_le hi h.size) fun hm => by rcases hs i hm with h' | h'; exact hn h'; omega).trans (h.block i hi hn)⟩
theorem Chg.trans {S : Nat → Prop} {a b c : World} (h : Chg S a b) (k : Chg S b c) : Chg S a c := h.then k fun _ h => .inl h
theorem Chg.mono {S S' : Nat → Prop} {a b : World} (h : Chg S a b) (hs : ∀ k, S k → S' k ∨ a.heap.size ≤ k) : Chg S' a b := (Chg.refl S' a).then h hs
theorem Chg.of_below {B : Nat} {S : Nat → Prop} {a b : World} (h : Below B a b) (hB : a.heap.size ≤ B) : Chg S a b := ⟨h.os, h.tape, h.output, h.size, fun k hk _ => h.block k (by omega)⟩
theorem Chg.below {S : Nat → Prop} {a b : World} (h : Chg S a b) {B : Nat} (hB : B ≤ a.heap.size) (hs : ∀ k, S k → B ≤ k) : Below B a b :=
  ⟨h.os, h.tape, h.output, h.size, fun k hk => h.block k (by omega) fun hm => by have := hs k hm; omega⟩
theorem Chg.alloc {S : Nat → Prop} {a w : World} (h : Chg S a w) (o : Obj) : Chg S a (w.alloc o) :=
  h.then (S' := fun _ => False) (Chg.of_below ((Below.refl _ w).alloc (Nat.le_refl _) o) (Nat.le_refl _)) (fun _ h => h.elim)
theorem Chg.drew {S : Nat → Prop} {a w : World} (h : Chg S a w) : Chg S a w.drew := ⟨h.os, h.tape, h.output, h.size, h.block⟩
theorem Chg.drewN {S : Nat → Prop} {a w : World} (h : Chg S a w) (n : Nat) : Chg S a (w.drewN n) := ⟨h.os, h.tape, h.output, h.size, h.block⟩
theorem Chg.setCell {S : Nat → Prop} {a w : World} (h : Chg S a w) {p : Addr} (hp : S p.block ∨ a.heap.size ≤ p.block) (v : Value) : Chg S a (w.setCell p v) :=
  h.then (S' := fun k => k = p.block) ⟨rfl, rfl, rfl, by simp [World.setCell], fun k _ hn => Below.heap_setCell _ _ _ _ hn⟩ (fun i hi => by rw [hi]; exact hp)
theorem Chg.grown {S : Nat → Prop} {a w w' : World} {row : Option Nat} (h : Chg S a w) (hg : w.grownBy w' row) (hr : ∀ k, row = some k → S k ∨ a.heap.size ≤ k) : Chg S a w' :=
  h.then (S' := fun k => row = some k) ⟨hg.os, hg.tape, hg.output, hg.size, fun k hk hn => hg.block k hk (fun e => hn e.symm)⟩ (fun i hi => hr i hi)
theorem Chg.heap {S : Nat → Prop} {w w' : World} (h : Chg S w w') {k : Nat} {o : Obj} (ho : w.heap[k]? = some o) (hn : ¬ S k) : w'.heap[k]? = some o := by
  rw [h.block k (lt_of_block ho) hn]; exact ho

/-- the slice v reads as l, each of k cells -/
def RowAt {α : Type} (P : World → α → Prop) (k : Nat) (enc : α → List Value) (w : World) (v : Value) (l : List α) : Prop :=
  ∃ a cap, v = .slice a l.length cap ∧ l.length ≤ 9223372036854775807 ∧ l.length ≤ cap ∧ (a = none → cap = 0) ∧ (0 < l.length → ∃ b off, a = some ⟨b, off, none⟩ ∧ b < w.heap.size ∧ ∀ (j : Nat) x, l[j]? = some x → P w x ∧ ∀ r, r < k → w.cell? ⟨b, off + j * k + r, none⟩ = (enc x)[r]?)
theorem RowAt.below {α : Type} {P : World → α → Prop} {k : Nat} {enc : α → List Value} {w w' : World} {v : Value} {l : List α} (h : RowAt P k enc w v l) (hb : Below w.heap.size w w') (hP : ∀ x, P w x → P w' x) : RowAt P k enc w' v l := by
  obtain ⟨a, cap, hv, hl, hlc, hn, h⟩ := h
  refine ⟨a, cap, hv, hl, hlc, hn, fun h0 => ?_⟩
  obtain ⟨b, off, ha, hbl, hc⟩ := h h0
  refine ⟨b, off, ha, by have := hb.size; omega, fun j q hj => ?_⟩
  obtain ⟨hok, hr⟩ := hc j q hj
  exact ⟨hP _ hok, fun r hr' => by rw [hb.cell (show (⟨b, off + j * k + r, none⟩ : Addr).block < _ from hbl)]; exact hr r hr'⟩
section
variable {α : Type} {P : World → α → Prop} {k : Nat} {enc : α → List Value} {T : TypeId}
theorem flat_len (hk : ∀ x, (enc x).length = k) (l : List α) : (l.flatMap enc).length = l.length * k := by
  induction l with
  | nil => simp
  | cons p ps ih => rw [List.flatMap_cons, List.length_append, ih, hk, List.length_cons, Nat.succ_mul, Nat.add_comm]
theorem flat_at (hk : ∀ x, (enc x).length = k) : ∀ (l : List α) (i r : Nat), r < k → (l.flatMap enc)[i * k + r]? = (l[i]?).bind fun x => (enc x)[r]?
  | [], i, r, _ => by simp
  | x :: l, 0, r, h => by
    rw [List.flatMap_cons, Nat.zero_mul, Nat.zero_add, List.getElem?_append_left (by rw [hk]; exact h)]
    rfl
  | x :: l, i + 1, r, h => by
    rw [List.flatMap_cons, List.getElem?_append_right (by rw [hk, Nat.succ_mul]; omega), hk, show (i + 1) * k + r - k = i * k + r by rw [Nat.succ_mul]; omega, flat_at hk l i r h]
    rfl
/-- rows of the call's own -/
def OwnRow (T : TypeId) (k : Nat) (enc : α → List Value) (base : Nat) (w : World) (v : Value) (l : List α) : Prop := w.ownsRow base T k v l.length (l.flatMap enc)
theorem OwnRow.at {base : Nat} {w : World} {v : Value} {l : List α} (hk : ∀ x, (enc x).length = k) (h : OwnRow T k enc base w v l) (hP : ∀ x ∈ l, P w x) : RowAt P k enc w v l := by
  rcases h.2 with ⟨rfl, h0⟩ | ⟨g, cap, cur, rfl, hbg, hg, hnc, hcm, hcs, htake⟩
  · obtain rfl : l = [] := List.eq_nil_of_length_eq_zero h0
    exact ⟨none, 0, rfl, by simp, by simp, fun _ => rfl, fun h => absurd h (by simp)⟩
  · rw [maxLen_eq] at hcm
    refine ⟨_, cap, rfl, by omega, hnc, (fun h => by cases h), fun _ => ⟨g, 0, rfl, (Array.getElem?_eq_some_iff.1 hg).1, fun j x hj => ⟨hP x (List.mem_of_getElem? hj), fun r hr => ?_⟩⟩⟩
    have hjl := (List.getElem?_eq_some_iff.1 hj).1
    have hlt : j * k + r < l.length * k := by
      have := Nat.mul_le_mul_right k (show j + 1 ≤ l.length by omega)
      rw [Nat.succ_mul] at this
      omega
    have := World.ownsRow.cellAt h (j * k + r) hlt
    rw [Nat.zero_add, this, flat_at hk _ _ _ hr, hj]
    rfl
theorem OwnRow.lt {base : Nat} {w : World} {v : Value} {l : List α} (h : OwnRow T k enc base w v l) : ∀ b, v.ownBlock = some b → base ≤ b ∧ b < w.heap.size := World.ownsRow.lt h
theorem OwnRow.made (w : World) : OwnRow T k enc w.heap.size (w.alloc (.cells #[] T)) (.slice (some ⟨w.heap.size, 0, none⟩) 0 0) [] := World.ownsRow_made w #[] 0 (Nat.le_refl _) (Nat.zero_le _) (by simp)
theorem wpList_append_rows {w : World} {ops : Array Oper} {rest : List Oper} {o : Oper} {a : Act} {Q : Exit → Act → World → Prop} (hgd : o.guard = none) (s x : Operand) (S T : TypeId) (k bytes : Nat) (z : Value) (enc : α → List Value)
    (ho : o.op = .call { callee := .builtin .append, args := #[s, x], argTypes := #[S, S] }) (hU : Try.prog.underlying S = some (.slice T)) (hI : (Try.prog.info? T).map (fun i => (i.zero, i.size, i.bytes)) = some (some z, k, bytes)) (hzc : z.cells.size = k) (hk0 : 0 < k) (hby : bytes ≤ 1000)
    (hk : ∀ x, (enc x).length = k) (base : Nat) (v u : Value) (n l : List α) (hs : a.eval s = v) (hx : a.eval x = u)
    (hown : OwnRow T k enc base w v n) (hb : RowAt P k enc w u l) (hone : ∀ u ∈ l.flatMap enc, u.oneCell' = true) (hsmall : n.length + l.length ≤ 1000000) (hbase : base ≤ w.heap.size)
    (h : ∀ v' w', OwnRow T k enc base w' v' (n ++ l) → w.grownBy w' v.ownBlock → wpList Try.prog ops Q rest (a.put o.dst v') w') : wpList Try.prog ops Q (o :: rest) a w := by
  obtain ⟨i0, hi, hz0, hz1, hz2⟩ := info_parts hI
  obtain ⟨ad, cap, rfl, _, hlc, hn, hc⟩ := hb
  cases ad with
  | none =>
    have := hn rfl
    obtain rfl : l = [] := List.eq_nil_of_length_eq_zero (by omega)
    subst this
    exact wpList_append_own_none hgd s x S ho base T i0 k hU hi v n.length (n.flatMap enc) hs hown hx (h v w (by rw [List.append_nil]; exact hown) (World.grownBy.refl _ _))
  | some ad =>
    refine wpList_plain hgd fun K hK => ?_
    have hnews : ∀ (j : Nat) u, (l.flatMap enc)[j]? = some u → w.cell? (ad.add j) = some u := by
      intro j u hj
      have hjl := (List.getElem?_eq_some_iff.1 hj).1
      rw [flat_len hk] at hjl
      have hl0 : 0 < l.length := by
        rcases Nat.eq_zero_or_pos l.length with h0 | h0
        · rw [h0] at hjl; omega
        · exact h0
      obtain ⟨b, off, hab, _, hc2⟩ := hc hl0
      cases hab
      have hd : j / k * k + j % k = j := by rw [Nat.mul_comm]; exact Nat.div_add_mod j k
      rw [← hd, flat_at hk _ _ _ (Nat.mod_lt _ hk0)] at hj
      obtain ⟨x, hx, hxr⟩ := Option.bind_eq_some_iff.1 hj
      rw [Addr.add_lit, ← hd, ← Nat.add_assoc, (hc2 (j / k) x hx).2 _ (Nat.mod_lt _ hk0)]
      exact hxr
    have hb1 : (n.length + l.length) * bytes ≤ 1000000 * 1000 := Nat.mul_le_mul hsmall hby
    have hb2 : (n.length + l.length + (n.length + l.length) / 4 + 192) * bytes ≤ 2000000 * 1000 := Nat.mul_le_mul (by omega) hby
    obtain ⟨v', w', hr, h2, h3, _⟩ := run_append_own_wide (P := Try.prog) w base S o.type T i0 z k bytes hU hi hz0 hz1 hz2 hzc hk0 v n.length (n.flatMap enc) hown ad l.length cap (l.flatMap enc) (flat_len hk l) hnews hone (by unfold maxLen; omega) (by omega) hbase
    have h2' : OwnRow T k enc base w' v' (n ++ l) := by
      unfold OwnRow
      rw [List.length_append, List.flatMap_append]
      exact h2
    unfold Oper.wp execOp
    simp only [ho, resolve, invoke, builtin, Sem.run_bind, Sem.run_pure, Result.andThen_ok, List.map_toArray, List.map_cons, List.map_nil, hs, hx, hr]
    exact hK _ _ (h v' w' h2' h3)
end
theorem OwnRow.chg {α : Type} {k : Nat} {enc : α → List Value} {T : TypeId} {base : Nat} {w w' : World} {v : Value} {l : List α} {S : Nat → Prop} (h : OwnRow T k enc base w v l) (hc : Chg S w w') (hS : ∀ k, v.ownBlock = some k → ¬ S k) : OwnRow T k enc base w' v l := by
  refine ⟨h.1, ?_⟩
  rcases h.2 with h2 | ⟨g, cap, cur, rfl, hbg, hg, r⟩
  · exact .inl h2
  · exact .inr ⟨g, cap, cur, rfl, hbg, hc.heap hg (hS g rfl), r⟩
/-- a place -/
structure PL where
  n : Int
  s : Int
theorem PL.ext' {a b : PL} (h1 : a.n = b.n) (h2 : a.s = b.s) : a = b := by
  cases a; cases b; simp at h1 h2; subst h1 h2; rfl
instance : DecidableEq PL := fun a b =>
  if h : a.n = b.n ∧ a.s = b.s then .isTrue (PL.ext' h.1 h.2) else .isFalse fun e => h (by subst e; exact ⟨rfl, rfl⟩)
instance : Inhabited PL := ⟨⟨0, 0⟩⟩
def PL.ok (p : PL) : Prop := (-9223372036854775808 ≤ p.n ∧ p.n ≤ 9223372036854775807) ∧ (0 ≤ p.s ∧ p.s ≤ 18446744073709551615)
def PL.cells (p : PL) : List Value := [.int .i64 p.n, .int .u64 p.s]
abbrev PL.val (p : PL) : Value := .agg #[.int .i64 p.n, .int .u64 p.s]
abbrev PsAt (w : World) (v : Value) (l : List PL) : Prop := RowAt (fun _ p => p.ok) 2 PL.cells w v l
abbrev OwnPs (base : Nat) (w : World) (v : Value) (l : List PL) : Prop := OwnRow 38 2 PL.cells base w v l
abbrev IntsAt (w : World) (v : Value) (l : List Int) : Prop := RowAt (fun _ x => -9223372036854775808 ≤ x ∧ x ≤ 9223372036854775807) 1 (fun x => [.int .i64 x]) w v l
theorem PsAt.below {w w' : World} {v : Value} {l : List PL} (h : PsAt w v l) (hb : Below w.heap.size w w') : PsAt w' v l := RowAt.below h hb fun _ h => h
theorem IntsAt.below {w w' : World} {v : Value} {l : List Int} (h : IntsAt w v l) (hb : Below w.heap.size w w') : IntsAt w' v l := RowAt.below h hb fun _ h => h
theorem PsAt.ok {w : World} {v : Value} {l : List PL} (h : PsAt w v l) : ∀ x ∈ l, x.ok := by
  intro q hq
  obtain ⟨j, hj⟩ := List.getElem?_of_mem hq
  obtain ⟨a, cap, _, _, _, _, h⟩ := h
  obtain ⟨b, off, _, _, h⟩ := h (by cases l with | nil => cases hq | cons => simp)
  exact (h j q hj).1
/-- the cells of one of a row -/
theorem PsAt.cell {w : World} {a : Option Addr} {n cap : Nat} {l : List PL} (h : PsAt w (.slice a n cap) l) {j : Nat} {x : PL} (hx : l[j]? = some x) : ∃ b off, a = some ⟨b, off, none⟩ ∧ b < w.heap.size ∧ ∀ W, Below w.heap.size w W → W.cell? ⟨b, off + j * 2, none⟩ = some (.int .i64 x.n) ∧ W.cell? ⟨b, off + j * 2 + 1, none⟩ = some (.int .u64 x.s) := by
  obtain ⟨a', cap', hv, _, _, _, h⟩ := h
  cases hv
  obtain ⟨b, off, rfl, hb, h⟩ := h (by have := (List.getElem?_eq_some_iff.1 hx).1; omega)
  refine ⟨b, off, rfl, hb, fun W hW => ⟨?_, ?_⟩⟩
  · rw [hW.cell (show (⟨b, off + j * 2, none⟩ : Addr).block < _ from hb)]; exact (h j x hx).2 0 (by omega)
  · rw [hW.cell (show (⟨b, off + j * 2 + 1, none⟩ : Addr).block < _ from hb)]; exact (h j x hx).2 1 (by omega)
theorem PsAt.form {w : World} {v : Value} {l : List PL} (h : PsAt w v l) : ∃ a cap, v = .slice a l.length cap ∧ l.length ≤ 9223372036854775807 ∧ l.length ≤ cap ∧ (a = none → cap = 0) := by
  obtain ⟨a, cap, hv, h1, h2, h3, _⟩ := h
  exact ⟨a, cap, hv, h1, h2, h3⟩
theorem OwnPs.at {base : Nat} {w : World} {v : Value} {l : List PL} (h : OwnPs base w v l) (hok : ∀ x ∈ l, x.ok) : PsAt w v l := OwnRow.at (fun _ => rfl) h hok
theorem info38 : (Try.prog.info? 38).map (fun i => (i.zero, i.size, i.bytes)) = some (some (.agg #[.int .i64 0, .int .u64 0]), 2, 16) := by kernel_rfl
theorem ps_oneCell (l : List PL) : ∀ u ∈ l.flatMap PL.cells, u.oneCell' = true := by
  intro u hu
  obtain ⟨x, _, hx⟩ := List.mem_flatMap.1 hu
  simp only [PL.cells, List.mem_cons, List.not_mem_nil, or_false] at hx
  rcases hx with rfl | rfl <;> rfl
theorem OwnPs.kept {base B : Nat} {w w' : World} {v : Value} {l : List PL} (h : OwnPs base w v l) (hb : Below B w w') (hB : w.heap.size ≤ B) : OwnPs base w' v l :=
  OwnRow.chg h (Chg.of_below (S := fun _ => False) hb hB) (fun _ _ h => h)
theorem OwnPs.own {base : Nat} {w : World} {v : Value} {l : List PL} (h : OwnPs base w v l) : ∀ k, v.ownBlock = some k → base ≤ k := fun k hk => (OwnRow.lt h k hk).1
theorem OwnPs.made (w : World) (base : Nat) (hb : base ≤ w.heap.size) : OwnPs base (w.alloc (.cells #[] 38)) (.slice (some ⟨w.heap.size, 0, none⟩) 0 0) [] := World.ownsRow_made w #[] 0 hb (Nat.zero_le _) (by simp)
theorem OwnPs.base_le {base base' : Nat} {w : World} {v : Value} {l : List PL} (h : OwnPs base w v l) (hb : base' ≤ base) : OwnPs base' w v l := Go.Joins.ownsRow_le h hb
end Go.Proofs.Ytpihogkhfmijcaa
