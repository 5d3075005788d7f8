/- Rows of the document's files and changes: what they read as; append. -/
import Derived.Test.YticbfnflillokaaActTwo
import Derived.Laws.RangeString
import Derived.Laws.RangeAny
namespace Go.Proofs.Yticbfnflillokaa
open Go.RowKit
theorem keep_block' {I : Bks} {w W : World} {b : Nat} {o : Obj} (hk : Keep I w W) (hI : I b) (h : w.heap[b]? = some o) : W.heap[b]? = some o := by rw [hk.2 b hI (lt_of_block h)]; exact h
theorem keep_cell {I : Bks} {w W : World} {b i : Nat} (hk : Keep I w W) (hI : I b) (h : b < w.heap.size) : W.cell? ⟨b, i, none⟩ = w.cell? ⟨b, i, none⟩ := by
  simp only [World.cell?]
  rw [hk.2 b hI h]
theorem bytes_ne {a b : Bs} (h : a ≠ b) : ((⟨a.toArray⟩ : ByteArray).toList == (⟨b.toArray⟩ : ByteArray).toList) = false := by
  rw [beq_eq_false_iff_ne, ByteArray.toList_eq, ByteArray.toList_eq]
  simpa using h
theorem bytes_eq (a : Bs) : ((⟨a.toArray⟩ : ByteArray).toList == (⟨a.toArray⟩ : ByteArray).toList) = true := by simp
section
variable {α : Type} {k : Nat} {enc : α → List Value} {T : TypeId}
/-- the slice v reads as l, each of k cells, in a block of which R holds -/
def RowIn (R : Bks) (k : Nat) (enc : α → List Value) (w : World) (v : Value) (l : List α) : Prop :=
  ∃ a cap, v = .slice a l.length cap ∧ l.length ≤ 9223372036854775807 ∧ l.length ≤ cap ∧ (a = none → cap = 0) ∧ (0 < l.length → ∃ b off, a = some ⟨b, off, none⟩ ∧ b < w.heap.size ∧ R b ∧ ∀ (j : Nat) x, l[j]? = some x → ∀ r, r < k → w.cell? ⟨b, off + j * k + r, none⟩ = (enc x)[r]?)
theorem RowIn.nil (R : Bks) (w : World) : RowIn R k enc w (.slice none 0 0) [] := ⟨none, 0, rfl, by simp, by simp, fun _ => rfl, fun h => absurd h (by simp)⟩
theorem RowIn.form {R : Bks} {w : World} {v : Value} {l : List α} (h : RowIn R k enc w v l) : ∃ a cap, v = .slice a l.length cap := by obtain ⟨a, cap, rfl, _⟩ := h; exact ⟨a, cap, rfl⟩
theorem RowIn.keep {R I : Bks} {w w' : World} {v : Value} {l : List α} (h : RowIn R k enc w v l) (hk : Keep I w w') (hI : ∀ k, R k → I k) : RowIn R k enc w' v l := by
  obtain ⟨a, cap, hv, hl, hlc, hn, h⟩ := h
  refine ⟨a, cap, hv, hl, hlc, hn, fun h0 => ?_⟩
  obtain ⟨b, off, ha, hbl, hR, hc⟩ := h h0
  exact ⟨b, off, ha, Nat.lt_of_lt_of_le hbl hk.1, hR, fun j q hj r hr => by rw [keep_cell hk (hI b hR) hbl]; exact hc j q hj r hr⟩
theorem RowIn.wide {R R' : Bks} {w : World} {v : Value} {l : List α} (h : RowIn R k enc w v l) (hi : ∀ k, k < w.heap.size → R k → R' k) : RowIn R' k enc w v l := by
  obtain ⟨a, cap, hv, hl, hlc, hn, h⟩ := h
  refine ⟨a, cap, hv, hl, hlc, hn, fun h0 => ?_⟩
  obtain ⟨b, off, ha, hbl, hR, hc⟩ := h h0
  exact ⟨b, off, ha, hbl, hi b hbl hR, hc⟩
theorem flat_len (hk : ∀ x, (enc x).length = k) (l : List α) : (l.flatMap enc).length = l.length * k := by
  induction l with
  | nil => simp
  | cons p ps ih => rw [List.flatMap_cons, List.length_append, ih, hk, List.length_cons, Nat.succ_mul, Nat.add_comm]
theorem flat_at (hk : ∀ x, (enc x).length = k) : ∀ (l : List α) (i r : Nat), r < k → (l.flatMap enc)[i * k + r]? = (l[i]?).bind fun x => (enc x)[r]?
  | [], i, r, _ => by simp
  | x :: l, 0, r, h => by
    rw [List.flatMap_cons, Nat.zero_mul, Nat.zero_add, List.getElem?_append_left (by rw [hk]; exact h)]
    rfl
  | x :: l, i + 1, r, h => by
    rw [List.flatMap_cons, List.getElem?_append_right (by rw [hk, Nat.succ_mul]; omega), hk, show (i + 1) * k + r - k = i * k + r by rw [Nat.succ_mul]; omega, flat_at hk l i r h]
    rfl
/-- rows of the call's own -/
def OwnRow (T : TypeId) (k : Nat) (enc : α → List Value) (base : Nat) (w : World) (v : Value) (l : List α) : Prop := w.ownsRow base T k v l.length (l.flatMap enc)
theorem OwnRow.rowIn {base : Nat} {w : World} {v : Value} {l : List α} (hk : ∀ x, (enc x).length = k) (h : OwnRow T k enc base w v l) : RowIn (fun b => v.ownBlock = some b) k enc w v l := by
  rcases h.2 with ⟨rfl, h0⟩ | ⟨g, cap, cur, rfl, hbg, hg, hnc, hcm, hcs, htake⟩
  · obtain rfl : l = [] := List.eq_nil_of_length_eq_zero h0
    exact RowIn.nil _ _
  · rw [maxLen_eq] at hcm
    refine ⟨_, cap, rfl, by omega, hnc, (fun h => by cases h), fun _ => ⟨g, 0, rfl, (Array.getElem?_eq_some_iff.1 hg).1, rfl, fun j x hj r hr => ?_⟩⟩
    have hjl := (List.getElem?_eq_some_iff.1 hj).1
    have hlt : j * k + r < l.length * k := by
      have := Nat.mul_le_mul_right k (show j + 1 ≤ l.length by omega)
      rw [Nat.succ_mul] at this
      omega
    have := World.ownsRow.cellAt h (j * k + r) hlt
    rw [Nat.zero_add, this, flat_at hk _ _ _ hr, hj]
    rfl
theorem OwnRow.lt {base : Nat} {w : World} {v : Value} {l : List α} (h : OwnRow T k enc base w v l) : ∀ b, v.ownBlock = some b → base ≤ b ∧ b < w.heap.size := World.ownsRow.lt h
theorem OwnRow.nil (base : Nat) (w : World) : OwnRow T k enc base w (.slice none 0 0) ([] : List α) := World.ownsRow_nil _ _ _ _
theorem OwnRow.made (w : World) : OwnRow T k enc w.heap.size (w.alloc (.cells #[] T)) (.slice (some ⟨w.heap.size, 0, none⟩) 0 0) ([] : List α) := World.ownsRow_made w #[] 0 (Nat.le_refl _) (Nat.zero_le _) (by simp)
theorem OwnRow.form {base : Nat} {w : World} {v : Value} {l : List α} (h : OwnRow T k enc base w v l) : ∃ a cap, v = .slice a l.length cap := by
  rcases h.2 with ⟨rfl, h0⟩ | ⟨g, cap, cur, rfl, _⟩
  · exact ⟨none, 0, by rw [h0]⟩
  · exact ⟨_, _, rfl⟩
/-- a literal of one -/
theorem RowIn.one (w : World) (x : α) (cs : Array Value) (hcs : cs = (enc x).toArray) : RowIn (fun _ => True) k enc (w.alloc (.cells cs T)) (.slice (some ⟨w.heap.size, 0, none⟩) 1 1) [x] := by
  subst hcs
  refine ⟨_, 1, rfl, by simp, by simp, (fun h => by cases h), fun _ => ⟨w.heap.size, 0, rfl, by rw [World.size_alloc]; omega, trivial, fun j y hj r _ => ?_⟩⟩
  cases j with
  | succ j => simp at hj
  | zero =>
    simp at hj
    subst hj
    rw [World.cell?_alloc_new]
    simp
theorem wpList_append_rows {w : World} {ops : Array Oper} {rest : List Oper} {o : Oper} {a : Act} {Q : Exit → Act → World → Prop} (hgd : o.guard = none) (s x : Operand) (S T : TypeId) (k bytes : Nat) (z : Value) (enc : α → List Value)
    (ho : o.op = .call { callee := .builtin .append, args := #[s, x], argTypes := #[S, S] }) (hU : Try.prog.underlying S = some (.slice T)) (hI : (Try.prog.info? T).map (fun i => (i.zero, i.size, i.bytes)) = some (some z, k, bytes)) (hzc : z.cells.size = k) (hk0 : 0 < k) (hby : bytes ≤ 1000)
    (hk : ∀ x, (enc x).length = k) (base : Nat) (v u : Value) (n l : List α) (R : Bks) (hs : a.eval s = v) (hx : a.eval x = u)
    (hown : OwnRow T k enc base w v n) (hb : RowIn R k enc w u l) (hone : ∀ u ∈ l.flatMap enc, u.oneCell' = true) (hsmall : n.length + l.length ≤ 1000000) (hbase : base ≤ w.heap.size)
    (h : ∀ v' w', OwnRow T k enc base w' v' (n ++ l) → w.grownBy w' v.ownBlock → wpList Try.prog ops Q rest (a.put o.dst v') w') : wpList Try.prog ops Q (o :: rest) a w := by
  obtain ⟨i0, hi, hz0, hz1, hz2⟩ := info_parts hI
  obtain ⟨ad, cap, rfl, _, hlc, hn, hc⟩ := hb
  cases ad with
  | none =>
    have := hn rfl
    obtain rfl : l = [] := List.eq_nil_of_length_eq_zero (by omega)
    subst this
    exact wpList_append_own_none hgd s x S ho base T i0 k hU hi v n.length (n.flatMap enc) hs hown hx (h v w (by rw [List.append_nil]; exact hown) (World.grownBy.refl _ _))
  | some ad =>
    refine wpList_plain hgd fun K hK => ?_
    have hnews : ∀ (j : Nat) u, (l.flatMap enc)[j]? = some u → w.cell? (ad.add j) = some u := by
      intro j u hj
      have hjl := (List.getElem?_eq_some_iff.1 hj).1
      rw [flat_len hk] at hjl
      have hl0 : 0 < l.length := by
        rcases Nat.eq_zero_or_pos l.length with h0 | h0
        · rw [h0] at hjl; omega
        · exact h0
      obtain ⟨b, off, hab, _, _, hc2⟩ := hc hl0
      cases hab
      have hd : j / k * k + j % k = j := by rw [Nat.mul_comm]; exact Nat.div_add_mod j k
      rw [← hd, flat_at hk _ _ _ (Nat.mod_lt _ hk0)] at hj
      obtain ⟨x, hx, hxr⟩ := Option.bind_eq_some_iff.1 hj
      rw [Addr.add_lit, ← hd, ← Nat.add_assoc, hc2 (j / k) x hx _ (Nat.mod_lt _ hk0)]
      exact hxr
    have hb1 : (n.length + l.length) * bytes ≤ 1000000 * 1000 := Nat.mul_le_mul hsmall hby
    have hb2 : (n.length + l.length + (n.length + l.length) / 4 + 192) * bytes ≤ 2000000 * 1000 := Nat.mul_le_mul (by omega) hby
    obtain ⟨v', w', hr, h2, h3, _⟩ := run_append_own_wide (P := Try.prog) w base S o.type T i0 z k bytes hU hi hz0 hz1 hz2 hzc hk0 v n.length (n.flatMap enc) hown ad l.length cap (l.flatMap enc) (flat_len hk l) hnews hone (by unfold maxLen; omega) (by omega) hbase
    have h2' : OwnRow T k enc base w' v' (n ++ l) := by
      unfold OwnRow
      rw [List.length_append, List.flatMap_append]
      exact h2
    unfold Oper.wp execOp
    simp only [ho, resolve, invoke, builtin, Sem.run_bind, Sem.run_pure, Result.andThen_ok, List.map_toArray, List.map_cons, List.map_nil, hs, hx, hr]
    exact hK _ _ (h v' w' h2' h3)
end
/-- a file, as it lies in memory -/
structure FV where
  n : Bs
  b : Bs
  a : Option Addr
  c : Nat
def FV.u (x : FV) : Value := .slice x.a x.b.length x.c
def FV.enc (x : FV) : List Value := [.string ⟨x.n.toArray⟩, x.u]
def FV.kv (x : FV) : Bs × Bs := (x.n, x.b)
/-- the slice v reads as the files l, all of it in blocks of which R holds -/
def FilesIn (R : Bks) (w : World) (v : Value) (l : List FV) : Prop := RowIn R 2 FV.enc w v l ∧ ∀ x ∈ l, BytesIn R w x.u x.b
theorem FilesIn.keep {R I : Bks} {w w' : World} {v : Value} {l : List FV} (h : FilesIn R w v l) (hk : Keep I w w') (hI : ∀ k, R k → I k) : FilesIn R w' v l := ⟨h.1.keep hk hI, fun x hx => (h.2 x hx).keep hk hI⟩
theorem FilesIn.below {R : Bks} {w w' : World} {v : Value} {l : List FV} (h : FilesIn R w v l) (hb : Below w.heap.size w w') : FilesIn R w' v l := h.keep (I := fun _ => True) ⟨hb.size, fun k _ hl => hb.block k hl⟩ fun _ _ => trivial
theorem FilesIn.wide {R R' : Bks} {w : World} {v : Value} {l : List FV} (h : FilesIn R w v l) (hi : ∀ k, k < w.heap.size → R k → R' k) : FilesIn R' w v l := ⟨h.1.wide hi, fun x hx => (h.2 x hx).wide hi⟩
theorem FilesIn.nil (R : Bks) (w : World) : FilesIn R w (.slice none 0 0) [] := ⟨RowIn.nil _ _, fun _ h => by cases h⟩
theorem info89 : (Try.prog.info? 89).map (fun i => (i.zero, i.size, i.bytes)) = some (some (.agg #[.string ByteArray.empty, .slice none 0 0]), 2, 40) := by kernel_rfl
theorem info84 : (Try.prog.info? 84).map (fun i => (i.zero, i.size, i.bytes)) = some (some (.agg #[.int .i64 0, .string ByteArray.empty, .string ByteArray.empty, .slice none 0 0]), 4, 64) := by kernel_rfl
theorem FV.one (x : FV) : ∀ u ∈ [x].flatMap FV.enc, u.oneCell' = true := by
  intro u hu
  simp [FV.enc, FV.u] at hu
  rcases hu with rfl | rfl <;> rfl
/-- a change, as it lies in memory -/
structure CV where
  o : Int
  n : Bs
  t : Bs
  b : Bs
  a : Option Addr
  c : Nat
def CV.u (x : CV) : Value := .slice x.a x.b.length x.c
def CV.enc (x : CV) : List Value := [.int .i64 x.o, .string ⟨x.n.toArray⟩, .string ⟨x.t.toArray⟩, x.u]
def CV.ch (x : CV) : Ch := if x.o = 0 then .app x.n x.b else if x.o = 1 then .put x.n x.b else if x.o = 2 then .ren x.n x.t else .rem x.n
/-- one that may wait -/
def CV.ok (x : CV) : Prop := (0 ≤ x.o ∧ x.o ≤ 3) ∧ (x.o = 2 → x.n ≠ x.t) ∧ x.b.length ≤ 100000
def ChsIn (R : Bks) (w : World) (v : Value) (l : List CV) : Prop := RowIn R 4 CV.enc w v l ∧ ∀ x ∈ l, BytesIn R w x.u x.b ∧ x.ok
theorem ChsIn.keep {R I : Bks} {w w' : World} {v : Value} {l : List CV} (h : ChsIn R w v l) (hk : Keep I w w') (hI : ∀ k, R k → I k) : ChsIn R w' v l := ⟨h.1.keep hk hI, fun x hx => ⟨(h.2 x hx).1.keep hk hI, (h.2 x hx).2⟩⟩
theorem ChsIn.wide {R R' : Bks} {w : World} {v : Value} {l : List CV} (h : ChsIn R w v l) (hi : ∀ k, k < w.heap.size → R k → R' k) : ChsIn R' w v l := ⟨h.1.wide hi, fun x hx => ⟨(h.2 x hx).1.wide hi, (h.2 x hx).2⟩⟩
theorem ChsIn.nil (R : Bks) (w : World) : ChsIn R w (.slice none 0 0) [] := ⟨RowIn.nil _ _, fun _ h => by cases h⟩
theorem CV.one (l : List CV) : ∀ u ∈ l.flatMap CV.enc, u.oneCell' = true := by
  intro u hu
  obtain ⟨x, _, hx⟩ := List.mem_flatMap.1 hu
  simp [CV.enc, CV.u] at hx
  rcases hx with rfl | rfl | rfl | rfl <;> rfl
end Go.Proofs.Yticbfnflillokaa
