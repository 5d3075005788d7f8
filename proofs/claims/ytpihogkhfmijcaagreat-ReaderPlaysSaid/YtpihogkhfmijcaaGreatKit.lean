/- Boxes of cells, own rows, bytes, one more behind a row. -/
import Derived.Test.YtpihogkhfmijcaaGreatPc
import Derived.Test.YtpihogkhfmijcaaGreatPb
namespace Go.Proofs.YtpihogkhfmijcaaGreat
open Go.RowKit Go.Maps Go.Shelf
def i64ok (n : Int) : Prop := -9223372036854775808 ≤ n ∧ n ≤ 9223372036854775807
def ab (a : Option Addr) : Option Nat := a.map Addr.block
def byC (x : Int) : List Value := [.int .u8 x]
abbrev BsAt (w : World) (v : Value) (l : List Int) : Prop := RowAt (fun _ x => 0 ≤ x ∧ x ≤ 255) 1 byC w v l
theorem BsAt.below {w w' : World} {v : Value} {l : List Int} (h : BsAt w v l) (hb : Below w.heap.size w w') : BsAt w' v l := RowAt.below h hb fun _ h => h
theorem RowAt.nil {α : Type} {P : World → α → Prop} {k : Nat} {enc : α → List Value} (w : World) : RowAt P k enc w (.slice none 0 0) [] := ⟨none, 0, rfl, by simp, by simp, fun _ => rfl, fun h => absurd h (by simp)⟩
/-- a row stays where its block stays -/
theorem RowAt.frame {α : Type} {P P' : World → α → Prop} {k : Nat} {enc : α → List Value} {w w' : World} {a : Option Addr} {n c : Nat} {l : List α} (h : RowAt P k enc w (.slice a n c) l) (hs : w.heap.size ≤ w'.heap.size) (hb : ∀ b, ab a = some b → b < w.heap.size → w'.heap[b]? = w.heap[b]?) (hP : ∀ x ∈ l, P w x → P' w' x) : RowAt P' k enc w' (.slice a n c) l := by
  have he := RowAt.each h
  obtain ⟨a', cap, hv, hl, hlc, hn, h⟩ := h
  cases hv
  refine ⟨a, c, rfl, hl, hlc, hn, fun h0 => ?_⟩
  obtain ⟨b, off, rfl, hbl, hc⟩ := h h0
  refine ⟨b, off, rfl, by omega, fun j q hj => ?_⟩
  obtain ⟨hok, hr⟩ := hc j q hj
  exact ⟨hP _ (List.mem_of_getElem? hj) hok, fun r hr' => by rw [← hr r hr']; exact World.cell?_of_block (hb b rfl hbl)⟩
theorem OwnRow.form {α : Type} {k : Nat} {enc : α → List Value} {T : TypeId} {base : Nat} {w : World} {v : Value} {l : List α} (h : OwnRow T k enc base w v l) : ∃ a c, v = .slice a l.length c := by
  rcases h.2 with ⟨rfl, h0⟩ | ⟨g, cap, cur, rfl, _⟩
  · exact ⟨none, 0, by rw [h0]⟩
  · exact ⟨_, _, rfl⟩
theorem info32 : (Tryz.prog.info? 73).map (fun i => (i.zero, i.size, i.bytes)) = some (some (.agg #[.int .u64 0, .slice none 0 0]), 2, 32) := by kernel_rfl
theorem info5 : (Tryz.prog.info? 5).map (fun i => (i.zero, i.size, i.bytes)) = some (some (.int .u8 0), 1, 1) := by kernel_rfl
theorem fs_oneCell (l : List FV) : ∀ u ∈ l.flatMap FV.cells, u.oneCell' = true := by
  intro u hu
  obtain ⟨x, _, hx⟩ := List.mem_flatMap.1 hu
  simp only [FV.cells, List.mem_cons, List.not_mem_nil, or_false] at hx
  rcases hx with rfl | rfl <;> rfl
theorem bs_oneCell (l : List Int) : ∀ u ∈ l.flatMap byC, u.oneCell' = true := by
  intro u hu
  obtain ⟨x, _, hx⟩ := List.mem_flatMap.1 hu
  simp only [byC, List.mem_cons, List.not_mem_nil, or_false] at hx
  subst hx
  rfl
set_option maxRecDepth 100000 in
theorem bclone_any (v : Value) (l : List Int) (w : World) (hp : RowAt (fun _ x => 0 ≤ x ∧ x ≤ 255) 1 byC w v l) (hl : l.length ≤ 100000) :
    Calls Tryz.prog 65 #[v] w fun e w' => ∃ a' c', e = .returned (.slice a' l.length c') ∧ OwnRow 5 1 byC w.heap.size w' (.slice a' l.length c') l ∧ Below w.heap.size w w' := by
  have HP := Lib.hid hp
  have HONE := Lib.hid (bs_oneCell l)
  obtain ⟨ad, cap, rfl, -, hlc, hn⟩ := RowAt.form hp
  clear hp
  cases ad with
  | none =>
    have := hn rfl
    obtain rfl : l = [] := List.eq_nil_of_length_eq_zero (by omega)
    obtain rfl : cap = 0 := this
    have k := fun wx => Lib.run_eql_slice_nil (P := Tryz.prog) wx 30 5 none 0 0 0 0 Tryz.underlying30
    go_enter Tryz.func65, Tryz.ntmps65
    go_wp2
    go_ret
    exact ⟨_, _, rfl, World.ownsRow_nil _ _ _ _, Below.refl _ _⟩
  | some ad =>
    have k := fun wx => Lib.run_eql_slice_nil (P := Tryz.prog) wx 30 5 (some ad) l.length cap 0 0 Tryz.underlying30
    have BA := Go.Joins.below_alloc1 w (.cells #[] 5)
    have HO := Lib.hid (show OwnRow 5 1 byC w.heap.size (w.alloc (.cells #[] 5)) (.slice (some ⟨w.heap.size, 0, none⟩) 0 0) [] ∧ RowAt (fun _ x => 0 ≤ x ∧ x ≤ 255) 1 byC (w.alloc (.cells #[] 5)) (.slice (some ad) l.length cap) l ∧ Below w.heap.size w (w.alloc (.cells #[] 5)) from ⟨OwnRow.made w, RowAt.below HP.out BA (fun _ hx => hx), BA⟩)
    clear hlc hn
    go_enter Tryz.func65, Tryz.ntmps65
    go_wp2_with (at_builtin; refine wpList_append_rows rfl _ _ 30 5 1 1 _ byC rfl Tryz.underlying30 info5 rfl (by decide) (by decide) (fun _ => rfl) w.heap.size _ _ [] l rfl rfl HO.out.1 HO.out.2.1 HONE.out (by simp; omega) HO.out.2.2.size ?_; intro v2 w2 ho2 hg2; have HO2 := Lib.hid ho2; have B2 := Lib.hid (HO.out.2.2.grown hg2 HO.out.2.2.size (fun k hk => (OwnRow.lt HO.out.1 k hk).1)); clear ho2 hg2)
    go_ret
    obtain ⟨va, vc, rfl⟩ := OwnRow.form HO2.out
    exact ⟨_, _, rfl, HO2.out, B2.out⟩
section
variable {α : Type} {k : Nat} {enc : α → List Value} {T : TypeId} {base : Nat} {w : World}
theorem OwnRow.kept {base' : Nat} {w' : World} {v : Value} {l : List α} (h : OwnRow T k enc base w v l) (hb : Below base' w w') (hB : w.heap.size ≤ base') : OwnRow T k enc base w' v l :=
  OwnRow.chg h (Chg.of_below (S := fun _ => False) hb hB) (fun _ _ h => h)
end
theorem ownBlock_ab (a : Option Addr) (n c : Nat) : (Value.slice a n c).ownBlock = ab a := by cases a <;> rfl
theorem OwnRow.ab {α : Type} {k : Nat} {enc : α → List Value} {T : TypeId} {base : Nat} {w : World} {a : Option Addr} {n c : Nat} {l : List α} (h : OwnRow T k enc base w (.slice a n c) l) : ∀ x, Go.Proofs.YtpihogkhfmijcaaGreat.ab a = some x → base ≤ x ∧ x < w.heap.size := fun x hx => OwnRow.lt h x (by rw [ownBlock_ab]; exact hx)
/-- a block of cells -/
def BoxC (w : World) (g : Nat) (T : TypeId) (cs : Array Value) : Prop := w.heap[g]? = some (.cells cs T (0, 0))
theorem BoxC.lt {w : World} {g : Nat} {T : TypeId} {cs : Array Value} (h : BoxC w g T cs) : g < w.heap.size := lt_of_block h
theorem BoxC.cell {w : World} {g : Nat} {T : TypeId} {cs : Array Value} (h : BoxC w g T cs) (j : Nat) : w.cell? ⟨g, j, none⟩ = cs[j]? := by rw [Go.Joins.cell_of_block h]
theorem BoxC.fz {w : World} {g : Nat} {T : TypeId} {cs : Array Value} (h : BoxC w g T cs) (j : Nat) : w.frozen? ⟨g, j, none⟩ = false := by unfold BoxC at h; simp [World.frozen?, h]
theorem BoxC.below {w w' : World} {g : Nat} {T : TypeId} {cs : Array Value} (h : BoxC w g T cs) (hb : Below w.heap.size w w') : BoxC w' g T cs := (hb.block g h.lt).trans h
theorem BoxC.alloc {w : World} {g : Nat} {T : TypeId} {cs : Array Value} (h : BoxC w g T cs) (o : Obj) : BoxC (w.alloc o) g T cs := (Below.heap_alloc w o g h.lt).trans h
theorem BoxC.new (w : World) (T : TypeId) (cs : Array Value) : BoxC (w.alloc (.cells cs T)) w.heap.size T cs := heap_alloc_new _ _
theorem BoxC.other {w : World} {g B : Nat} {T : TypeId} {cs : Array Value} (h : BoxC w g T cs) (hne : g ≠ B) (o : Nat) (v : Value) : BoxC (w.setCell ⟨B, o, none⟩ v) g T cs := (Below.heap_setCell w ⟨B, o, none⟩ v g hne).trans h
theorem BoxC.set {w : World} {g : Nat} {T : TypeId} {cs : Array Value} (h : BoxC w g T cs) (j : Nat) (v : Value) : BoxC (w.setCell ⟨g, j, none⟩ v) g T (cs.setIfInBounds j v) := Go.Joins.block_setCell h v
theorem BoxC.drew {w : World} {g : Nat} {T : TypeId} {cs : Array Value} (h : BoxC w g T cs) : BoxC w.drew g T cs := h
theorem OwnRow.off {α : Type} {k : Nat} {enc : α → List Value} {T : TypeId} {base : Nat} {w : World} {v : Value} {l : List α} (h : OwnRow T k enc base w v l) {B o : Nat} {u : Value} (hn : B < base) : OwnRow T k enc base (w.setCell ⟨B, o, none⟩ u) v l :=
  OwnRow.chg h ((Chg.refl (fun k => k = B) w).setCell (p := ⟨B, o, none⟩) (.inl rfl) u) (fun k hk => by have := (OwnRow.lt h k hk).1; omega)
theorem OwnRow.base_le {α : Type} {k : Nat} {enc : α → List Value} {T : TypeId} {base base' : Nat} {w : World} {v : Value} {l : List α} (h : OwnRow T k enc base w v l) (hb : base' ≤ base) : OwnRow T k enc base' w v l := Go.Joins.ownsRow_le h hb
abbrev OwnBs (base : Nat) (w : World) (v : Value) (l : List Int) : Prop := OwnRow 5 1 byC base w v l
theorem OwnRow.same {α : Type} {k : Nat} {enc : α → List Value} {T : TypeId} {base : Nat} {w w' : World} {a : Option Addr} {n c : Nat} {l : List α} (h : OwnRow T k enc base w (.slice a n c) l) (hb : ∀ b, Go.Proofs.YtpihogkhfmijcaaGreat.ab a = some b → w'.heap[b]? = w.heap[b]?) : OwnRow T k enc base w' (.slice a n c) l := by
  refine ⟨h.1, ?_⟩
  rcases h.2 with h2 | ⟨g, cap, cur, hv, hbg, hg, r⟩
  · exact .inl h2
  · cases hv
    exact .inr ⟨g, _, cur, rfl, hbg, (hb g rfl).trans hg, r⟩
theorem setCell_size (w : World) (p : Addr) (v : Value) : (w.setCell p v).heap.size = w.heap.size := by simp [World.setCell]
theorem setCells_size (g : Nat) : ∀ (vs : List Value) (o : Nat) (u : World), (u.setCells g o vs).heap.size = u.heap.size
  | [], _, _ => rfl
  | v :: r, o, u => by rw [World.setCells, setCells_size g r]; simp [World.setCell]
theorem setCells_other (g : Nat) : ∀ (vs : List Value) (o : Nat) (u : World) (b : Nat), b ≠ g → (u.setCells g o vs).heap[b]? = u.heap[b]?
  | [], _, _, _, _ => rfl
  | v :: r, o, u, b, h => by rw [World.setCells, setCells_other g r _ _ _ h]; exact Below.heap_setCell _ _ _ _ h
theorem setCells_below {base : Nat} {w : World} (g : Nat) (hg : base ≤ g) : ∀ (vs : List Value) (o : Nat) {u : World}, Below base w u → Below base w (u.setCells g o vs)
  | [], _, _, h => h
  | v :: r, o, u, h => by rw [World.setCells]; exact setCells_below g hg r _ (h.setCell (p := ⟨g, o, none⟩) hg v)
/-- one more behind an own row: what it gives, and where it lies -/
def Grown {α : Type} (T : TypeId) (k : Nat) (enc : α → List Value) (base : Nat) (w : World) (v : Value) (n : List α) (x : α) (g cap : Nat) (w' : World) : Prop :=
  OwnRow T k enc base w' (.slice (some ⟨g, 0, none⟩) (n.length + 1) cap) (n ++ [x]) ∧ w.grownBy w' v.ownBlock ∧ (v.ownBlock = some g ∨ g = w.heap.size) ∧ g < w'.heap.size
section
variable {α : Type} {k : Nat} {enc : α → List Value} {T : TypeId}
theorem run_app_one {w : World} (S T ty : TypeId) (k bytes : Nat) (z : Value) (enc : α → List Value)
    (hU : Tryz.prog.underlying S = some (.slice T)) (hI : (Tryz.prog.info? T).map (fun i => (i.zero, i.size, i.bytes)) = some (some z, k, bytes)) (hzc : z.cells.size = k) (hk0 : 0 < k) (hby : bytes ≤ 1000)
    (hk : ∀ x, (enc x).length = k) (base : Nat) (v : Value) (n : List α) (x : α) (zb : Nat) (hown : OwnRow T k enc base w v n) (hz : BoxC w zb T (enc x).toArray) (hone : ∀ u ∈ enc x, u.oneCell' = true) (hsmall : n.length + 1 ≤ 1000000) (hbase : base ≤ w.heap.size) :
    ∃ g cap w', (Builtin.append_ #[S, S] ty #[v, .slice (some ⟨zb, 0, none⟩) 1 1]).run Tryz.prog w = .ok (.slice (some ⟨g, 0, none⟩) (n.length + 1) cap) w' ∧ Grown T k enc base w v n x g cap w' := by
  obtain ⟨i0, hi, hz0, hz1, hz2⟩ := info_parts hI
  have hb : (n.length + 1) * bytes ≤ 1000000 * 1000 := Nat.mul_le_mul hsmall hby
  obtain ⟨v', w', hr, h2, h3, h4, h5⟩ := run_append_own_at (P := Tryz.prog) (w := w) base S ty T i0 z k bytes hU hi hz0 hz1 hz2 hzc hk0 v n.length (n.flatMap enc) hown ⟨zb, 0, none⟩ 1 1 (enc x) (by rw [hk, Nat.one_mul]) (fun j u hj => by
    rw [Addr.add_lit, hz.cell, Nat.zero_add, List.getElem?_toArray]; exact hj) hone (by unfold maxLen; omega) (by omega) hbase
  have h2' : OwnRow T k enc base w' v' (n ++ [x]) := by
    unfold OwnRow
    rw [List.length_append, List.flatMap_append, List.flatMap_cons, List.flatMap_nil, List.append_nil]
    exact h2
  rcases h2.2 with ⟨rfl, h0⟩ | ⟨g, cap, cur, rfl, _, hg, _⟩
  · omega
  · refine ⟨g, cap, w', hr, h2', h3, ?_, lt_of_block hg⟩
    rcases h5 with h5 | h5
    · exact .inl h5.symm
    · exact .inr (by simpa [Value.ownBlock] using h5)
theorem wpList_app_one {w : World} {ops : Array Oper} {rest : List Oper} {o : Oper} {a : Act} {Q : Exit → Act → World → Prop} (hgd : o.guard = none) (s y : Operand) (S T : TypeId) (k bytes : Nat) (z : Value) (enc : α → List Value)
    (ho : o.op = .call { callee := .builtin .append, args := #[s, y], argTypes := #[S, S] }) (hU : Tryz.prog.underlying S = some (.slice T)) (hI : (Tryz.prog.info? T).map (fun i => (i.zero, i.size, i.bytes)) = some (some z, k, bytes)) (hzc : z.cells.size = k) (hk0 : 0 < k) (hby : bytes ≤ 1000)
    (hk : ∀ x, (enc x).length = k) (base : Nat) (v : Value) (n : List α) (x : α) (zb : Nat) (hs : a.eval s = v) (hx : a.eval y = .slice (some ⟨zb, 0, none⟩) 1 1)
    (hown : OwnRow T k enc base w v n) (hz : BoxC w zb T (enc x).toArray) (hone : ∀ u ∈ enc x, u.oneCell' = true) (hsmall : n.length + 1 ≤ 1000000) (hbase : base ≤ w.heap.size)
    (h : ∀ g cap w', Grown T k enc base w v n x g cap w' → wpList Tryz.prog ops Q rest (a.put o.dst (.slice (some ⟨g, 0, none⟩) (n.length + 1) cap)) w') : wpList Tryz.prog ops Q (o :: rest) a w := by
  obtain ⟨g, cap, w', hr, hg⟩ := run_app_one (w := w) S T o.type k bytes z enc hU hI hzc hk0 hby hk base v n x zb hown hz hone hsmall hbase
  refine wpList_plain hgd fun K hK => ?_
  unfold Oper.wp execOp
  simp only [ho, resolve, invoke, builtin, Sem.run_bind, Sem.run_pure, Result.andThen_ok, List.map_toArray, List.map_cons, List.map_nil, hs, hx, hr]
  exact hK _ _ (h g cap w' hg)
theorem step_app_one {ops : Array Oper} {o : Oper} {a : Act} {w : World} {K : Act → World → Prop} {Q : Exit → Act → World → Prop} {E : Prop} (hgd : o.guard = none) (s y : Operand) (S T : TypeId) (k bytes : Nat) (z : Value) (enc : α → List Value)
    (ho : o.op = .call { callee := .builtin .append, args := #[s, y], argTypes := #[S, S] }) (hU : Tryz.prog.underlying S = some (.slice T)) (hI : (Tryz.prog.info? T).map (fun i => (i.zero, i.size, i.bytes)) = some (some z, k, bytes)) (hzc : z.cells.size = k) (hk0 : 0 < k) (hby : bytes ≤ 1000)
    (hk : ∀ x, (enc x).length = k) (base : Nat) (v : Value) (n : List α) (x : α) (zb : Nat) (hs : a.eval s = v) (hx : a.eval y = .slice (some ⟨zb, 0, none⟩) 1 1)
    (hown : OwnRow T k enc base w v n) (hz : BoxC w zb T (enc x).toArray) (hone : ∀ u ∈ enc x, u.oneCell' = true) (hsmall : n.length + 1 ≤ 1000000) (hbase : base ≤ w.heap.size)
    (h : ∀ g cap w', Grown T k enc base w v n x g cap w' → K (a.put o.dst (.slice (some ⟨g, 0, none⟩) (n.length + 1) cap)) w') : if Region.wanted o (yielded ops a.tmps) = true then Oper.wp Tryz.prog o a w K Q else E := by
  have hw : Region.wanted o (yielded ops a.tmps) = true := by simp [Region.wanted, hgd]
  rw [if_pos hw]
  obtain ⟨g, cap, w', hr, hg⟩ := run_app_one (w := w) S T o.type k bytes z enc hU hI hzc hk0 hby hk base v n x zb hown hz hone hsmall hbase
  have hk := h g cap w' hg
  clear h
  unfold Oper.wp
  simp only [execOp, ho, resolve, invoke, builtin, Sem.run_bind, Sem.run_pure, Result.andThen_ok, List.map_toArray, List.map_cons, List.map_nil, hs, hx, hr]
  exact hk
end
end Go.Proofs.YtpihogkhfmijcaaGreat
