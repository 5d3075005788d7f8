/- A net in memory. -/
import Derived.Test.YtbmebmkpjbgdoaaBase
import Derived.Test.YtbmebmkpjbgdoaaMath
import Derived.Deep.MidRow
namespace Go.Proofs.Ytbmebmkpjbgdoaa
open Go.RowKit
abbrev Bks := Nat → Prop
/-- W has w's blocks I as they were -/
def Keep (I : Nat → Prop) (w W : World) : Prop := w.heap.size ≤ W.heap.size ∧ ∀ k, I k → k < w.heap.size → W.heap[k]? = w.heap[k]?
theorem Keep.refl (I : Nat → Prop) (w : World) : Keep I w w := ⟨Nat.le_refl _, fun _ _ _ => rfl⟩
theorem Keep.trans {I : Nat → Prop} {a b c : World} (h : Keep I a b) (k : Keep I b c) : Keep I a c := ⟨Nat.le_trans h.1 k.1, fun i hi hl => (k.2 i hi (Nat.lt_of_lt_of_le hl h.1)).trans (h.2 i hi hl)⟩
theorem Chg.keep {S I : Nat → Prop} {w W : World} (h : Chg S w W) (hd : ∀ k, S k → ¬ I k) : Keep I w W := ⟨h.size, fun k hI hl => h.block k hl fun hS => hd k hS hI⟩
theorem Keep.mono {I J : Nat → Prop} {w W : World} (h : Keep I w W) (hd : ∀ k, J k → I k) : Keep J w W := ⟨h.1, fun k hI hl => h.2 k (hd k hI) hl⟩
theorem BytesIn.keep {J I : Nat → Prop} {w W : World} {v : Value} {l : Bs} (h : BytesIn J w v l) (hk : Keep I w W) (hJ : ∀ k, J k → I k) : BytesIn J W v l := by
  rcases h with h | ⟨ad, cap, rfl, hl, hr⟩
  · exact .inl h
  · exact .inr ⟨ad, cap, rfl, hl, fun h => by
      obtain ⟨b, off, rfl, hbl, hr⟩ := hr h
      have hsz := hk.1
      refine ⟨b, off, rfl, ⟨by omega, hbl.2⟩, fun j hj => ?_⟩
      rw [← hr j hj]
      exact World.cell?_of_block (hk.2 b (hJ b hbl.2) hbl.1)⟩
theorem Keep.of_below {I : Nat → Prop} {w w' : World} (h : Below w.heap.size w w') : Keep I w w' := ⟨h.size, fun k _ hl => h.block k hl⟩
/-- a message, and its bytes' slice as it lies -/
abbrev MV := Msg × Value
def mc (v : MV) : List Value := [.int .i64 v.1.fr, .int .i64 v.1.to, v.2]
theorem mc_length (vs : List MV) : (vs.flatMap mc).length = vs.length * 3 := by
  induction vs with
  | nil => rfl
  | cons p ps ih => rw [List.flatMap_cons, List.length_append, ih]; simp [mc]; omega
theorem mc_at : ∀ (vs : List MV) (i r : Nat), r < 3 → (vs.flatMap mc)[i * 3 + r]? = (vs[i]?).bind fun p => (mc p)[r]?
  | [], i, r, _ => by simp
  | p :: ps, i, r, hr => by
    rw [List.flatMap_cons]
    have hl : (mc p).length = 3 := rfl
    cases i with
    | zero => rw [List.getElem?_append_left (by omega)]; simp
    | succ i =>
      rw [List.getElem?_append_right (by omega), hl, show (i + 1) * 3 + r - 3 = i * 3 + r by omega, mc_at ps i r hr]
      simp
theorem mc_take : ∀ (vs : List MV) (i : Nat), (vs.take i).flatMap mc = (vs.flatMap mc).take (i * 3)
  | [], i => by simp
  | p :: ps, 0 => by simp
  | p :: ps, i + 1 => by
    rw [List.take_succ_cons, List.flatMap_cons, List.flatMap_cons, mc_take ps i, List.take_append]
    have hl : (mc p).length = 3 := rfl
    rw [hl, show (i + 1) * 3 - 3 = i * 3 by omega, List.take_of_length_le (by omega : (mc p).length ≤ (i + 1) * 3)]
theorem mc_drop : ∀ (vs : List MV) (i : Nat), (vs.drop i).flatMap mc = (vs.flatMap mc).drop (i * 3)
  | [], i => by simp
  | p :: ps, 0 => by simp
  | p :: ps, i + 1 => by
    rw [List.drop_succ_cons, List.flatMap_cons, mc_drop ps i, List.drop_append]
    have hl : (mc p).length = 3 := rfl
    rw [hl, show (i + 1) * 3 - 3 = i * 3 by omega, List.drop_of_length_le (by omega : (mc p).length ≤ (i + 1) * 3), List.nil_append]
def OwnMs (w : World) (v : Value) (vs : List MV) : Prop := w.ownsRow 0 49 3 v vs.length (vs.flatMap mc)
theorem OwnMs.chg {w w' : World} {v : Value} {vs : List MV} {S : Nat → Prop} (h : OwnMs w v vs) (hc : Chg S w w') (hS : ∀ k, v.ownBlock = some k → ¬ S k) : OwnMs w' v vs := by
  refine ⟨h.1, ?_⟩
  rcases h.2 with h2 | ⟨g, cap, cur, rfl, hbg, hg, r⟩
  · exact .inl h2
  · exact .inr ⟨g, cap, cur, rfl, hbg, hc.heap hg (hS g rfl), r⟩
theorem OwnMs.form {w : World} {v : Value} {vs : List MV} (h : OwnMs w v vs) : ∃ a cap, v = .slice a vs.length cap := by
  rcases h.2 with ⟨rfl, h0⟩ | ⟨g, cap, cur, rfl, _⟩
  · exact ⟨none, 0, by rw [h0]⟩
  · exact ⟨_, _, rfl⟩
theorem OwnMs.lt {w : World} {v : Value} {vs : List MV} (h : OwnMs w v vs) : ∀ k, v.ownBlock = some k → k < w.heap.size := fun k hk => (World.ownsRow.lt h k hk).2
/-- an element's cells -/
theorem OwnMs.cell {w : World} {g cap : Nat} {vs : List MV} (h : OwnMs w (.slice (some ⟨g, 0, none⟩) vs.length cap) vs) {i : Nat} {v : MV} (hv : vs[i]? = some v) (r : Nat) (hr : r < 3) : w.cell? ⟨g, i * 3 + r, none⟩ = (mc v)[r]? := by
  have hi : i < vs.length := (List.getElem?_eq_some_iff.1 hv).1
  have := World.ownsRow.cellAt h (i * 3 + r) (by omega)
  rw [this, mc_at _ _ _ hr, hv]; rfl
/-- the cells of a net -/
def netCells (sv : Value) (d : Nt) (p : Nat) : Array Value := (sv :: .int .i64 (d.n : Nat) :: (d.cuts.map Value.bool ++ [.pointer (some ⟨p, 0, none⟩)])).toArray
structure NetP (w : World) (O I : Nat → Prop) (p : Nat) (d : Nt) (sv : Value) (vs : List MV) : Prop where
  block : w.heap[p]? = some (.cells (netCells sv d p) 46 (0, 0))
  row : OwnMs w sv vs
  bag : vs.map (·.1) = d.bag
  byt : ∀ v ∈ vs, BytesIn I w v.2 v.1.b
  ow : ∀ k, sv.ownBlock = some k → O k
  op : O p
  dw : sv.ownBlock ≠ some p
  di : ∀ k, O k → ¬ I k
  lt : ∀ k, O k ∨ I k → k < w.heap.size
theorem NetP.chg {w w' : World} {O I C : Nat → Prop} {p : Nat} {d : Nt} {sv : Value} {vs : List MV} (h : NetP w O I p d sv vs) (hc : Chg C w w') (hd : ∀ k, C k → ¬ O k ∧ ¬ I k) : NetP w' O I p d sv vs where
  block := hc.heap h.block fun hC => (hd p hC).1 h.op
  row := h.row.chg hc fun k hk hC => (hd k hC).1 (h.ow k hk)
  bag := h.bag
  byt := fun v hv => (h.byt v hv).chg hc fun k hC => (hd k hC).2
  ow := h.ow
  op := h.op
  dw := h.dw
  di := h.di
  lt := fun k hk => Nat.lt_of_lt_of_le (h.lt k hk) hc.size
theorem NetP.below {w w' : World} {O I : Nat → Prop} {p : Nat} {d : Nt} {sv : Value} {vs : List MV} (h : NetP w O I p d sv vs) (hb : Below w.heap.size w w') : NetP w' O I p d sv vs :=
  h.chg (Chg.of_below (S := fun _ => False) hb (Nat.le_refl _)) fun _ h => h.elim
theorem NetP.len {w : World} {O I : Nat → Prop} {p : Nat} {d : Nt} {sv : Value} {vs : List MV} (h : NetP w O I p d sv vs) : vs.length = d.bag.length := by rw [← h.bag, List.length_map]
theorem NetP.c0 {w : World} {O I : Nat → Prop} {p : Nat} {d : Nt} {sv : Value} {vs : List MV} (h : NetP w O I p d sv vs) : w.cell? ⟨p, 0, none⟩ = some sv := by rw [Go.Joins.cell_of_block h.block]; rfl
theorem NetP.c1 {w : World} {O I : Nat → Prop} {p : Nat} {d : Nt} {sv : Value} {vs : List MV} (h : NetP w O I p d sv vs) : w.cell? ⟨p, 1, none⟩ = some (.int .i64 (d.n : Nat)) := by rw [Go.Joins.cell_of_block h.block]; rfl
theorem netCells_cut (sv : Value) (d : Nt) (p : Nat) {k : Nat} (hk : k < d.cuts.length) : (netCells sv d p)[2 + k]? = some (.bool (d.cuts.getD k false)) := by
  unfold netCells
  rw [List.getElem?_toArray, show 2 + k = k + 1 + 1 by omega, List.getElem?_cons_succ, List.getElem?_cons_succ, List.getElem?_append_left (by simpa using hk), List.getElem?_map, List.getElem?_eq_getElem hk, List.getD_eq_getElem?_getD, List.getElem?_eq_getElem hk]; rfl
theorem netCells_self (sv : Value) (d : Nt) (p : Nat) (h : d.cuts.length = 225) : (netCells sv d p)[227]? = some (.pointer (some ⟨p, 0, none⟩)) := by
  unfold netCells
  rw [List.getElem?_toArray, show 227 = 225 + 1 + 1 by rfl, List.getElem?_cons_succ, List.getElem?_cons_succ, List.getElem?_append_right (by simp [h]), List.length_map, h]; rfl
theorem NetP.cut {w : World} {O I : Nat → Prop} {p : Nat} {d : Nt} {sv : Value} {vs : List MV} (h : NetP w O I p d sv vs) {k : Nat} (hk : k < d.cuts.length) : w.cell? ⟨p, 2 + k, none⟩ = some (.bool (d.cuts.getD k false)) := by rw [Go.Joins.cell_of_block h.block]; exact netCells_cut sv d p hk
theorem NetP.self {w : World} {O I : Nat → Prop} {p : Nat} {d : Nt} {sv : Value} {vs : List MV} (h : NetP w O I p d sv vs) (hl : d.cuts.length = 225) : w.cell? ⟨p, 227, none⟩ = some (.pointer (some ⟨p, 0, none⟩)) := by rw [Go.Joins.cell_of_block h.block]; exact netCells_self sv d p hl
theorem NetP.fz {w : World} {O I : Nat → Prop} {p : Nat} {d : Nt} {sv : Value} {vs : List MV} (h : NetP w O I p d sv vs) (i : Nat) : w.frozen? ⟨p, i, none⟩ = false := by simp [World.frozen?, h.block]
/-- the net d at block p; the blocks O are its own, the blocks I stay as they are -/
def NetAt (w : World) (O I : Nat → Prop) (p : Nat) (d : Nt) : Prop := d.ok ∧ ∃ sv vs, NetP w O I p d sv vs
def Step (w : World) (O I : Nat → Prop) (w' : World) (O' I' : Nat → Prop) : Prop := Chg O w w' ∧ (∀ k, O' k → O k ∨ w.heap.size ≤ k) ∧ ∀ k, I' k → I k ∨ w.heap.size ≤ k
theorem Step.of_below {w w' : World} {O I : Nat → Prop} (h : Below w.heap.size w w') : Step w O I w' O I := ⟨Chg.of_below h (Nat.le_refl _), fun _ h => .inl h, fun _ h => .inl h⟩
theorem NetAt.chg {w w' : World} {O I C : Nat → Prop} {p : Nat} {d : Nt} (h : NetAt w O I p d) (hc : Chg C w w') (hd : ∀ k, C k → ¬ O k ∧ ¬ I k) : NetAt w' O I p d := by
  obtain ⟨ho, sv, vs, h⟩ := h; exact ⟨ho, sv, vs, h.chg hc hd⟩
theorem NetAt.below {w w' : World} {O I : Nat → Prop} {p : Nat} {d : Nt} (h : NetAt w O I p d) {B : Nat} (hb : Below B w w') (hB : w.heap.size ≤ B) : NetAt w' O I p d :=
  h.chg (Chg.of_below (S := fun _ => False) hb hB) fun _ h => h.elim
theorem NetAt.lt {w : World} {O I : Nat → Prop} {p : Nat} {d : Nt} (h : NetAt w O I p d) : ∀ k, O k ∨ I k → k < w.heap.size := by obtain ⟨_, _, _, h⟩ := h; exact h.lt
theorem NetAt.di {w : World} {O I : Nat → Prop} {p : Nat} {d : Nt} (h : NetAt w O I p d) : ∀ k, O k → ¬ I k := by obtain ⟨_, _, _, h⟩ := h; exact h.di
/-- what a call leaves that answers a number -/
def Does (w : World) (O I : Nat → Prop) (p : Nat) (r : Int) (d : Nt) (e : Ending) (w' : World) : Prop :=
  e = .returned (.int .i64 r) ∧ ∃ O' I', NetAt w' O' I' p d ∧ Step w O I w' O' I'
theorem Does.still {w w' : World} {O I : Nat → Prop} {p : Nat} {d : Nt} (h : NetAt w O I p d) (r : Int) (hb : Below w.heap.size w w') : Does w O I p r d (.returned (.int .i64 r)) w' :=
  ⟨rfl, O, I, h.below hb (Nat.le_refl _), Step.of_below hb⟩
end Go.Proofs.Ytbmebmkpjbgdoaa
