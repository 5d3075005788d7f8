/- Copy. -/
import Derived.Test.YtbmebmkpjbgdoaaNew
namespace Go.Proofs.Ytbmebmkpjbgdoaa
open Go.RowKit
theorem foldl_over : ∀ (vs : List Value) (c : Array Value) (o k : Nat), (vs.zipIdx k).foldl (fun cs (x : Value × Nat) => cs.setIfInBounds (o + x.2) x.1) c = over c (o + k) vs
  | [], _, _, _ => rfl
  | v :: r, c, o, k => by
    rw [List.zipIdx_cons, List.foldl_cons, foldl_over r, over]; rfl
theorem over_mid (v x : Value) (cs : List Value) (hc : cs.length = 225) : over ((Value.slice none 0 0 :: .int .i64 0 :: (falses ++ [.pointer none])).set 0 v |>.set 1 x).toArray 2 cs = (v :: x :: (cs ++ [.pointer none])).toArray := by
  apply Array.ext'
  apply List.ext_getElem?
  intro j
  rw [Array.getElem?_toList, over_get _ _ _ _ (by simp only [List.size_toArray, List.length_set, List.length_cons, List.length_append, falses_length, hc, List.length_nil]; omega)]
  rw [List.getElem?_toArray]
  show _ = (v :: x :: (cs ++ [.pointer none]))[j]?
  by_cases h : 2 ≤ j ∧ j < 2 + cs.length
  · rw [if_pos h]
    obtain ⟨i, rfl⟩ : ∃ i, j = i + 1 + 1 := ⟨j - 2, by omega⟩
    rw [List.getElem?_cons_succ, List.getElem?_cons_succ, List.getElem?_append_left (by omega)]
    congr 1
  · rw [if_neg h]
    match j, h with
    | 0, _ => rfl
    | 1, _ => rfl
    | i + 2, h =>
      show (falses ++ [.pointer none])[i]? = (cs ++ [.pointer none])[i]?
      rw [List.getElem?_append_right (by rw [falses_length]; omega), List.getElem?_append_right (by omega), falses_length, hc]
theorem build46 (v x : Value) (cs : List Value) (hc : cs.length = 225) (hx : x.cells = #[x]) (w : World) :
    (Instr.build 46 #[(0, .agg #[v]), (1, x), (2, .agg cs.toArray)]).run Try.prog w = .ok (.agg (v :: x :: (cs ++ [.pointer none])).toArray) w := by
  have hu := fun w => run_underlying (P := Try.prog) Try.underlying46 w
  have h42 := fun w => Try.sizeOf42 w
  have h3 := fun w => Try.sizeOf3 w
  have h44 := fun w => Try.sizeOf44 w
  have h25 := fun w => Try.sizeOf25 w
  unfold Instr.build
  rw [Sem.run_bind, zero46]
  simp only [Result.andThen_ok, Sem.run_bind, hu]
  have hfill : Instr.fill (fun i => ([(0, 1), (1, 1), (2, 225), (227, 1)] : List (Nat × Nat))[i]?) (Value.agg zNet).cells [(0, Value.agg #[v]), (1, x), (2, Value.agg cs.toArray)] = some (v :: x :: (cs ++ [Value.pointer none])).toArray := by
    have e0 : (Value.agg zNet).cells = zNet := rfl
    have e1 : (Value.agg #[v]).cells = #[v] := rfl
    have e2 : (Value.agg cs.toArray).cells = cs.toArray := rfl
    have e3 : ((zNet.setIfInBounds 0 v).setIfInBounds 1 x) = ((Value.slice none 0 0 :: .int .i64 0 :: (falses ++ [.pointer none])).set 0 v |>.set 1 x).toArray := by
      unfold zNet
      rw [List.setIfInBounds_toArray, List.setIfInBounds_toArray]
    simp only [Instr.fill, e0, e1, e2, hx]
    simp [zNet_size, hc]
    rw [foldl_over, e3]
    exact over_mid v x cs hc
  simp [h42, h3, h44, h25, Sem.run_bind, Result.andThen]
  simp only [hfill]
  rfl
set_option maxRecDepth 100000 in
theorem clone_at {w : World} {O I : Nat → Prop} {p : Nat} {d : Nt} {sv : Value} {vs : List MV} (h : NetP w O I p d sv vs) (hl : vs.length ≤ 500000) :
    Calls Try.prog 28 #[.pointer (some ⟨p, 0, none⟩)] w fun e w' => ∃ v, e = .returned (.agg #[v]) ∧ OwnMs w' v vs ∧ (∀ k, v.ownBlock = some k → w.heap.size ≤ k) ∧ Below w.heap.size w w' := by
  obtain ⟨sa, sc, rfl⟩ := h.row.form
  have hP : ∀ o, NetP (w.alloc o) O I p d (.slice sa vs.length sc) vs := fun o => h.below (Go.Joins.below_alloc1 w o)
  have c0 : ∀ o, (w.alloc o).cell? ⟨p, 0, none⟩ = some (.slice sa vs.length sc) := fun o => (hP o).c0
  have HC : Hid (∀ o, Calls Try.prog 48 #[.slice sa vs.length sc] (w.alloc o) (GivesMs (w.alloc o) vs)) := fun o => msclone_any _ vs _ (hP o).row h.oneCells hl
  obtain ⟨L, hL⟩ : ∃ L, vs.length = L := ⟨_, rfl⟩
  rw [hL] at c0 HC
  have HL := Lib.hid hL
  clear h hP hL
  go_enter Try.func28, Try.ntmps28
  go_wp2_with fail
  refine (HC.out _).mono ?_
  rintro e w4 ⟨v, rfl, ho4, hg4, hb4⟩
  have hb : w4.heap[w.heap.size]? = some (.cells #[.slice none 0 0] 42 (0, 0)) := (hb4.block _ (by rw [World.size_alloc]; omega)).trans (heap_alloc_new _ _)
  have q0 : w4.cell? ⟨w.heap.size, 0, none⟩ = some (.slice none 0 0) := by rw [Go.Joins.cell_of_block hb]; rfl
  have f0 : ∀ j, w4.frozen? ⟨w.heap.size, j, none⟩ = false := fun j => by simp [World.frozen?, hb]
  have HFIN : Hid ((w4.setCell ⟨w.heap.size, 0, none⟩ v).heap[w.heap.size]? = some (.cells #[v] 42 (0, 0)) ∧ OwnMs (w4.setCell ⟨w.heap.size, 0, none⟩ v) v vs ∧ (∀ k, v.ownBlock = some k → w.heap.size ≤ k) ∧ Below w.heap.size w (w4.setCell ⟨w.heap.size, 0, none⟩ v)) := by
    have hch : Chg (fun k => k = w.heap.size) w4 (w4.setCell ⟨w.heap.size, 0, none⟩ v) := (Chg.refl (fun k => k = w.heap.size) w4).setCell (p := ⟨w.heap.size, 0, none⟩) (.inl rfl) _
    refine ⟨Go.Joins.block_setCell hb _, ho4.chg hch fun k hk e => by have := hg4 k hk; rw [World.size_alloc] at this; omega, fun k hk => by have := hg4 k hk; rw [World.size_alloc] at this; omega, ?_⟩
    exact ((Go.Joins.below_alloc1 w _).trans (hb4.mono (by rw [World.size_alloc]; omega))).setCell (p := ⟨w.heap.size, 0, none⟩) (Nat.le_refl _) _
  obtain ⟨va, vc, rfl⟩ := ho4.form
  clear ho4 hg4 hb4 hb
  go_wp2
  exact bodyPost_ret (results_cell_row rfl _ _ w.heap.size 42 _ (0, 0) _ rfl HFIN.out.1 Try.underlying42 rfl (by kernel_rfl)) rfl ⟨_, rfl, HFIN.out.2⟩
/-- a net of its own that is the same; its messages' bytes are the old one's -/
def Copied (w : World) (I : Nat → Prop) (d : Nt) (w' : World) (q : Nat) : Prop := ∃ O, NetAt w' O I q d ∧ (∀ k, O k → w.heap.size ≤ k) ∧ Below w.heap.size w w'
theorem copied {w w4 : World} {O I : Nat → Prop} {p : Nat} {d : Nt} {sv v4 : Value} {vs : List MV} (h : NetP w O I p d sv vs) (hok : d.ok) (ho : OwnMs w4 v4 vs) (hg : ∀ k, v4.ownBlock = some k → w.heap.size ≤ k) (hb : Below w.heap.size w w4) :
    Copied w I d (w4.alloc (.cells (netCells v4 d w4.heap.size) 46)) w4.heap.size := by
  have hlt := ho.lt
  have hbs := hb.size
  have hbb : Below w.heap.size w (w4.alloc (.cells (netCells v4 d w4.heap.size) 46)) := hb.alloc hb.size _
  have hch : Chg (fun _ => False) w4 (w4.alloc (.cells (netCells v4 d w4.heap.size) 46)) := (Chg.refl _ w4).alloc _
  refine ⟨fun k => v4.ownBlock = some k ∨ k = w4.heap.size, ⟨hok, v4, vs, ?_⟩, fun k hk => ?_, hbb⟩
  · exact {
      block := heap_alloc_new _ _
      row := ho.chg hch fun _ _ h => h
      bag := h.bag
      byt := fun v hv => (h.byt v hv).below hbb (Nat.le_refl _)
      ow := fun k hk => .inl hk
      op := .inr rfl
      dw := fun e => by have := hlt _ e; omega
      di := fun k hk hI => by
        have := h.lt k (.inr hI)
        rcases hk with hk | hk
        · have := hg k hk; omega
        · omega
      lt := fun k hk => by
        rw [World.size_alloc]
        rcases hk with (hk | hk) | hk
        · have := hlt k hk; omega
        · omega
        · have := h.lt k (.inr hk); omega }
  · rcases hk with hk | hk
    · exact hg k hk
    · omega
set_option maxRecDepth 100000 in
theorem copy_no (q : Option Addr) (w : World) (h : NotMade w q) : Calls Try.prog 12 #[.pointer q] w fun e w' => e = .returned (.pointer none) ∧ w = w' := by
  have HM := Lib.hid (isMade_no q w h)
  clear h
  go_enter Try.func12, Try.ntmps12
  go_wp2_with (go_at_call 27; refine HM.out.mono ?_; rintro e w1 ⟨rfl, rfl⟩)
  go_ret
  exact ⟨rfl, rfl⟩
theorem NetP.range {w : World} {O I : Nat → Prop} {p : Nat} {d : Nt} {sv : Value} {vs : List MV} (h : NetP w O I p d sv vs) : w.rangeAt p 2 (d.cuts.map Value.bool) := fun j v hv => by
  have hj : j < d.cuts.length := by have := (List.getElem?_eq_some_iff.1 hv).1; simpa using this
  rw [h.cut hj, ← hv, List.getElem?_map, List.getElem?_eq_getElem hj, List.getD_eq_getElem?_getD, List.getElem?_eq_getElem hj]; rfl
theorem selfed (v : Value) (d : Nt) (p : Nat) (h : d.cuts.length = 225) : ((v :: Value.int .i64 (d.n : Nat) :: (d.cuts.map Value.bool ++ [.pointer none])).toArray).setIfInBounds 227 (.pointer (some ⟨p, 0, none⟩)) = netCells v d p := by
  unfold netCells
  apply Array.ext'
  rw [Array.toList_setIfInBounds]
  show (v :: Value.int .i64 (d.n : Nat) :: (d.cuts.map Value.bool ++ [.pointer none])).set 227 _ = v :: Value.int .i64 (d.n : Nat) :: (d.cuts.map Value.bool ++ [.pointer (some ⟨p, 0, none⟩)])
  rw [show 227 = 225 + 1 + 1 by rfl, List.set_cons_succ, List.set_cons_succ, List.set_append_right _ _ (by rw [List.length_map, h]; exact Nat.le_refl _), List.length_map, h]; rfl
end Go.Proofs.Ytbmebmkpjbgdoaa
