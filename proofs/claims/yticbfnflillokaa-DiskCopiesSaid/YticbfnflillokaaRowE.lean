/- The document's disk: Crash. -/
import Derived.Test.YticbfnflillokaaRowA
namespace Go.Proofs.Yticbfnflillokaa
open Go.RowKit
/-- behind some of the changes: the files that last are F -/
def Crashing (w wr : World) (R : Bks) (q : Nat) (d : Dk) (wa : Option Addr) (K wc : Nat) (F : Fs) : Prop := ∃ us a c, wr.heap[q]? = some (.cells #[.slice a us.length c, .slice wa K wc, .int .i64 (d.cap : Nat), .int .u64 (d.serial : Nat), .bool false] 68 (0, 0)) ∧ FilesIn (fun k => R k ∨ w.heap.size ≤ k) wr (.slice a us.length c) us ∧ fsOf us = F ∧ Chg (fun k => k = q) w wr
theorem left_eq (d : Dk) (keep torn : Int) : d.left keep torn = match d.waits[d.keeps keep]? with | some c => c.tear torn (doAll (d.waits.take (d.keeps keep)) d.synced) | none => doAll (d.waits.take (d.keeps keep)) d.synced := rfl
/-- the files behind the first k of the changes, as Crash goes -/
def Dk.part (d : Dk) (keep torn : Int) (k : Nat) : Fs := if k ≤ d.keeps keep then doAll (d.waits.take k) d.synced else d.left keep torn
theorem part_zero (d : Dk) (keep torn : Int) : d.part keep torn 0 = d.synced := by unfold Dk.part; rw [if_pos (Nat.zero_le _)]; rfl
theorem keeps_cast (d : Dk) (keep : Int) : ((d.keeps keep : Nat) : Int) = min (max keep 0) (d.waits.length : Nat) := by unfold Dk.keeps; omega
theorem part_end (d : Dk) (keep torn : Int) : d.part keep torn d.waits.length = d.left keep torn := by
  unfold Dk.part
  have h := d.keeps_le keep
  split
  · rename_i h2
    have e : d.keeps keep = d.waits.length := by omega
    rw [left_eq, e, List.getElem?_eq_none (Nat.le_refl _)]
  · rfl
/-- one that is kept -/
theorem part_keep (d : Dk) (keep torn : Int) (k : Nat) (c : Ch) (hc : d.waits[k]? = some c) (h : (k : Int) < keep) : d.part keep torn (k + 1) = c.do (d.part keep torn k) := by
  have hl := (List.getElem?_eq_some_iff.1 hc).1
  have hk := keeps_cast d keep
  unfold Dk.part
  rw [if_pos (by omega), if_pos (by omega), List.take_add_one, hc]
  exact doAll_snoc _ _ _
/-- the one that is torn -/
theorem part_torn (d : Dk) (keep torn : Int) (k : Nat) (c : Ch) (hc : d.waits[k]? = some c) (_h : ¬ (k : Int) < keep) (he : (k : Int) = max keep 0) : d.part keep torn (k + 1) = c.tear torn (d.part keep torn k) := by
  have hl := (List.getElem?_eq_some_iff.1 hc).1
  have hk := keeps_cast d keep
  have e : d.keeps keep = k := by omega
  unfold Dk.part
  rw [if_neg (by omega), if_pos (by omega), left_eq, e, hc]
/-- those behind -/
theorem part_past (d : Dk) (keep torn : Int) (k : Nat) (hl : k < d.waits.length) (h : ¬ (k : Int) < keep) (he : ¬ (k : Int) = max keep 0) : d.part keep torn (k + 1) = d.part keep torn k := by
  have hk := keeps_cast d keep
  unfold Dk.part
  rw [if_neg (by omega), if_neg (by omega)]
theorem part_bounds {d : Dk} (h : d.ok) (keep torn : Int) (k : Nat) (hk : k ≤ d.waits.length) : (d.part keep torn k).ok ∧ (d.part keep torn k).total ≤ d.cap ∧ (d.part keep torn k).length ≤ d.synced.length + d.waits.length + 1 := by
  unfold Dk.part
  split
  · refine ⟨doAll_ok _ h.rises, h.fits k hk, ?_⟩
    have := doAll_length (d.waits.take k) d.synced
    rw [List.length_take] at this
    omega
  · refine ⟨(h.left keep torn).1, (h.left keep torn).2, ?_⟩
    rw [left_eq]
    have := doAll_length (d.waits.take (d.keeps keep)) d.synced
    rw [List.length_take] at this
    split
    · have h2 := tear_length ‹Ch› torn (doAll (d.waits.take (d.keeps keep)) d.synced)
      omega
    · omega
theorem left_length {d : Dk} (keep torn : Int) : (d.left keep torn).length ≤ d.synced.length + d.waits.length := by
  rw [left_eq]
  have h1 := doAll_length (d.waits.take (d.keeps keep)) d.synced
  rw [List.length_take] at h1
  split
  · rename_i c hc
    have hl := (List.getElem?_eq_some_iff.1 hc).1
    have h2 := tear_length c torn (doAll (d.waits.take (d.keeps keep)) d.synced)
    omega
  · omega
/-- a step of Crash: Done, and its store -/
theorem Crashing.store {w wr w7 : World} {R : Bks} {q : Nat} {d : Dk} {wa : Option Addr} {K wc : Nat} {F : Fs} (h : Crashing w wr R q d wa K wc F) (hq : q < w.heap.size) (hqR : ¬ R q) (hb : Below wr.heap.size wr w7) {vs : List FV} {a : Option Addr} {c : Nat} (hf : FilesIn (fun k => R k ∨ w.heap.size ≤ k) w7 (.slice a vs.length c) vs) :
    Crashing w (w7.setCell ⟨q, 0, none⟩ (.slice a vs.length c)) R q d wa K wc (fsOf vs) := by
  obtain ⟨us, a0, c0, h1, h2, h3, h4⟩ := h
  have hc : Chg (fun k => k = q) w7 (w7.setCell ⟨q, 0, none⟩ (.slice a vs.length c)) := chg1 q 0 _ w7
  refine ⟨vs, a, c, ?_, ?_, rfl, (h4.then (Chg.of_below (S := fun _ => False) hb (Nat.le_refl _)) fun _ h => h.elim).trans hc⟩
  · rw [Go.Joins.block_setCell ((hb.block _ (lt_of_block h1)).trans h1) (i := 0)]; rfl
  · refine hf.keep (I := fun k => k ≠ q) (hc.keep fun k hk hn => hn hk) fun k hk e => ?_
    subst e
    rcases hk with hk | hk
    · exact hqR hk
    · omega
theorem Crashing.box {w wr : World} {R : Bks} {q : Nat} {d : Dk} {wa : Option Addr} {K wc : Nat} {F : Fs} (h : Crashing w wr R q d wa K wc F) {w' : World} (hb : Below wr.heap.size wr w') : Crashing w w' R q d wa K wc F := by
  obtain ⟨us, a0, c0, h1, h2, h3, h4⟩ := h
  exact ⟨us, a0, c0, (hb.block _ (lt_of_block h1)).trans h1, h2.below hb, h3, h4.then (Chg.of_below (S := fun _ => False) hb (Nat.le_refl _)) fun _ h => h.elim⟩
theorem box84 {w : World} {o : Int} {n t : Bs} {a : Option Addr} {L c : Nat} {W : World} (hb : Below (w.alloc (.cells #[.int .i64 o, .string ⟨n.toArray⟩, .string ⟨t.toArray⟩, .slice a L c] 84)).heap.size (w.alloc (.cells #[.int .i64 o, .string ⟨n.toArray⟩, .string ⟨t.toArray⟩, .slice a L c] 84)) W) :
    (W.cell? ⟨w.heap.size, 0, none⟩ = some (.int .i64 o) ∧ W.cell? ⟨w.heap.size, 1, none⟩ = some (.string ⟨n.toArray⟩) ∧ W.cell? ⟨w.heap.size, 2, none⟩ = some (.string ⟨t.toArray⟩) ∧ W.cell? ⟨w.heap.size, 3, none⟩ = some (.slice a L c)) ∧ W.frozen? ⟨w.heap.size, 3, none⟩ = false := by
  have h0 : (w.alloc (.cells #[.int .i64 o, .string ⟨n.toArray⟩, .string ⟨t.toArray⟩, .slice a L c] 84)).heap[w.heap.size]? = some (.cells #[.int .i64 o, .string ⟨n.toArray⟩, .string ⟨t.toArray⟩, .slice a L c] 84 (0, 0)) := heap_alloc_new _ _
  have h := (hb.block _ (lt_of_block h0)).trans h0
  refine ⟨⟨?_, ?_, ?_, ?_⟩, by simp [World.frozen?, h]⟩ <;> (rw [Go.Joins.cell_of_block h]; rfl)
end Go.Proofs.Yticbfnflillokaa
