/- Whether a disk was made, and is down; room; within; an empty shelf. -/
import Derived.Test.YticbfnflillokaaMath
import Derived.LaidEqlPtr
namespace Go.Proofs.Yticbfnflillokaa
open Go.RowKit
theorem info47 : (Try.prog.info? 47).isSome = true := by kernel_rfl
theorem eql_same (p : Nat) (w : World) : (binOp .eql 25 (.pointer (some ⟨p, 0, none⟩)) (.pointer (some ⟨p, 0, none⟩))).run Try.prog w = .ok (.bool true) w := by
  obtain ⟨j, hj⟩ := Option.isSome_iff_exists.1 info47
  exact run_eql_ptr_same w _ Try.underlying25 hj
theorem eql_none (a : Addr) (w : World) : (binOp .eql 25 (.pointer none) (.pointer (some a))).run Try.prog w = .ok (.bool false) w := by
  have h : ∀ d : Nat, (Op.equalIn (d + 1) 25 (.pointer none) (.pointer (some a))).run Try.prog w = .ok false w := fun d => by
    simp [Op.equalIn, run_underlying Try.underlying25]
  simp only [binOp]
  simp [Op.equal, Op.maxDepth, h 9999]
/-- nobody made that disk -/
def NotMade (w : World) (q : Option Addr) : Prop := q = none ∨ ∃ p, q = some ⟨p, 0, none⟩ ∧ w.cell? ⟨p, 8, none⟩ = some (.pointer none)
set_option maxRecDepth 100000 in
theorem isMade_yes (p : Nat) (w : World) (h : w.cell? ⟨p, 8, none⟩ = some (.pointer (some ⟨p, 0, none⟩))) :
    Calls Try.prog 35 #[.pointer (some ⟨p, 0, none⟩)] w fun e w' => e = .returned (.bool true) ∧ w = w' := by
  have k := eql_same p
  go_enter Try.func35, Try.ntmps35
  go_wp2
  go_ret
  exact ⟨by simp, rfl⟩
set_option maxRecDepth 100000 in
theorem isMade_no (q : Option Addr) (w : World) (h : NotMade w q) :
    Calls Try.prog 35 #[.pointer q] w fun e w' => e = .returned (.bool false) ∧ w = w' := by
  rcases h with rfl | ⟨p, rfl, h⟩
  · go_enter Try.func35, Try.ntmps35
    go_wp2
    go_ret
    exact ⟨by simp, rfl⟩
  · have k := eql_none ⟨p, 0, none⟩
    go_enter Try.func35, Try.ntmps35
    go_wp2
    go_ret
    exact ⟨by simp, rfl⟩
set_option maxRecDepth 100000 in
theorem down_yes (p : Nat) (b : Bool) (w : World) (h : w.cell? ⟨p, 8, none⟩ = some (.pointer (some ⟨p, 0, none⟩))) (h4 : w.cell? ⟨p, 4, none⟩ = some (.bool b)) :
    Calls Try.prog 31 #[.pointer (some ⟨p, 0, none⟩)] w fun e w' => e = .returned (.bool b) ∧ w = w' := by
  have HM := Lib.hid (isMade_yes p w h)
  clear h
  go_enter Try.func31, Try.ntmps31
  go_wp2_with (go_at_call 35; refine HM.out.mono ?_; rintro e w1 ⟨rfl, rfl⟩)
  go_ret
  exact ⟨by simp, rfl⟩
set_option maxRecDepth 100000 in
theorem down_no (q : Option Addr) (w : World) (h : NotMade w q) :
    Calls Try.prog 31 #[.pointer q] w fun e w' => e = .returned (.bool true) ∧ w = w' := by
  have HM := Lib.hid (isMade_no q w h)
  clear h
  go_enter Try.func31, Try.ntmps31
  go_wp2_with (go_at_call 35; refine HM.out.mono ?_; rintro e w1 ⟨rfl, rfl⟩)
  go_ret
  exact ⟨by simp, rfl⟩
theorem within_any (n m : Int) (w : World) (hm : 0 ≤ m) :
    Calls Try.prog 46 #[.int .i64 n, .int .i64 m] w fun e w' => e = .returned (.int .i64 (min (max n 0) m)) ∧ w = w' := by
  go_enter Try.func46, Try.ntmps46
  go_wp2
  all_goals go_ret
  all_goals refine ⟨?_, rfl⟩
  all_goals (show Ending.returned (Value.int _ _) = _; congr 2; omega)
theorem room_any (p : Nat) (c t : Int) (w : World) (h2 : w.cell? ⟨p, 2, none⟩ = some (.int .i64 c)) (h6 : w.cell? ⟨p, 6, none⟩ = some (.int .i64 t)) (hc : 0 ≤ c ∧ c ≤ 65536) (ht : 0 ≤ t ∧ t ≤ 65536) :
    Calls Try.prog 39 #[.pointer (some ⟨p, 0, none⟩)] w fun e w' => e = .returned (.int .i64 (c - t)) ∧ Below w.heap.size w w' := by
  go_enter Try.func39, Try.ntmps39
  go_wp2
  go_quiet (fail)
  go_wp2
  go_ret
  exact ⟨rfl, ⟨rfl, rfl, rfl, Nat.le_refl _, fun _ _ => rfl⟩⟩
theorem emptyShelf_any (w : World) :
    Calls Try.prog 34 #[] w fun e w' => ∃ bm, e = .returned (.agg #[.map (some bm), .int .i64 0]) ∧ bm < w'.heap.size ∧ w.heap.size ≤ bm ∧ w'.heap[bm]? = some (.map #[] 0) ∧ Below w.heap.size w w' := by
  have hmm := @run_makeMap Try.prog
  go_enter Try.func34, Try.ntmps34
  go_wp2
  have h1 : ((w.alloc (.cells #[.map (some (w.heap.size + 1)), .int .i64 0] 41)).alloc (.map #[] 0)).heap[w.heap.size + 1]? = some (.map #[] 0) := heap_alloc2_new _ _ _
  have hg : ((w.alloc (.cells #[.map (some (w.heap.size + 1)), .int .i64 0] 41)).alloc (.map #[] 0)).heap[w.heap.size]? = some (.cells #[.map (some (w.heap.size + 1)), .int .i64 0] 41 (0, 0)) := by
    rw [heap_alloc_old (h := by rw [World.size_alloc]; omega), heap_alloc_new]
  refine bodyPost_ret (results_cell_row rfl _ _ w.heap.size 41 _ (0, 0) _ rfl hg Try.underlying41 rfl (by kernel_rfl)) rfl ?_
  exact ⟨w.heap.size + 1, rfl, lt_of_block h1, by omega, h1, ((Below.refl _ _).alloc (Nat.le_refl _) _).alloc (by rw [World.size_alloc]; omega) _⟩
end Go.Proofs.Yticbfnflillokaa
