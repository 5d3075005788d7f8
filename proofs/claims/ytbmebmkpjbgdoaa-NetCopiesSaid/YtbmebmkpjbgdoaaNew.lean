/- New. -/
import Derived.Test.YtbmebmkpjbgdoaaOps4
namespace Go.Proofs.Ytbmebmkpjbgdoaa
open Go.RowKit
def falses : List Value := List.replicate 225 (.bool false)
theorem falses_length : falses.length = 225 := List.length_replicate
/-- a net in blocks of the call's own -/
def Fresh (w : World) (d : Nt) (w' : World) (p : Nat) : Prop := ∃ O I, NetAt w' O I p d ∧ (∀ k, O k ∨ I k → w.heap.size ≤ k) ∧ Below w.heap.size w w'
set_option maxRecDepth 100000 in
theorem new_no (n : Int) (w : World) (hn : n < 1 ∨ 15 < n) : Calls Try.prog 10 #[.int .i64 n] w fun e w' => e = .returned (.tuple #[.pointer none, .int .i64 1]) ∧ w = w' := by
  go_enter Try.func10, Try.ntmps10
  go_wp2
  all_goals (first | omega | (go_ret2; exact ⟨rfl, rfl⟩))
/-- the zero net's cells -/
def zNet : Array Value := (Value.slice none 0 0 :: .int .i64 0 :: (falses ++ [.pointer none])).toArray
theorem info46z : (Try.prog.info? 46).map (fun i => (i.zero, i.size)) = some (some (.agg zNet), 228) := by kernel_rfl
theorem zero46 (w : World) : (zeroValue 46).run Try.prog w = .ok (.agg zNet) w := by
  have h := info46z
  cases hi : Try.prog.info? 46 with
  | none => rw [hi] at h; cases h
  | some i =>
    rw [hi] at h
    simp only [Option.map_some, Option.some.injEq, Prod.mk.injEq] at h
    simp [zeroValue, typeInfo, hi, h.1]
theorem zNet_size : zNet.size = 228 := by
  unfold zNet
  rw [List.size_toArray, List.length_cons, List.length_cons, List.length_append, falses_length]; rfl
theorem zNet_set (n : Nat) : zNet.setIfInBounds 1 (.int .i64 (n : Nat)) = (Value.slice none 0 0 :: .int .i64 (n : Nat) :: (falses ++ [.pointer none])).toArray := by
  unfold zNet
  apply Array.ext'
  rw [Array.toList_setIfInBounds]
  rfl
theorem zNet_last (n : Nat) : ((Value.slice none 0 0 :: .int .i64 (n : Nat) :: (falses ++ [.pointer none])).toArray)[227]? = some (.pointer none) := by
  rw [List.getElem?_toArray, show 227 = 225 + 1 + 1 by rfl, List.getElem?_cons_succ, List.getElem?_cons_succ, List.getElem?_append_right (by rw [falses_length]; exact Nat.le_refl _), falses_length]; rfl
theorem zNet_self (n p : Nat) : ((Value.slice none 0 0 :: .int .i64 (n : Nat) :: (falses ++ [.pointer none])).toArray).setIfInBounds 227 (.pointer (some ⟨p, 0, none⟩)) = netCells (.slice none 0 0) (Nt.new n) p := by
  unfold netCells
  apply Array.ext'
  rw [Array.toList_setIfInBounds]
  show (Value.slice none 0 0 :: Value.int .i64 (n : Nat) :: (falses ++ [.pointer none])).set 227 _ = Value.slice none 0 0 :: Value.int .i64 (n : Nat) :: ((List.replicate 225 false).map Value.bool ++ [.pointer (some ⟨p, 0, none⟩)])
  rw [show 227 = 225 + 1 + 1 by rfl, List.set_cons_succ, List.set_cons_succ, List.set_append_right _ _ (by rw [falses_length]; exact Nat.le_refl _), List.map_replicate, falses_length]; rfl
set_option maxRecDepth 100000 in
set_option maxHeartbeats 1000000 in
theorem new_yes (n : Nat) (w : World) (hn : 1 ≤ n ∧ n ≤ 15) : Calls Try.prog 10 #[.int .i64 (n : Nat)] w fun e w' => ∃ p, e = .returned (.tuple #[.pointer (some ⟨p, 0, none⟩), .int .i64 0]) ∧ Fresh w (Nt.new n) w' p := by
  have hz := zero46
  have hs := zNet_size
  have h1 := zNet_set n
  have h2 := zNet_last n
  have h3 := zNet_self n w.heap.size
  generalize zNet = Z at hz hs h1
  generalize (Value.slice none 0 0 :: .int .i64 (n : Nat) :: (falses ++ [.pointer none])).toArray = Y at h1 h2 h3
  have hF : Hid (Fresh w (Nt.new n) (w.alloc (.cells (Y.setIfInBounds 227 (.pointer (some ⟨w.heap.size, 0, none⟩))) 46)) w.heap.size) := by
    have hb := heap_alloc_new w (.cells (Y.setIfInBounds 227 (.pointer (some ⟨w.heap.size, 0, none⟩))) 46)
    rw [h3] at hb ⊢
    refine ⟨fun k => k = w.heap.size, fun _ => False, ⟨Nt.ok.new hn, .slice none 0 0, [], ?_⟩, fun k hk => ?_, (Below.refl _ w).alloc (Nat.le_refl _) _⟩
    · exact {
        block := hb
        row := World.ownsRow_nil _ _ _ _
        bag := rfl
        byt := fun v hv => by cases hv
        ow := fun k hk => by simp [Value.ownBlock] at hk
        op := rfl
        dw := fun h => by simp [Value.ownBlock] at h
        di := fun _ _ h => h
        lt := fun k hk => by
          rcases hk with hk | hk
          · rw [hk]; exact lt_of_block hb
          · exact hk.elim }
    · rcases hk with hk | hk
      · omega
      · exact hk.elim
  have ha1 : ¬ ((n : Int) < 1) := by omega
  have ha2 : ¬ (15 < (n : Int)) := by omega
  clear h3
  go_enter Try.func10, Try.ntmps10
  go_wp2
  go_ret2
  exact ⟨_, rfl, hF.out⟩
end Go.Proofs.Ytbmebmkpjbgdoaa
