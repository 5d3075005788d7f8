/- The closure of sum.Of: a byte is handed to the register. -/
import Derived.Test.YtimgbemdkajemaaDoorProg
import Derived.Test.YtimgbemdkajemaaDoorCrcRef
import Derived.WalkKit
import Derived.RegionTactic
import Derived.ChangeAlike
import Derived.OwnWalk
import Derived.OneCell
import Derived.Outline
import Derived.Laws.BitsAllLaws
import Derived.Lib.Hide
namespace Go.Proofs.YtimgbemdkajemaaDoor
open Go.RowKit Crc
/-- the two tables of package sum, as they lie -/
structure Tabs (w : World) : Prop where
  size : 2 ≤ w.heap.size
  halves : ∀ i : Nat, i < 16 → w.cell? ⟨0, i, none⟩ = some (.int .u32 (half i : Nat))
  places : ∃ t fr, w.heap[1]? = some (.cells #[.int .i64 0, .int .i64 8, .int .i64 16, .int .i64 24] t fr)
theorem Tabs.below {w w' : World} {B : Nat} (h : Tabs w) (hb : Below B w w') (hB : w.heap.size ≤ B) : Tabs w' :=
  ⟨by have := hb.size; have := h.size; omega,
   fun i hi => by have := h.size; rw [hb.cell (p := ⟨0, i, none⟩) (by show 0 < B; omega)]; exact h.halves i hi,
   by obtain ⟨t, fr, hp⟩ := h.places; have := h.size; exact ⟨t, fr, by rw [hb.block 1 (by omega)]; exact hp⟩⟩

/-- what a call of the closure leaves: the register's cell, nothing else -/
structure Turned (B n : Nat) (w w' : World) : Prop where
  block : w'.heap[B]? = some (.cells #[.int .u32 (n : Nat)] 25 (0, 0))
  below : Below B w w'
  size : w'.heap.size = w.heap.size
theorem turned_of {w W : World} {B n : Nat} {v v1 v2 : Value} (hb : w.heap[B]? = some (.cells #[v] 25 (0, 0)))
    (hw : W = (((w.setCell ⟨B, 0, none⟩ v1).setCell ⟨B, 0, none⟩ v2).setCell ⟨B, 0, none⟩ (.int .u32 (n : Nat))).drew.drew) : Turned B n w W := by
  subst hw
  exact ⟨one_setCell (one_setCell (one_setCell hb)), ((((Below.refl B w).setCell (p := ⟨B, 0, none⟩) (Nat.le_refl _) _).setCell (p := ⟨B, 0, none⟩) (Nat.le_refl _) _).setCell (p := ⟨B, 0, none⟩) (Nat.le_refl _) _).drew.drew, by simp [World.setCell, World.drew]⟩
theorem turn_any (r b : Nat) (hr : r < 4294967296) (hb : b < 256) (B : Nat) (w : World) (hB : 0 < B) (hT : Tabs w)
    (hc : w.heap[B]? = some (.cells #[.int .u32 (r : Nat)] 25 (0, 0))) :
    Calls Tryd.prog 15 #[.int .u8 b, .pointer (some ⟨B, 0, none⟩)] w fun e w' => e = .returned (.tuple #[]) ∧ Turned B (turn r b) w w' := by
  have HC := Lib.hid hc
  have hcell := cell_of_one hc
  have hfree := free_of_one hc
  clear hc
  have hT0 := hT.halves
  clear hT
  unfold turn
  have hx : bits .xor .u32 (r : Int) (b : Int) = ((r ^^^ b : Nat) : Int) := u32_xor_nat r b hr (by omega)
  have hxl : r ^^^ b < 4294967296 := Nat.xor_lt_two_pow (n := 32) hr (by omega)
  generalize r ^^^ b = x at hx hxl ⊢
  have ha : bits .and .u32 (x : Int) 15 = ((x % 16 : Nat) : Int) := by
    have := u32_and_nat x 15 hxl (by decide); rw [nat_mask4] at this; exact this
  have h0 := hT0 (x % 16) (by omega)
  have hn : bits .xor .u32 ((x : Int) / 16) ((half (x % 16) : Nat) : Int) = ((nib x : Nat) : Int) := u32_xor_nat (x / 16) _ (by omega) (half_lt _)
  have hnl := nib_lt x hxl
  generalize nib x = y at hn hnl ⊢
  have ha2 : bits .and .u32 (y : Int) 15 = ((y % 16 : Nat) : Int) := by
    have := u32_and_nat y 15 hnl (by decide); rw [nat_mask4] at this; exact this
  have h02 := hT0 (y % 16) (by omega)
  have hn2 : bits .xor .u32 ((y : Int) / 16) ((half (y % 16) : Nat) : Int) = ((nib y : Nat) : Int) := u32_xor_nat (y / 16) _ (by omega) (half_lt _)
  clear hT0
  go_enter Tryd.func15, Tryd.ntmps15
  go_wp2
  go_region
  all_goals (go_wp2; go_region)
  all_goals go_end0
  all_goals exact ⟨rfl, turned_of HC.out rfl⟩
end Go.Proofs.YtimgbemdkajemaaDoor
