/- The smallest functions over marks: mark, may, the closures, last, Last; the document's MayMark, Last. -/
import Derived.Test.YtclchlcfcnlmhaaMath
import Derived.Shelf.Abstract
import Derived.Maps.OwnOps
namespace Go.Proofs.Ytclchlcfcnlmhaa
open Go.RowKit Go.Maps Go.Shelf
theorem mark_any (p s o : Int) (w : World) : Calls Try.prog 31 #[.int .i64 p, .int .u64 s, .int .u64 o] w fun e w' => e = .returned (⟨p, s, o⟩ : MK).val ∧ Below w.heap.size w w' := by
  have HX := Lib.hid (BoxC.new w 26 #[.int .i64 p, .int .u64 s, .int .u64 o])
  have HB := Lib.hid (Go.Joins.below_alloc1 w (.cells #[.int .i64 p, .int .u64 s, .int .u64 o] 26))
  go_enter Try.func31, Try.ntmps31
  go_wp2
  refine bodyPost_ret (results_cell_row rfl _ _ w.heap.size 26 _ (0, 0) _ rfl HX.out Try.underlying26 rfl (by kernel_rfl)) rfl ?_
  exact ⟨rfl, HB.out⟩
def MK.mayB (m : MK) : Bool := ((((decide (1 ≤ m.p) && decide (m.p ≤ 15)) && decide (1 ≤ m.s)) && decide (m.s ≤ 4611686018427387903)) && decide (m.o ≤ 4611686018427387903))
theorem MK.mayB_iff {m : MK} (h : m.ok) : m.mayB = true ↔ m.may := by
  unfold MK.mayB MK.may
  simp only [Bool.and_eq_true, decide_eq_true_eq]
  obtain ⟨-, ⟨a, -⟩, b, -⟩ := h
  constructor
  · rintro ⟨⟨⟨⟨h1, h2⟩, h3⟩, h4⟩, h5⟩; exact ⟨⟨h1, h2⟩, ⟨h3, h4⟩, b, h5⟩
  · rintro ⟨⟨h1, h2⟩, ⟨h3, h4⟩, -, h5⟩; exact ⟨⟨⟨⟨h1, h2⟩, h3⟩, h4⟩, h5⟩
set_option maxHeartbeats 1000000 in
theorem may_any (m : MK) (w : World) : Calls Try.prog 34 #[m.val] w fun e w' => e = .returned (.bool m.mayB) ∧ Below w.heap.size w w' := by
  obtain ⟨p, s, o⟩ := m
  have HB := Lib.hid (Go.Joins.below_alloc1 w (.cells #[.int .i64 p, .int .u64 s, .int .u64 o] 26))
  by_cases h1 : 1 ≤ p
  · by_cases h2 : p ≤ 15
    · by_cases h3 : 1 ≤ s
      · by_cases h4 : s ≤ 4611686018427387903
        · by_cases h5 : o ≤ 4611686018427387903
          all_goals go_enter Try.func34, Try.ntmps34
          all_goals go_wp2
          all_goals go_ret
          all_goals exact ⟨by first | (simp_all [MK.mayB]; done) | (simp_all [MK.mayB]; omega), HB.out⟩
        · go_enter Try.func34, Try.ntmps34
          go_wp2
          go_ret
          exact ⟨by first | (simp_all [MK.mayB]; done) | (simp_all [MK.mayB]; omega), HB.out⟩
      · go_enter Try.func34, Try.ntmps34
        go_wp2
        go_ret
        exact ⟨by first | (simp_all [MK.mayB]; done) | (simp_all [MK.mayB]; omega), HB.out⟩
    · go_enter Try.func34, Try.ntmps34
      go_wp2
      go_ret
      exact ⟨by first | (simp_all [MK.mayB]; done) | (simp_all [MK.mayB]; omega), HB.out⟩
  · go_enter Try.func34, Try.ntmps34
    go_wp2
    go_ret
    exact ⟨by first | (simp_all [MK.mayB]; done) | (simp_all [MK.mayB]; omega), HB.out⟩
/-- Last's closure -/
theorem of_any (m : MK) (p : Int) (g : Nat) (w : World) (hc : w.cell? ⟨g, 0, none⟩ = some (.int .i64 p)) : Calls Try.prog 33 #[m.val, .pointer (some ⟨g, 0, none⟩)] w fun e w' => e = .returned (.bool (decide (m.p = p))) ∧ Below w.heap.size w w' := by
  obtain ⟨p', s, o⟩ := m
  have HB := Lib.hid (Go.Joins.below_alloc1 w (.cells #[.int .i64 p', .int .u64 s, .int .u64 o] 26))
  have c0 : (w.alloc (.cells #[.int .i64 p', .int .u64 s, .int .u64 o] 26)).cell? ⟨g, 0, none⟩ = some (.int .i64 p) := (HB.out.cell (p := ⟨g, 0, none⟩) (World.block_lt_of_cell? w _ hc)).trans hc
  go_enter Try.func33, Try.ntmps33
  go_wp2
  go_ret
  exact ⟨by show Ending.returned (.bool (p' == p)) = _; by_cases h : p' = p <;> simp [h], HB.out⟩
/-- into's closure -/
theorem upto_any (m : MK) (x : MK) (g : Nat) (w : World) (hc : w.cell? ⟨g, 0, none⟩ = some (.int .i64 x.p)) : Calls Try.prog 52 #[m.val, .pointer (some ⟨g, 0, none⟩)] w fun e w' => e = .returned (.bool (decide (m.p ≤ x.p))) ∧ Below w.heap.size w w' := by
  obtain ⟨p', s, o⟩ := m
  have HB := Lib.hid (Go.Joins.below_alloc1 w (.cells #[.int .i64 p', .int .u64 s, .int .u64 o] 26))
  have c0 : (w.alloc (.cells #[.int .i64 p', .int .u64 s, .int .u64 o] 26)).cell? ⟨g, 0, none⟩ = some (.int .i64 x.p) := (HB.out.cell (p := ⟨g, 0, none⟩) (World.block_lt_of_cell? w _ hc)).trans hc
  go_enter Try.func52, Try.ntmps52
  go_wp2
  go_ret
  exact ⟨rfl, HB.out⟩
/-- Cut's closure -/
theorem atOr_any (m : MK) (at' : Int) (g : Nat) (w : World) (hc : w.cell? ⟨g, 0, none⟩ = some (.int .u64 at')) : Calls Try.prog 40 #[m.val, .pointer (some ⟨g, 0, none⟩)] w fun e w' => e = .returned (.bool (decide (at' ≤ m.o))) ∧ Below w.heap.size w w' := by
  obtain ⟨p', s, o⟩ := m
  have HB := Lib.hid (Go.Joins.below_alloc1 w (.cells #[.int .i64 p', .int .u64 s, .int .u64 o] 26))
  have c0 : (w.alloc (.cells #[.int .i64 p', .int .u64 s, .int .u64 o] 26)).cell? ⟨g, 0, none⟩ = some (.int .u64 at') := (HB.out.cell (p := ⟨g, 0, none⟩) (World.block_lt_of_cell? w _ hc)).trans hc
  go_enter Try.func40, Try.ntmps40
  go_wp2
  go_ret
  exact ⟨rfl, HB.out⟩
theorem asks_of (p : Int) (g : Nat) (w : World) (hc : w.cell? ⟨g, 0, none⟩ = some (.int .i64 p)) : AsksAt w 33 (.pointer (some ⟨g, 0, none⟩)) fun m => decide (m.p = p) :=
  ⟨enters_of Try.func33 (by kernel_rfl) rfl, fun W hW x _ => of_any x p g W ((hW.cell (p := ⟨g, 0, none⟩) (World.block_lt_of_cell? w _ hc)).trans hc)⟩
theorem asks_upto (y : MK) (g : Nat) (w : World) (hc : w.cell? ⟨g, 0, none⟩ = some (.int .i64 y.p)) : AsksAt w 52 (.pointer (some ⟨g, 0, none⟩)) fun m => decide (m.p ≤ y.p) :=
  ⟨enters_of Try.func52 (by kernel_rfl) rfl, fun W hW x _ => upto_any x y g W ((hW.cell (p := ⟨g, 0, none⟩) (World.block_lt_of_cell? w _ hc)).trans hc)⟩
theorem asks_from (a : Int) (g : Nat) (w : World) (hc : w.cell? ⟨g, 0, none⟩ = some (.int .u64 a)) : AsksAt w 40 (.pointer (some ⟨g, 0, none⟩)) fun m => decide (a ≤ m.o) :=
  ⟨enters_of Try.func40 (by kernel_rfl) rfl, fun W hW x _ => atOr_any x a g W ((hW.cell (p := ⟨g, 0, none⟩) (World.block_lt_of_cell? w _ hc)).trans hc)⟩
set_option maxHeartbeats 400000 in
/-- last: where the last one stands that is meant -/
theorem lastf_any (v : Value) (l : List MK) (f : Nat) (c : Value) (p : MK → Bool) (w : World) (hp : MsAt w v l) (ha : AsksAt w f c p) :
    Calls Try.prog 32 #[v, .func (.func f) #[] #[c]] w fun e w' => ∃ z : Int, e = .returned (.int .i64 z) ∧ ((z = -1 ∧ ∀ q ∈ l, p q = false) ∨ ∃ k : Nat, z = k ∧ (∃ q, l[k]? = some q ∧ p q = true) ∧ ∀ j q, k < j → l[j]? = some q → p q = false) ∧ Below w.heap.size w w' := by
  have HP := Lib.hid hp
  have HA := Lib.hid ha
  have hen := ha.enters
  obtain ⟨a, cap, rfl, hlen, -⟩ := hp
  obtain ⟨L, hL⟩ : ∃ L, l.length = L := ⟨_, rfl⟩
  rw [hL] at hlen HP ⊢
  have HL := Lib.hid hL
  clear hL ha
  go_enter Try.func32, Try.ntmps32
  go_wp2
  go_loopw [5] (fun i wr => ∃ k : Nat, k ≤ L ∧ i = .int .i64 ((k : Int) - 1) ∧ Hid (Below w.heap.size w wr ∧ ∀ j q, k ≤ j → l[j]? = some q → p q = false)) (fun i _ => (intOf i + 1).toNat)
  case atStart => exact ⟨L, Nat.le_refl _, rfl, Below.refl _ _, fun j q hj hq => by have := (List.getElem?_eq_some_iff.1 hq).1; have := HL.out; omega⟩
  case round =>
    obtain ⟨k, hk, rfl, HR⟩ := hrel
    rcases Nat.eq_zero_or_pos k with rfl | h0
    · have HB := Lib.hid HR.out
      clear HR
      go_wp2
      go_ret
      exact ⟨_, rfl, .inl ⟨rfl, fun q hq => by obtain ⟨j, hj⟩ := List.getElem?_of_mem hq; exact HB.out.2 j q (Nat.zero_le _) hj⟩, HB.out.1⟩
    · obtain ⟨n, rfl⟩ : ∃ n, k = n + 1 := ⟨k - 1, by omega⟩
      obtain ⟨x, hx⟩ : ∃ x, l[n]? = some x := ⟨_, List.getElem?_eq_getElem (by rw [HL.out]; omega)⟩
      have e1 : ((n + 1 : Nat) : Int) - 1 = (n : Nat) := by omega
      rw [e1]
      have hge : (0 : Int) ≤ (n : Int) := by omega
      have hltz : (n : Int) < (L : Int) := by omega
      obtain ⟨b, off, rfl, hb, hc⟩ := MsAt.cell (HP.out.below HR.out.1) hx
      obtain ⟨c0, c1, c2⟩ := hc wr (Below.refl _ _)
      have HN := Lib.hid (HA.out.calls wr HR.out.1 x (HP.out.ok x (List.mem_of_getElem? hx)))
      have HX := Lib.hid hx
      clear hc hx hb e1 h0
      cases hz : p x
      · rw [hz] at HN
        have HZ := Lib.hid hz
        clear hz
        go_wp2_with fail
        refine HN.out.mono ?_
        rintro e w3 ⟨rfl, hb3⟩
        have HB := Lib.hid (HR.out.1.trans (hb3.mono HR.out.1.size))
        clear hb3
        go_wp2
        go_roundw
        case rel =>
          refine ⟨n, by omega, by go_num, HB.out, fun j q hj hq => ?_⟩
          rcases Nat.lt_or_ge n j with h | h
          · exact HR.out.2 j q h hq
          · obtain rfl : j = n := by omega
            rw [HX.out] at hq
            cases hq
            exact HZ.out
        case measure => simp [intOf]
      · rw [hz] at HN
        have HZ := Lib.hid hz
        clear hz
        go_wp2_with fail
        refine HN.out.mono ?_
        rintro e w3 ⟨rfl, hb3⟩
        have HB := Lib.hid (HR.out.1.trans (hb3.mono HR.out.1.size))
        clear hb3
        go_wp2
        go_ret
        exact ⟨_, rfl, .inr ⟨n, rfl, ⟨x, HX.out, HZ.out⟩, fun j q hj hq => HR.out.2 j q hj hq⟩, HB.out⟩
end Go.Proofs.Ytclchlcfcnlmhaa
