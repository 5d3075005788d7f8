/- The document's Quorum. -/
import Derived.Test.YtomoomeocolkmaaMet
import Derived.Test.YtomoomeocolkmaaSmallC
import Derived.BigQuiet
namespace Go.Proofs.Ytomoomeocolkmaa
open Go.RowKit
theorem drewN_below {B : Nat} {a w : World} (h : Below B a w) (q : Nat) : Below B a (w.drewN q) := ⟨h.os, h.tape, h.output, h.size, h.block⟩
/-- is x a node of 1 to n that is not among the first k -/
def firstB (n x : Int) (l : List Int) (k : Nat) : Bool := decide (1 ≤ x ∧ x ≤ n ∧ x ∉ l.take k)
theorem first_succ (n x : Int) (l : List Int) (k : Nat) (y : Int) (h : l[k]? = some y) : firstB n x l (k + 1) = (firstB n x l k && (y != x)) := by
  obtain ⟨hk, he⟩ := List.getElem?_eq_some_iff.1 h
  unfold firstB
  rw [List.take_succ_eq_append_getElem hk, he, Bool.eq_iff_iff]
  simp only [decide_eq_true_eq, Bool.and_eq_true, List.mem_append, List.mem_singleton, bne_iff_ne, ne_eq, not_or]
  exact ⟨fun h => ⟨⟨h.1, h.2.1, h.2.2.1⟩, fun e => h.2.2.2 e.symm⟩, fun h => ⟨h.1.1, h.1.2.1, h.1.2.2, fun e => h.2 e.symm⟩⟩
theorem IntsAt.cell {w : World} {a : Option Addr} {len cap : Nat} {l : List Int} (h : IntsAt w (.slice a len cap) l) {k : Nat} {x : Int} (hx : l[k]? = some x) :
    ∃ b off, a = some ⟨b, off, none⟩ ∧ b < w.heap.size ∧ len = l.length ∧ ∀ j y, l[j]? = some y → w.cell? ⟨b, off + j, none⟩ = some (.int .i64 y) := by
  obtain ⟨a', cap', hv, _, _, _, h⟩ := h
  cases hv
  have hk := (List.getElem?_eq_some_iff.1 hx).1
  obtain ⟨b, off, ha, hb, hc⟩ := h (by omega)
  exact ⟨b, off, ha, hb, rfl, fun j y hj => by have := (hc j y hj).2 0 (by omega); rwa [Nat.mul_one, Nat.add_zero] at this⟩
set_option maxRecDepth 100000 in
set_option maxHeartbeats 1000000 in
theorem rquorum_any (n : Int) (v : Value) (l : List Int) (w : World) (hn : -9223372036854775808 ≤ n ∧ n ≤ 9223372036854775807) (hp : IntsAt w v l) (hl : l.length ≤ 100000) :
    Calls Try.prog 23 #[.int .i64 n, v] w fun e w' => e = .returned (.bool (quorum n l)) ∧ Below w.heap.size w w' := by
  by_cases h1 : n < 1
  · have hq : quorum n l = false := by simp only [quorum, decide_eq_false (show ¬ 1 ≤ n by omega), Bool.false_and]
    rw [hq]
    clear hp hq
    go_enter Try.func23, Try.ntmps23
    go_wp2
    go_ret
    exact ⟨rfl, Below.refl _ _⟩
  · have HP := Lib.hid hp
    obtain ⟨Q, hQ⟩ : ∃ Q, quorum n l = Q := ⟨_, rfl⟩
    rw [hQ]
    have HQ := Lib.hid (show Q = decide (half n ≤ (met n.toNat l : Int)) by rw [← hQ]; simp only [quorum, decide_eq_true (show 1 ≤ n by omega), Bool.true_and])
    have HHALF := Lib.hid (fun w => rhalf_any n hn.2 w)
    obtain ⟨N, hN⟩ : ∃ N : Nat, n.toNat = N := ⟨_, rfl⟩
    have HN := Lib.hid (show n = N by omega)
    rw [hN] at HQ
    obtain ⟨a, cap, rfl, _⟩ := hp
    obtain ⟨L, hL⟩ : ∃ L, l.length = L := ⟨_, rfl⟩
    rw [hL] at hl HP ⊢
    have HL := Lib.hid hL
    have HLB := Lib.hid hl
    have hLm : L ≤ 9223372036854775807 := by omega
    clear hQ hN hL hl
    go_enter Try.func23, Try.ntmps23
    go_wp2
    go_loopw [5, 6] (fun c i wr => ∃ k : Nat, k ≤ L ∧ i = .int .i64 (k : Nat) ∧ c = .int .i64 (met N (l.take k) : Nat) ∧ Hid (Below w.heap.size w wr ∧ met N (l.take k) ≤ k)) (fun _ i _ => L - (intOf i).toNat)
    case atStart => exact ⟨0, Nat.zero_le _, rfl, by simp [met_nil], Below.refl _ _, by simp [met_nil]⟩
    case round =>
      obtain ⟨i, hi, rfl, rfl, HR⟩ := hrel
      obtain ⟨wo, rfl⟩ : ∃ wo : World, wo = wr := ⟨_, rfl⟩
      by_cases hlt : i < L
      · have hltz : (i : Int) < (L : Int) := by omega
        obtain ⟨x, hx⟩ : ∃ x, l[i]? = some x := ⟨_, List.getElem?_eq_getElem (by rw [HL.out]; exact hlt)⟩
        obtain ⟨b, off, rfl, hb, -, hc⟩ := (HP.out.below HR.out.1).cell hx
        have cx := hc i x hx
        have HC := Lib.hid (show ∀ W, Below wo.heap.size wo W → ∀ j y, l[j]? = some y → W.cell? ⟨b, off + j, none⟩ = some (.int .i64 y) from fun W hb' j y hj => by rw [hb'.cell (show (⟨b, off + j, none⟩ : Addr).block < _ from hb)]; exact hc j y hj)
        have HX := Lib.hid hx
        have HF0 := Lib.hid (show firstB n x l 0 = (decide (1 ≤ x) && decide (x ≤ n)) by simp [firstB])
        have HS := Lib.hid (show met N (l.take (i + 1)) = met N (l.take i) + (if firstB n x l i = true then 1 else 0) by
          obtain ⟨hk, he⟩ := List.getElem?_eq_some_iff.1 hx
          rw [List.take_succ_eq_append_getElem hk, he, met_app, firstB, HN.out]
          simp only [decide_eq_true_eq])
        clear hc hb hx
        generalize hC : met N (l.take i) = C at HR HS ⊢
        clear hC
        by_cases h1x : 1 ≤ x
        · have HF1 := Lib.hid (show firstB n x l 0 = decide (x ≤ n) by rw [HF0.out]; simp [h1x])
          go_wp2
          go_loopw [7, 8] (fun f j wr => ∃ k : Nat, k ≤ i ∧ j = .int .i64 (k : Nat) ∧ f = .bool (firstB n x l k) ∧ Hid (Below wo.heap.size wo wr)) (fun _ j _ => i - (intOf j).toNat)
          case atStart => exact ⟨0, Nat.zero_le _, rfl, by rw [HF1.out], Below.refl _ _⟩
          case round =>
            obtain ⟨k, hk, rfl, rfl, HW⟩ := hrel
            by_cases hki : k < i
            · have hkiz : (k : Int) < (i : Int) := by omega
              obtain ⟨y, hy⟩ : ∃ y, l[k]? = some y := ⟨_, List.getElem?_eq_getElem (by rw [HL.out]; omega)⟩
              have ck := HC.out wr HW.out k y hy
              have ci := HC.out wr HW.out i x HX.out
              have hkL : (k : Int) < (L : Int) := by omega
              have HFS := Lib.hid (first_succ n x l k y hy)
              clear hy
              generalize firstB n x l k = f at HFS
              cases f
              · go_wp2_with fail
                go_quiet (fail)
                go_wp2
                go_roundw
                case rel => exact ⟨k + 1, by omega, by go_num, by rw [HFS.out]; rfl, drewN_below HW.out _⟩
                case measure => simp [intOf]; omega
              · go_wp2_with fail
                go_quiet (fail)
                go_wp2
                go_roundw
                case rel => exact ⟨k + 1, by omega, by go_num, by rw [HFS.out]; rfl, drewN_below HW.out _⟩
                case measure => simp [intOf]; omega
            · obtain rfl : k = i := by omega
              have HWW := Lib.hid (HR.out.1.trans (HW.out.mono HR.out.1.size))
              have hCk := HR.out.2
              generalize firstB n x l k = f at HS
              cases f
              · have HS2 := Lib.hid (show met N (l.take (k + 1)) = C by rw [HS.out]; simp)
                clear HS HW HF1 HF0 HC
                go_wp2
                go_roundw
                case rel => exact ⟨k + 1, by omega, by go_num, by rw [HS2.out], HWW.out, by rw [HS2.out]; omega⟩
                case measure => simp [intOf]; omega
              · have HS2 := Lib.hid (show met N (l.take (k + 1)) = C + 1 by rw [HS.out]; simp)
                clear HS HW HF1 HF0 HC
                have hkl := HLB.out
                go_wp2
                go_roundw
                case rel => exact ⟨k + 1, by omega, by go_num, by rw [HS2.out]; go_num, HWW.out, by rw [HS2.out]; omega⟩
                case measure => simp [intOf]; omega
        · have HF1 := Lib.hid (show firstB n x l 0 = false by rw [HF0.out]; simp [h1x])
          go_wp2
          go_loopw [7, 8] (fun f j wr => ∃ k : Nat, k ≤ i ∧ j = .int .i64 (k : Nat) ∧ f = .bool (firstB n x l k) ∧ Hid (Below wo.heap.size wo wr)) (fun _ j _ => i - (intOf j).toNat)
          case atStart => exact ⟨0, Nat.zero_le _, rfl, by rw [HF1.out], Below.refl _ _⟩
          case round =>
            obtain ⟨k, hk, rfl, rfl, HW⟩ := hrel
            by_cases hki : k < i
            · have hkiz : (k : Int) < (i : Int) := by omega
              obtain ⟨y, hy⟩ : ∃ y, l[k]? = some y := ⟨_, List.getElem?_eq_getElem (by rw [HL.out]; omega)⟩
              have ck := HC.out wr HW.out k y hy
              have ci := HC.out wr HW.out i x HX.out
              have hkL : (k : Int) < (L : Int) := by omega
              have HFS := Lib.hid (first_succ n x l k y hy)
              clear hy
              generalize firstB n x l k = f at HFS
              cases f
              · go_wp2_with fail
                go_quiet (fail)
                go_wp2
                go_roundw
                case rel => exact ⟨k + 1, by omega, by go_num, by rw [HFS.out]; rfl, drewN_below HW.out _⟩
                case measure => simp [intOf]; omega
              · go_wp2_with fail
                go_quiet (fail)
                go_wp2
                go_roundw
                case rel => exact ⟨k + 1, by omega, by go_num, by rw [HFS.out]; rfl, drewN_below HW.out _⟩
                case measure => simp [intOf]; omega
            · obtain rfl : k = i := by omega
              have HWW := Lib.hid (HR.out.1.trans (HW.out.mono HR.out.1.size))
              have hCk := HR.out.2
              generalize firstB n x l k = f at HS
              cases f
              · have HS2 := Lib.hid (show met N (l.take (k + 1)) = C by rw [HS.out]; simp)
                clear HS HW HF1 HF0 HC
                go_wp2
                go_roundw
                case rel => exact ⟨k + 1, by omega, by go_num, by rw [HS2.out], HWW.out, by rw [HS2.out]; omega⟩
                case measure => simp [intOf]; omega
              · have HS2 := Lib.hid (show met N (l.take (k + 1)) = C + 1 by rw [HS.out]; simp)
                clear HS HW HF1 HF0 HC
                have hkl := HLB.out
                go_wp2
                go_roundw
                case rel => exact ⟨k + 1, by omega, by go_num, by rw [HS2.out]; go_num, HWW.out, by rw [HS2.out]; omega⟩
                case measure => simp [intOf]; omega
      · obtain rfl : i = L := by omega
        rw [List.take_of_length_le (by rw [HL.out]; exact Nat.le_refl _)] at HR ⊢
        generalize met N l = C at HR HQ ⊢
        have HB := Lib.hid HR.out.1
        clear HR HP
        go_wp2_with (go_at_call 21; refine (HHALF.out _).mono ?_; rintro e w6 ⟨rfl, rfl⟩)
        go_ret
        exact ⟨by rw [HQ.out]; rfl, HB.out⟩
end Go.Proofs.Ytomoomeocolkmaa
