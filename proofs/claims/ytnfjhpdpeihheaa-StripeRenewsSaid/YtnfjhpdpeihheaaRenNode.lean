/- The document's node. -/
import Derived.Test.YtnfjhpdpeihheaaRenewM
namespace Go.Proofs.Ytnfjhpdpeihheaa
open Go.RowKit Go.Maps Go.Shelf
set_option maxRecDepth 100000 in
set_option maxHeartbeats 1000000 in
theorem node_any (v : Value) (l : List PL) (nn but : Int) (B : Bool) (w : World) (hp : PsAt w v l) (hl : l.length ≤ 100000) (hB : B = true ↔ ∃ (i : Nat) (y : PL), (i : Int) ≠ but ∧ l[i]? = some y ∧ y.n = nn) :
    Calls Try.prog 49 #[v, .int .i64 nn, .int .i64 but] w fun e w' => e = .returned (.bool B) ∧ Below w.heap.size w w' := by
  have HP := Lib.hid hp
  have HBB := Lib.hid hB
  obtain ⟨a, cap, rfl, hlen, -⟩ := hp
  obtain ⟨L, hL⟩ : ∃ L, l.length = L := ⟨_, rfl⟩
  rw [hL] at hlen HP hl ⊢
  have HL := Lib.hid hL
  clear hL hB
  go_enter Try.func49, Try.ntmps49
  go_wp2
  go_loopw [7] (fun i wr => ∃ k : Nat, k ≤ L ∧ i = .int .i64 (k : Nat) ∧ Hid (∀ (j : Nat) y, j < k → (j : Int) ≠ but → l[j]? = some y → y.n ≠ nn) ∧ Hid (Below w.heap.size w wr)) (fun i _ => L - (intOf i).toNat)
  case atStart => exact ⟨0, Nat.zero_le _, rfl, (fun j y hj => absurd hj (Nat.not_lt_zero j)), Below.refl _ _⟩
  case round =>
    obtain ⟨k, hk, rfl, HN, HB⟩ := hrel
    by_cases hlt : k < L
    · obtain ⟨y, hy⟩ : ∃ y, l[k]? = some y := ⟨_, List.getElem?_eq_getElem (by rw [HL.out]; exact hlt)⟩
      have hltz : (k : Int) < (L : Int) := by omega
      obtain ⟨b, off, rfl, hb, hc⟩ := PsAt.cell (HP.out.below HB.out) hy
      obtain ⟨c0, c1⟩ := hc wr (Below.refl _ _)
      have HYM := Lib.hid hy
      clear hc hy hb
      by_cases hkb : (k : Int) = but
      · have hb1 : ((k : Int) != but) = false := by simp [hkb]
        have HN2 := Lib.hid (show ∀ (j : Nat) y, j < k + 1 → (j : Int) ≠ but → l[j]? = some y → y.n ≠ nn from fun j z hj hjb hz => by
          rcases Nat.lt_or_ge j k with h | h
          · exact HN.out j z h hjb hz
          · exact absurd (show (j : Int) = but by rw [← hkb]; omega) hjb)
        clear hkb
        go_wp2
        go_roundw
        case rel => exact ⟨k + 1, by omega, by go_num, HN2.out, HB.out⟩
        case measure => simp [intOf]; omega
      · have hb1 : ((k : Int) != but) = true := by simp [hkb]
        by_cases hyn : y.n = nn
        · have hb2 : (y.n == nn) = true := by simpa using hyn
          obtain rfl : B = true := HBB.out.2 ⟨k, y, hkb, HYM.out, hyn⟩
          clear hkb hyn
          go_wp2
          go_ret
          exact ⟨rfl, HB.out⟩
        · have hb2 : (y.n == nn) = false := by simpa using hyn
          have HN2 := Lib.hid (show ∀ (j : Nat) y, j < k + 1 → (j : Int) ≠ but → l[j]? = some y → y.n ≠ nn from fun j z hj hjb hz => by
            rcases Nat.lt_or_ge j k with h | h
            · exact HN.out j z h hjb hz
            · obtain rfl : j = k := by omega
              rw [HYM.out] at hz
              cases hz
              exact hyn)
          clear hkb hyn
          go_wp2
          go_roundw
          case rel => exact ⟨k + 1, by omega, by go_num, HN2.out, HB.out⟩
          case measure => simp [intOf]; omega
    · obtain rfl : k = L := by omega
      obtain rfl : B = false := by
        cases B
        · rfl
        · obtain ⟨j, y, h1, h2, h3⟩ := HBB.out.1 rfl
          exact absurd h3 (HN.out j y (by rw [← HL.out]; exact (List.getElem?_eq_some_iff.1 h2).1) h1 h2)
      go_wp2
      go_ret
      exact ⟨rfl, HB.out⟩
end Go.Proofs.Ytnfjhpdpeihheaa
