/- The document's reader: a wide number; how many digits stand at the front. -/
import Derived.Test.YtniogemgkcoimaaRdr1
import Derived.Test.YtniogemgkcoimaaRead1
namespace Go.Proofs.Ytniogemgkcoimaa
open Go.RowKit
theorem ofLe_lt (l : List UInt8) : ofLe l < 256 ^ l.length := by
  induction l with
  | nil => simp [ofLe]
  | cons b t ih =>
    have := b.toNat_lt
    rw [List.length_cons, Nat.pow_succ, ofLe]
    omega
theorem ofLe_step (B : List UInt8) (i : Nat) (h : i < B.length) : ofLe (B.drop i) = (B.getD i 0).toNat + 256 * ofLe (B.drop (i + 1)) := by
  rw [List.drop_eq_getElem_cons h, ofLe, List.getD_eq_getElem?_getD, List.getElem?_eq_getElem h]; rfl
theorem ofLe_small (B : List UInt8) (i : Nat) (h4 : B.length ≤ 4) : ofLe (B.drop i) < 4294967296 ∧ (0 < i → i ≤ B.length → ofLe (B.drop i) < 16777216) := by
  have h := ofLe_lt (B.drop i)
  constructor
  · exact Nat.lt_of_lt_of_le h (Nat.pow_le_pow_right (by omega) (show _ ≤ 4 by simp; omega))
  · intro hi hl
    exact Nat.lt_of_lt_of_le h (Nat.pow_le_pow_right (by omega) (show _ ≤ 3 by simp; omega))
def WideRel (w1 wr : World) (B : List UInt8) (i X : Nat) : Prop := w1 = wr ∧ X = ofLe (B.drop i)
set_option maxRecDepth 100000 in
set_option maxHeartbeats 400000 in
theorem rWide_no (g n : Nat) (s : RS) (w : World) (hr : RefAt w g s) (hl : s.l.length ≤ 1000000) (hn : s.l.length < n ∨ s.bad = true) :
    Calls Try.prog 20 #[.pointer (some ⟨g, 0, none⟩), .int .i64 (n : Nat)] w fun e w' => e = .returned (.int .u64 0) ∧ RefAt w' g ⟨s.l, true⟩ ∧ Chg [g] w w' := by
  have HR := Lib.hid hr
  clear hr
  go_enter Try.func20, Try.ntmps20
  go_wp2_with fail
  refine (rRaw_no g (n : Nat) s w HR.out hl (by rcases hn with h | h; exact .inr (.inl (by omega)); exact .inr (.inr h))).mono ?_
  rintro e w1 ⟨rfl, hr, hc⟩
  have HF := Lib.hid (And.intro hr hc)
  clear hr hc
  go_wp2_with fail
  go_loopw [6, 7] (fun x i wr => x = .int .u64 0 ∧ i = .int .i64 0 ∧ w1 = wr) (fun _ i _ => (intOf i).toNat)
  case atStart => exact ⟨rfl, rfl, rfl⟩
  case round =>
    obtain ⟨rfl, rfl, rfl⟩ := hrel
    go_wp2
    go_ret
    exact ⟨rfl, HF.out⟩
set_option maxRecDepth 100000 in
set_option maxHeartbeats 400000 in
theorem rWide_yes (g n : Nat) (l : List UInt8) (w : World) (hr : RefAt w g ⟨l, false⟩) (hl : l.length ≤ 1000000) (hn : n ≤ l.length) (h4 : n ≤ 4) :
    Calls Try.prog 20 #[.pointer (some ⟨g, 0, none⟩), .int .i64 (n : Nat)] w fun e w' => e = .returned (.int .u64 (ofLe (l.take n) : Nat)) ∧ RefAt w' g ⟨l.drop n, false⟩ ∧ Chg [g] w w' := by
  have HR := Lib.hid hr
  clear hr
  go_enter Try.func20, Try.ntmps20
  go_wp2_with fail
  refine (rRaw_yes g n l w HR.out hl hn).mono ?_
  rintro e w1 ⟨v, rfl, hb, hr, hc⟩
  have HF := Lib.hid (And.intro hr hc)
  have hB : (l.take n).length = n := by simp; omega
  obtain ⟨B, hBe⟩ : ∃ B, l.take n = B := ⟨_, rfl⟩
  have HBE := Lib.hid hBe
  rw [hBe] at hb hB
  obtain ⟨a, cap, rfl, _, hcap, hcells⟩ := hb.form
  have HC := Lib.hid hcells
  subst hB
  clear hr hc hBe hb hcells
  go_wp2_with fail
  go_loopw [6, 7] (fun x i wr => ∃ (k X : Nat), k ≤ B.length ∧ i = .int .i64 (k : Nat) ∧ x = .int .u64 (X : Nat) ∧ Hid (WideRel w1 wr B k X)) (fun _ i _ => (intOf i).toNat)
  case atStart => exact ⟨B.length, 0, Nat.le_refl _, rfl, rfl, rfl, by rw [List.drop_length]; rfl⟩
  case round =>
    obtain ⟨k, X, hk, rfl, rfl, HX⟩ := hrel
    obtain ⟨rfl, hX⟩ := HX.out
    by_cases h0 : 0 < k
    · obtain ⟨j, rfl⟩ : ∃ j, k = j + 1 := ⟨k - 1, by omega⟩
      obtain ⟨b, off, rfl, _, hc⟩ := HC.out (by omega)
      have hcj := hc j (by omega)
      have hs := ofLe_step B j (by omega)
      have hlt := (ofLe_small B (j + 1) h4).2 (by omega) hk
      rw [← hX] at hs hlt
      obtain ⟨y, hy⟩ : ∃ y, (B.getD j 0).toNat = y := ⟨_, rfl⟩
      have hy8 : y < 256 := by rw [← hy]; exact (B.getD j 0).toNat_lt
      rw [hy] at hcj hs
      have HN : Hid (WideRel w1 w1 B j (y + 256 * X)) := ⟨rfl, hs.symm⟩
      have hor : bits .or .u64 ((X : Int) * 256) (y : Int) = ((y + 256 * X : Nat) : Int) := by
        have h := u64_or_nat (X * 256) y (by omega) (by omega)
        rw [Nat.or_comm, or_add y X 8 (by omega)] at h
        rw [← h]; push_cast; rfl
      clear hc hs hy hX HX
      go_wp2
      go_roundw
      case rel => exact ⟨j, y + 256 * X, by omega, rfl, by go_num, HN.out⟩
      case measure => simp [intOf]
    · obtain rfl : k = 0 := by omega
      have hX2 : X = ofLe (l.take B.length) := by rw [hX, List.drop_zero, HBE.out]
      subst hX2
      clear hX HX
      go_wp2
      go_ret
      exact ⟨rfl, HF.out⟩
/-- n bytes stand at the front up to the first one below 128; 0: none does among the first ten -/
def Dig (l : List UInt8) (n : Nat) : Prop := (n = 0 ∧ ∀ j, j < l.length → j < 10 → 128 ≤ (l.getD j 0).toNat) ∨ (0 < n ∧ n ≤ 10 ∧ n ≤ l.length ∧ (l.getD (n - 1) 0).toNat < 128 ∧ ∀ j, j + 1 < n → 128 ≤ (l.getD j 0).toNat)
def DigRel (w wr : World) (l : List UInt8) (i : Nat) : Prop := w = wr ∧ ∀ j, j < i → 128 ≤ (l.getD j 0).toNat
set_option maxRecDepth 100000 in
set_option maxHeartbeats 400000 in
theorem digits_any (g : Nat) (s : RS) (w : World) (hr : RefAt w g s) (hl : s.l.length ≤ 1000000) :
    Calls Try.prog 59 #[.pointer (some ⟨g, 0, none⟩)] w fun e w' => (∃ n : Nat, e = .returned (.int .i64 (n : Nat)) ∧ Dig s.l n) ∧ w = w' := by
  obtain ⟨v, hi, hb⟩ := hr
  obtain ⟨l, bad⟩ := s
  dsimp only at *
  obtain ⟨a, cap, rfl, _, hcap, hcells⟩ := hb.form
  have HC := Lib.hid hcells
  have c0 := hi.cell0
  clear hi hb hcells
  go_enter Try.func59, Try.ntmps59
  go_wp2
  go_loopw [3] (fun i wr => ∃ k : Nat, k ≤ l.length ∧ k ≤ 10 ∧ i = .int .i64 (k : Nat) ∧ Hid (DigRel w wr l k)) (fun i _ => l.length - (intOf i).toNat)
  case atStart => exact ⟨0, by omega, by omega, rfl, rfl, fun _ h => by omega⟩
  case round =>
    obtain ⟨k, hk, hk10, rfl, HR⟩ := hrel
    obtain ⟨rfl, hall⟩ := HR.out
    have HA := Lib.hid hall
    clear hall HR
    by_cases hlt : k < l.length
    · by_cases h10 : k < 10
      · obtain ⟨b, off, rfl, _, hc⟩ := HC.out (by omega)
        have hck := hc k hlt
        obtain ⟨y, hy⟩ : ∃ y, (l.getD k 0).toNat = y := ⟨_, rfl⟩
        have hy8 : y < 256 := by rw [← hy]; exact (l.getD k 0).toNat_lt
        rw [hy] at hck
        have HY := Lib.hid hy
        clear hc hy
        by_cases h128 : y < 128
        · go_wp2
          go_ret
          exact ⟨⟨k + 1, by go_num, .inr ⟨by omega, by omega, by omega, by rw [Nat.add_sub_cancel, HY.out]; exact h128, fun j hj => HA.out j (by omega)⟩⟩, rfl⟩
        · go_wp2
          go_roundw
          case rel => exact ⟨k + 1, by omega, by omega, by go_num, rfl, fun j hj => by
            rcases Nat.lt_or_ge j k with h | h
            · exact HA.out j h
            · obtain rfl : j = k := by omega
              rw [HY.out]; omega⟩
          case measure => simp [intOf]; omega
      · go_wp2
        go_ret
        exact ⟨⟨0, rfl, .inl ⟨rfl, fun j _ hj => HA.out j (by omega)⟩⟩, rfl⟩
    · go_wp2
      go_ret
      exact ⟨⟨0, rfl, .inl ⟨rfl, fun j hj _ => HA.out j (by omega)⟩⟩, rfl⟩
end Go.Proofs.Ytniogemgkcoimaa
