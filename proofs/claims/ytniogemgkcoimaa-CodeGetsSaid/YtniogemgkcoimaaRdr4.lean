/- The document's reader: the number at the front, walked. -/
import Derived.Test.YtniogemgkcoimaaRdr3
import Derived.Deep.RegionHeld
import Derived.BigQuiet
import Derived.Laws.Strings
namespace Go.Proofs.Ytniogemgkcoimaa
open Go.RowKit
def NumRel (w wr : World) (B : List UInt8) (i X : Nat) : Prop := w = wr ∧ X = hv (B.drop i) % 18446744073709551616
theorem num_wrap (X y : Nat) : IntKind.u64.wrap (IntKind.u64.wrap ((X : Int) * 128) + (y : Int) % 128) = (((X * 128 + y % 128) % 18446744073709551616 : Nat) : Int) := by
  simp [IntKind.wrap, IntKind.bits, IntKind.signed]
set_option maxRecDepth 100000 in
set_option maxHeartbeats 1000000 in
theorem rNumber (g : Nat) (s : RS) (w : World) (hr : RefAt w g s) (hl : s.l.length ≤ 1000000) :
    Calls Try.prog 46 #[.pointer (some ⟨g, 0, none⟩)] w fun e w' => (∃ x n : Nat, e = .returned (.tuple #[.int .u64 (x : Nat), .int .i64 (n : Nat)]) ∧ Num s.l x n) ∧ Below w.heap.size w w' := by
  have HR := Lib.hid hr
  obtain ⟨v, hi, hb⟩ := hr
  obtain ⟨l, bad⟩ := s
  dsimp only at *
  have HI := Lib.hid hi
  have HB := Lib.hid hb
  obtain ⟨a, cap, rfl, _, hcap, hcells⟩ := hb.form
  have HC := Lib.hid hcells
  have c0 := hi.cell0
  clear hi hb hcells
  go_enter Try.func46, Try.ntmps46
  go_wp2_with fail
  refine (digits_any g ⟨l, bad⟩ w HR.out hl).mono ?_
  rintro e w1 ⟨⟨n, rfl, hd⟩, rfl⟩
  dsimp only at hd
  have HD := Lib.hid hd
  have hn : n ≤ l.length ∧ n ≤ 10 := by rcases hd with ⟨rfl, _⟩ | ⟨_, h1, h2, _⟩ <;> omega
  have hB : (l.take n).length = n := by simp; omega
  obtain ⟨B, hBe⟩ : ∃ B, l.take n = B := ⟨_, rfl⟩
  have HBE := Lib.hid hBe
  rw [hBe] at hB
  subst hB
  clear hd hBe HR
  go_wp2_with fail
  go_loopw [5, 6] (fun x i wr => ∃ (k X : Nat), k ≤ B.length ∧ i = .int .i64 (k : Nat) ∧ x = .int .u64 (X : Nat) ∧ Hid (NumRel w wr B k X)) (fun _ i _ => (intOf i).toNat)
  case atStart => exact ⟨B.length, 0, Nat.le_refl _, rfl, rfl, rfl, by rw [List.drop_length]; rfl⟩
  case round =>
    obtain ⟨k, X, hk, rfl, rfl, HX⟩ := hrel
    obtain ⟨rfl, hX⟩ := HX.out
    by_cases h0 : 0 < k
    · obtain ⟨j, rfl⟩ : ∃ j, k = j + 1 := ⟨k - 1, by omega⟩
      obtain ⟨b, off, rfl, _, hc⟩ := HC.out (by omega)
      have hcj := hc j (by omega)
      have hgd : B.getD j 0 = l.getD j 0 := by rw [← HBE.out, getD_take _ _ _ (by omega)]
      have hs := hv_step B j (by omega)
      obtain ⟨y, hy⟩ : ∃ y, (l.getD j 0).toNat = y := ⟨_, rfl⟩
      have hy8 : y < 256 := by rw [← hy]; exact (l.getD j 0).toNat_lt
      rw [hgd] at hs
      rw [hy] at hcj hs
      have hXlt : X < 18446744073709551616 := by rw [hX]; exact Nat.mod_lt _ (by omega)
      have hnx : (X * 128 + y % 128) % 18446744073709551616 = hv (B.drop j) % 18446744073709551616 := by rw [hs, hX]; omega
      have HN : Hid (NumRel w w B j ((X * 128 + y % 128) % 18446744073709551616)) := ⟨rfl, hnx⟩
      have HW : Hid (IntKind.u64.wrap (IntKind.u64.wrap ((X : Int) * 128) + (y : Int) % 128) = (((X * 128 + y % 128) % 18446744073709551616 : Nat) : Int)) := num_wrap X y
      clear hc hs hy hX HX hgd hnx
      go_wp2
      rw [HW.out]
      go_roundw
      case rel => exact ⟨j, _, by omega, rfl, rfl, HN.out⟩
      case measure => simp [intOf]
    · obtain rfl : k = 0 := by omega
      rw [List.drop_zero] at hX
      have hXlt : X < 18446744073709551616 := by rw [hX]; exact Nat.mod_lt _ (by omega)
      clear HX
      by_cases hB0 : B.length = 0
      · have HF : Hid (Num l 0 0) := num_zero (by have h := HD.out; rwa [hB0] at h)
        have hd1 : ((0 : Int) == 0) = true := rfl
        rw [hB0, Int.natCast_zero]
        clear hX hXlt hB0 hk
        go_wp2_with fail
        go_quiet (fail)
        go_wp2
        go_ret2
        exact ⟨⟨0, 0, rfl, HF.out⟩, rfl, rfl, rfl, Nat.le_refl _, fun _ _ => rfl⟩
      · have hd0 : ((B.length : Int) == 0) = false := by rw [beq_eq_false_iff_ne]; omega
        obtain ⟨SB, hSB⟩ : ∃ SB : ByteArray, (⟨B.toArray⟩ : ByteArray) = SB := ⟨_, rfl⟩
        obtain ⟨SX, hSX⟩ : ∃ SX : ByteArray, (⟨(short X).toArray⟩ : ByteArray) = SX := ⟨_, rfl⟩
        have HSX := Lib.hid hSX
        have HKEEP : Hid (∀ w', Below w.heap.size w w' → w'.cell? ⟨g, 0, none⟩ = some (.slice a l.length cap) ∧ (convert 27 9 (.slice a B.length cap)).run Try.prog w' = .ok (.string SB) w') := fun w' h => by
          refine ⟨by rw [h.cell (p := ⟨g, 0, none⟩) HI.out.lt]; exact c0, ?_⟩
          have h2 := string_bytes ((HB.out.below h (Nat.le_refl _)).first hn.1)
          rw [HBE.out, hSB] at h2
          exact h2
        have HB1 : Hid (Below w.heap.size w w.drew) := (Below.refl _ _).drew
        have hcapI : (B.length : Int) ≤ (cap : Int) := by omega
        have hn0I : (0 : Int) ≤ (B.length : Int) := by omega
        have hc0 : ¬ cap = 0 := by omega
        have HXL := Lib.hid hXlt
        by_cases heq : short X = B
        · have HF : Hid (Num l X B.length) := by
            have h := num_yes hn.1 (by rw [HBE.out, ← hX]; exact heq)
            rw [HBE.out, ← hX] at h
            exact h
          obtain rfl : SX = SB := by rw [← hSX, ← hSB, heq]
          clear heq hSB hSX hX
          go_wp2_with fail
          go_region_held (fun w' => w'.cell? ⟨g, 0, none⟩ = some (.slice a l.length cap) ∧ (convert 27 9 (.slice a B.length cap)).run Try.prog w' = .ok (.string SX) w') ((refine HKEEP.out _ ?_; first | exact HB1.out | exact HB2.out)) (first | (go_at_call 41; refine (refShort_any X _ HXL.out).mono ?_; rintro e w2 ⟨g2, rfl, hown, hb⟩; have HB2 : Hid (Below w.heap.size w w2) := HB1.out.trans (hb.mono HB1.out.size); have hs2 := string_bytes hown.bytesAt; rw [HSX.out] at hs2; clear hown hb))
          go_wp2
          go_ret2
          exact ⟨⟨_, _, rfl, HF.out⟩, HB2.out⟩
        · have HF : Hid (Num l 0 0) := num_no HD.out (by rw [HBE.out, ← hX]; exact heq)
          have hne : (SX.toList == SB.toList) = false := by
            rw [beq_eq_false_iff_ne, ByteArray.toList_eq, ByteArray.toList_eq, ← hSX, ← hSB]
            exact fun h => heq (by simpa using h)
          clear heq hSB hSX hX
          go_wp2_with fail
          go_region_held (fun w' => w'.cell? ⟨g, 0, none⟩ = some (.slice a l.length cap) ∧ (convert 27 9 (.slice a B.length cap)).run Try.prog w' = .ok (.string SB) w') ((refine HKEEP.out _ ?_; first | exact HB1.out | exact HB2.out)) (first | (go_at_call 41; refine (refShort_any X _ HXL.out).mono ?_; rintro e w2 ⟨g2, rfl, hown, hb⟩; have HB2 : Hid (Below w.heap.size w w2) := HB1.out.trans (hb.mono HB1.out.size); have hs2 := string_bytes hown.bytesAt; rw [HSX.out] at hs2; clear hown hb))
          go_wp2
          go_ret2
          exact ⟨⟨0, 0, rfl, HF.out⟩, HB2.out⟩
end Go.Proofs.Ytniogemgkcoimaa
