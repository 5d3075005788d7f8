/- scrivenerref01.Of: for any bytes the document's answer, which is the register's sum. -/
import Derived.Test.YtimgbemdkajemaaDoorOf
namespace Go.Proofs.YtimgbemdkajemaaDoor
open Go.RowKit Crc
theorem refBit_lt (l x : Nat) (hl : l < 4294967296) (hx : x < 2) : refBit l x < 4294967296 := by
  have h : Rel l (BitVec.ofNat 32 l).reverse := by
    refine ⟨hl, fun i hi => ?_⟩
    rw [BitVec.getLsbD_reverse, BitVec.getMsbD_eq_getLsbD, BitVec.getLsbD_ofNat]
    have h1 : 32 - 1 - (31 - i) = i := by omega
    have h2 : 31 - i < 32 := by omega
    rw [h1, decide_eq_true hi, decide_eq_true h2]; simp
  have : x = (decide (x = 1)).toNat := by
    have : x = 0 ∨ x = 1 := by omega
    rcases this with h | h <;> simp [h]
  rw [this]; exact (rel_step h _).1
theorem refBits_lt (b l : Nat) (hl : l < 4294967296) (k : Nat) : refBits b l k < 4294967296 := by
  induction k with
  | zero => exact hl
  | succ k ih => exact refBit_lt _ _ ih (by omega)
theorem refReg_lt (bs : List UInt8) : ∀ l, l < 4294967296 → refReg l bs < 4294967296 := by
  induction bs with
  | nil => intro l h; exact h
  | cons b bs ih => intro l h; exact ih _ (refBits_lt _ _ h 8)
theorem refReg_append (l : Nat) (a b : List UInt8) : refReg l (a ++ b) = refReg (refReg l a) b := List.foldl_append

theorem refOut_lt (l k : Nat) (hk : k ≤ 32) : refOut l k < 4294967296 := by
  refine Nat.lt_pow_two_of_testBit (n := 32) _ fun j hj => ?_
  rw [out_bit l k hk]
  have : ¬ j < 32 := by omega
  simp [this]
set_option maxRecDepth 20000 in
set_option maxHeartbeats 1000000 in
theorem ref_any (v : Value) (l : List UInt8) (w : World) (hp : BytesAt w v l) :
    Calls Tryd.prog 10 #[v] w fun e w' => e = .returned (.int .u32 (crc l : Nat)) ∧ w = w' := by
  rw [← refCrc_eq]
  obtain ⟨a, cap, rfl, hlen, hcells⟩ := hp.form
  unfold maxLen at hlen
  have HC := Lib.hid hcells
  clear hcells
  go_enter Tryd.func10, Tryd.ntmps10
  go_wp2
  go_loop [3, 4] (fun t i => ∃ k : Nat, k ≤ l.length ∧ i = .int .i64 k ∧ t = .int .u64 (refReg 4294967295 (l.take k) : Nat)) (fun _ i => l.length - (intOf i).toNat)
  case atStart => exact ⟨0, Nat.zero_le _, rfl, rfl⟩
  case round =>
    obtain ⟨k, hk, rfl, rfl⟩ := hrel
    by_cases hlt : k < l.length
    · obtain ⟨b, off, rfl, hb, hc⟩ := HC.out (by omega)
      have hby := hc k hlt
      obtain ⟨x, hx⟩ : ∃ x : Nat, (l.getD k 0).toNat = x := ⟨_, rfl⟩
      have hx8 : x < 256 := by rw [← hx]; exact (l.getD k 0).toNat_lt
      rw [hx] at hby
      have HX : Hid (refReg 4294967295 (l.take (k + 1)) = refBits x (refReg 4294967295 (l.take k)) 8) := by
        rw [take_snoc' l k 0 hlt, refReg_append]; show refBits (l.getD k 0).toNat _ 8 = _; rw [hx]
      have hR := refReg_lt (l.take k) 4294967295 (by decide)
      generalize refReg 4294967295 (l.take k) = R at HX hR ⊢
      clear hx hc
      go_wp2
      go_loop [3, 5] (fun t i => ∃ m : Nat, m ≤ 8 ∧ i = .int .i64 m ∧ t = .int .u64 (refBits x R m : Nat)) (fun _ i => 8 - (intOf i).toNat)
      case atStart => exact ⟨0, Nat.zero_le _, rfl, rfl⟩
      case round =>
        obtain ⟨m, hm, rfl, rfl⟩ := hrel
        by_cases hlt2 : m < 8
        · have hS := refBits_lt x R hR m
          have HS : Hid (refBits x R (m + 1) = refBit (refBits x R m) (x / 2 ^ m % 2)) := rfl
          generalize refBits x R m = S at HS hS ⊢
          clear hR
          obtain ⟨y, hy⟩ : ∃ y : Nat, x / 2 ^ m = y := ⟨_, rfl⟩
          have hsh : binOp .shr 5 (.int .u8 (x : Int)) (.int .i64 (m : Int)) = pure (.int .u8 (y : Int)) := by
            show Op.shift .shr .u8 x .i64 m = _
            rw [shift_shr .u8 .i64 x m (by omega) (by simp [IntKind.bits]; omega), ← hy]
            simp
          have hyl : y < 256 := by rw [← hy]; exact Nat.lt_of_le_of_lt (Nat.div_le_self _ _) hx8
          have HY := Lib.hid hy
          clear hy
          rw [HY.out] at HS
          have hand : bits .and .u64 (y : Int) 1 = ((y % 2 : Nat) : Int) := by
            have := u64_and_nat y 1 (by omega) (by decide); rw [nat_mask1] at this; exact this
          have ht : y % 2 < 2 := by omega
          generalize y % 2 = t at hand ht HS
          have hxor : bits .xor .u64 ((S : Int) * 2) ((t : Int) * 4294967296) = ((S * 2 ^^^ t * 4294967296 : Nat) : Int) := u64_xor_nat (S * 2) (t * 4294967296) (by omega) (by omega)
          have hXl : S * 2 ^^^ t * 4294967296 < 8589934592 := Nat.xor_lt_two_pow (n := 33) (by omega) (by omega)
          unfold refBit at HS
          generalize S * 2 ^^^ t * 4294967296 = X at hxor hXl HS
          have hx1 : bits .xor .u64 (X : Int) 4294967296 = ((X ^^^ 4294967296 : Nat) : Int) := u64_xor_nat X 4294967296 (by omega) (by decide)
          have hX1 : X ^^^ 4294967296 < 8589934592 := Nat.xor_lt_two_pow (n := 33) (by omega) (by decide)
          generalize X ^^^ 4294967296 = Y at hx1 hX1 HS
          have hx2 : bits .xor .u64 (Y : Int) 517762881 = ((Y ^^^ 517762881 : Nat) : Int) := u64_xor_nat Y 517762881 (by omega) (by decide)
          generalize Y ^^^ 517762881 = Z at hx2 HS
          by_cases hbig : 4294967296 ≤ X
          · rw [if_pos hbig] at HS
            have hdec : decide ((4294967296 : Int) ≤ (X : Int)) = true := decide_eq_true (by omega)
            have HB := Lib.hid hbig
            clear hbig
            go_wp2
            go_round
            case rel => exact ⟨m + 1, by omega, by go_num, by rw [HS.out]⟩
            case measure => simp [intOf]; omega
          · rw [if_neg hbig] at HS
            have hdec : decide ((4294967296 : Int) ≤ (X : Int)) = false := decide_eq_false (by omega)
            have HB := Lib.hid hbig
            clear hbig
            go_wp2
            go_round
            case rel => exact ⟨m + 1, by omega, by go_num, by rw [HS.out]⟩
            case measure => simp [intOf]; omega
        · obtain rfl : m = 8 := by omega
          have hS := refBits_lt x R hR 8
          generalize refBits x R 8 = S at HX hS ⊢
          go_wp2
          go_round
          case rel => exact ⟨k + 1, by omega, by go_num, by rw [HX.out]⟩
          case measure => simp [intOf]; omega
    · obtain rfl : k = l.length := by omega
      have hL := refReg_lt l 4294967295 (by decide)
      have HF : Hid (refOut (refReg 4294967295 l) 32 = refCrc l) := rfl
      rw [List.take_length]
      generalize refReg 4294967295 l = L at HF hL ⊢
      go_wp2
      go_loop [7, 8] (fun t i => ∃ m : Nat, m ≤ 32 ∧ i = .int .i64 m ∧ t = .int .u32 (refOut L m : Nat)) (fun _ i => 32 - (intOf i).toNat)
      case atStart => exact ⟨0, Nat.zero_le _, rfl, rfl⟩
      case round =>
        obtain ⟨m, hm, rfl, rfl⟩ := hrel
        by_cases hlt : m < 32
        · have HS : Hid (refOut L (m + 1) = if L / 2 ^ m % 2 = 0 then refOut L m ||| 2 ^ (31 - m) else refOut L m) := rfl
          have hO := refOut_lt L m (by omega)
          generalize refOut L m = O at HS hO ⊢
          obtain ⟨y, hy⟩ : ∃ y : Nat, L / 2 ^ m = y := ⟨_, rfl⟩
          have hsh : binOp .shr 39 (.int .u64 (L : Int)) (.int .i64 (m : Int)) = pure (.int .u64 (y : Int)) := by
            show Op.shift .shr .u64 L .i64 m = _
            rw [shift_shr .u64 .i64 L m (by omega) (by simp [IntKind.bits]; omega), ← hy]
            simp
          have hyl : y < 4294967296 := by rw [← hy]; exact Nat.lt_of_le_of_lt (Nat.div_le_self _ _) hL
          obtain ⟨p, hp⟩ : ∃ p : Nat, 2 ^ (31 - m) = p := ⟨_, rfl⟩
          have hpl : p < 4294967296 := by rw [← hp]; exact Nat.lt_of_le_of_lt (Nat.pow_le_pow_right (by omega) (by omega : 31 - m ≤ 31)) (by decide)
          have hsl : binOp .shl 25 (.int .u32 1) (.int .i64 (31 - (m : Int))) = pure (.int .u32 (p : Int)) := by
            show Op.shift .shl .u32 1 .i64 (31 - (m : Int)) = _
            rw [shift_shl .u32 .i64 1 _ (by omega) (by simp [IntKind.bits]; omega), IntKind.wrap_u32', Int.one_mul]
            have e1 : (31 - (m : Int)).toNat = 31 - m := by omega
            have e2 : ((2 : Int) ^ (31 - m)) = ((2 ^ (31 - m) : Nat) : Int) := by simp
            rw [e1, e2, hp]
            congr 2
            omega
          have HY := Lib.hid hy
          have HP := Lib.hid hp
          clear hy hp
          rw [HY.out, HP.out] at HS
          have hand : bits .and .u64 (y : Int) 1 = ((y % 2 : Nat) : Int) := by
            have := u64_and_nat y 1 (by omega) (by decide); rw [nat_mask1] at this; exact this
          have hor : bits .or .u32 (O : Int) (p : Int) = ((O ||| p : Nat) : Int) := u32_or_nat O p hO hpl
          generalize O ||| p = O2 at hor HS
          generalize y % 2 = t at hand HS
          clear hL hO hpl hyl
          by_cases hz : t = 0
          · rw [if_pos hz] at HS
            subst hz
            go_wp2
            go_round
            case rel => exact ⟨m + 1, by omega, by go_num, by rw [HS.out]⟩
            case measure => simp [intOf]; omega
          · rw [if_neg hz] at HS
            have hd : ((t : Int) == 0) = false := by simpa using hz
            have HZ := Lib.hid hz
            clear hz
            go_wp2
            go_round
            case rel => exact ⟨m + 1, by omega, by go_num, by rw [HS.out]⟩
            case measure => simp [intOf]; omega
        · obtain rfl : m = 32 := by omega
          clear hL
          rw [HF.out]
          go_wp2
          go_ret
          exact ⟨rfl, rfl⟩
end Go.Proofs.YtimgbemdkajemaaDoor
