/- What a reader takes: a number; a text. -/
import Derived.Test.YtniogemgkcoimaaRead1
import Derived.LoopTactic
namespace Go.Proofs.Ytniogemgkcoimaa
open Go.RowKit
/-- what is taken as a number: it, or it is given up -/
def ShortPost (g : Nat) (bad : Bool) (l : List UInt8) (w : World) (e : Ending) (w' : World) : Prop :=
  (readShort l = none → GaveUp g bad w e w') ∧ ∀ y t, readShort l = some (y, t) → e = .returned (.int .u64 (y : Nat)) ∧ RdAt w' g ⟨t, bad⟩ ∧ Chg [g] w w'
/-- what the loop over the digits keeps -/
structure ShortAt (w wr : World) (g : Nat) (bad : Bool) (l : List UInt8) (k X : Nat) (lk : List UInt8) : Prop where
  rd : RdAt wr g ⟨lk, bad⟩
  chg : Chg [g] w wr
  lt : X < 128 ^ k
  eq : readShort l = rs (10 - k) k X lk
theorem ShortAt.gave {w wr w' : World} {g : Nat} {bad : Bool} {l : List UInt8} {k X : Nat} {lk : List UInt8} {e : Ending} (h : ShortAt w wr g bad l k X lk) (hn : rs (10 - k) k X lk = none) (he : e = .panicked boom) (hr : ∃ s, RdAt w' g ⟨s, bad⟩) (hc : Chg [g] wr w') : ShortPost g bad l w e w' :=
  ⟨fun _ => ⟨he, hr, h.chg.trans hc⟩, fun y t hs => by rw [h.eq, hn] at hs; cases hs⟩
theorem ShortAt.told {w wr w' : World} {g : Nat} {bad : Bool} {l : List UInt8} {k X y : Nat} {lk t : List UInt8} {e : Ending} (h : ShortAt w wr g bad l k X lk) (hn : rs (10 - k) k X lk = some (y, t)) (he : e = .returned (.int .u64 (y : Nat))) (hr : RdAt w' g ⟨t, bad⟩) (hc : Chg [g] wr w') : ShortPost g bad l w e w' :=
  ⟨(fun hs => by rw [h.eq, hn] at hs; cases hs), fun y' t' hs => by rw [h.eq, hn] at hs; cases hs; exact ⟨he, hr, h.chg.trans hc⟩⟩
theorem two_pow_cast (n : Nat) : ((2 : Int) ^ n) = ((2 ^ n : Nat) : Int) := by simp
theorem pow7 (k : Nat) : 2 ^ (7 * k) = 128 ^ k := by rw [Nat.pow_mul]
theorem rs_fit {k X : Nat} {b : UInt8} {t : List UInt8} (hk : k ≤ 9) (hf : ¬ b.toNat % 128 * 128 ^ k < 18446744073709551616) : rs (10 - k) k X (b :: t) = none := by
  obtain ⟨n, hn⟩ : ∃ n, 10 - k = n + 1 := ⟨9 - k, by omega⟩
  rw [hn]; unfold rs; rw [if_neg hf]
theorem rs_more {k X : Nat} {b : UInt8} {t : List UInt8} (hk : k ≤ 9) (hf : b.toNat % 128 * 128 ^ k < 18446744073709551616) (hb : 128 ≤ b.toNat) : rs (10 - k) k X (b :: t) = rs (10 - (k + 1)) (k + 1) (X + b.toNat % 128 * 128 ^ k) t := by
  obtain ⟨n, hn⟩ : ∃ n, 10 - k = n + 1 := ⟨9 - k, by omega⟩
  rw [hn, show 10 - (k + 1) = n by omega]; conv => lhs; unfold rs
  rw [if_pos hf, if_pos hb]
theorem rs_nought {k X : Nat} {b : UInt8} {t : List UInt8} (hk : k ≤ 9) (hb : ¬ 128 ≤ b.toNat) (h0 : b.toNat % 128 = 0) (hk0 : 0 < k) : rs (10 - k) k X (b :: t) = none := by
  obtain ⟨n, hn⟩ : ∃ n, 10 - k = n + 1 := ⟨9 - k, by omega⟩
  rw [hn]; unfold rs
  by_cases hf : b.toNat % 128 * 128 ^ k < 18446744073709551616
  · rw [if_pos hf, if_neg hb, if_pos ⟨h0, hk0⟩]
  · rw [if_neg hf]
theorem rs_last {k X : Nat} {b : UInt8} {t : List UInt8} (hk : k ≤ 9) (hf : b.toNat % 128 * 128 ^ k < 18446744073709551616) (hb : ¬ 128 ≤ b.toNat) (h0 : ¬ (b.toNat % 128 = 0 ∧ 0 < k)) : rs (10 - k) k X (b :: t) = some (X + b.toNat % 128 * 128 ^ k, t) := by
  obtain ⟨n, hn⟩ : ∃ n, 10 - k = n + 1 := ⟨9 - k, by omega⟩
  rw [hn]; unfold rs; rw [if_pos hf, if_neg hb, if_neg h0]
/-- the shifts: there, and back -/
theorem shifts (d k : Nat) (hd : d < 128) (hk : k ≤ 9) : ∃ Z R : Nat, Z < 18446744073709551616 ∧ binOp .shl 30 (.int .u64 (d : Int)) (.int .i64 ((7 * k : Nat) : Int)) = pure (.int .u64 (Z : Int)) ∧ binOp .shr 30 (.int .u64 (Z : Int)) (.int .i64 ((7 * k : Nat) : Int)) = pure (.int .u64 (R : Int)) ∧
    (d * 128 ^ k < 18446744073709551616 → Z = d * 128 ^ k ∧ R = d) ∧ (¬ d * 128 ^ k < 18446744073709551616 → R ≠ d) := by
  refine ⟨d * 128 ^ k % 18446744073709551616, d * 128 ^ k % 18446744073709551616 / 128 ^ k, Nat.mod_lt _ (by decide), ?_, ?_, ?_, ?_⟩
  · show Op.shift .shl .u64 _ .i64 _ = _
    rw [shift_shl .u64 .i64 _ _ (by omega) (by show _ ≤ (64 : Int); omega)]
    congr 2
    show (d : Int) * 2 ^ ((7 * k : Nat) : Int).toNat % 18446744073709551616 = _
    rw [Int.toNat_natCast, two_pow_cast, pow7, ← Int.natCast_mul]
    generalize d * 128 ^ k = q
    omega
  · show Op.shift .shr .u64 _ .i64 _ = _
    rw [shift_shr .u64 .i64 _ _ (by omega) (by show _ ≤ (64 : Int); omega)]
    congr 2
    rw [Int.toNat_natCast, two_pow_cast, pow7, Int.natCast_ediv]
  · intro h
    have hp : 0 < 128 ^ k := Nat.pow_pos (by omega)
    rw [Nat.mod_eq_of_lt h]
    exact ⟨rfl, Nat.mul_div_cancel _ hp⟩
  · intro h he
    have hp : 0 < 128 ^ k := Nat.pow_pos (by omega)
    have h1 := Nat.div_mul_le_self (d * 128 ^ k % 18446744073709551616) (128 ^ k)
    rw [he] at h1
    have h2 := Nat.mod_lt (d * 128 ^ k) (show 0 < 18446744073709551616 by decide)
    omega
theorem or_digit (X d k : Nat) (hX : X < 128 ^ k) (hf : d * 128 ^ k < 18446744073709551616) (hk : k ≤ 9) : bits .or .u64 (X : Int) ((d * 128 ^ k : Nat) : Int) = ((X + d * 128 ^ k : Nat) : Int) := by
  have hp : (128 : Nat) ^ k ≤ 128 ^ 9 := Nat.pow_le_pow_right (by omega) hk
  have h := u64_or_nat X (d * 128 ^ k) (by omega) hf
  rw [← pow7] at hX h ⊢
  rw [or_add X d (7 * k) hX, Nat.mul_comm (2 ^ (7 * k)) d] at h
  exact h
set_option maxRecDepth 100000 in
set_option maxHeartbeats 1000000 in
theorem short_any (g : Nat) (l : List UInt8) (bad : Bool) (w : World) (hr : RdAt w g ⟨l, bad⟩) :
    Calls Try.prog 49 #[.pointer (some ⟨g, 0, none⟩)] w (ShortPost g bad l w) := by
  have H0 : Hid (ShortAt w w g bad l 0 0 l) := ⟨hr, Chg.refl _ _, by decide, rfl⟩
  clear hr
  go_enter Try.func49, Try.ntmps49
  go_wp2
  go_loopw [3, 4] (fun x i wr => ∃ (k X : Nat) (lk : List UInt8), k ≤ 10 ∧ x = .int .u64 (X : Nat) ∧ i = .int .i64 ((7 * k : Nat) : Int) ∧ Hid (ShortAt w wr g bad l k X lk)) (fun _ i _ => 70 - (intOf i).toNat)
  case atStart => exact ⟨0, 0, l, Nat.zero_le _, rfl, rfl, H0.out⟩
  case round =>
    obtain ⟨k, X, lk, hk, rfl, rfl, HS⟩ := hrel
    clear H0
    by_cases hk9 : k ≤ 9
    · cases lk with
      | nil =>
        have hn : rs (10 - k) k X [] = none := by
          obtain ⟨n, hn⟩ : ∃ n, 10 - k = n + 1 := ⟨9 - k, by omega⟩
          rw [hn]; rfl
        have HN := Lib.hid hn
        clear hn
        go_wp2_with (go_at_call 56; refine (octet_no g bad _ HS.out.rd).mono ?_; rintro e w1 ⟨rfl, hr, hc⟩)
        exact ⟨rfl, HS.out.gave HN.out rfl hr hc⟩
      | cons b t =>
        obtain ⟨d, hd⟩ : ∃ d, b.toNat % 128 = d := ⟨_, rfl⟩
        obtain ⟨B, hB⟩ : ∃ B, b.toNat = B := ⟨_, rfl⟩
        have hB8 : B < 256 := by rw [← hB]; exact b.toNat_lt
        have hd8 : d < 128 := by omega
        have hBd : B % 128 = d := by rw [← hB]; exact hd
        obtain ⟨Z, R, hZ, hsl, hsr, hfit, hnofit⟩ := shifts d k hd8 hk9
        have HD := Lib.hid hd
        have HB := Lib.hid hB
        have hmod : (B : Int) % 128 = (d : Int) := by omega
        by_cases hf : d * 128 ^ k < 18446744073709551616
        · obtain ⟨hZe, hR⟩ := hfit hf
          rw [hR] at hsr
          have hor := or_digit X d k HS.out.lt hf hk9
          obtain ⟨Y, hY⟩ : ∃ Y, X + d * 128 ^ k = Y := ⟨_, rfl⟩
          have HY2 : Hid (X + d * 128 ^ k = Y) := hY
          rw [← hZe] at hor hY
          rw [hY] at hor
          have HY := Lib.hid hY
          have HF := Lib.hid hf
          obtain ⟨P, hP⟩ : ∃ P, 7 * k = P := ⟨_, rfl⟩
          have hP9 : P ≤ 63 := by omega
          rw [hP] at hsl hsr ⊢
          have HP := Lib.hid hP
          have HBd := Lib.hid hBd
          clear hP hY hZe hR hfit hnofit hf hd hB hBd hZ
          by_cases hb : 128 ≤ B
          · have HN : Hid (ShortAt w wr g bad l k X (b :: t) → ∀ w1, RdAt w1 g ⟨t, bad⟩ → Chg [g] wr w1 → ShortAt w w1 g bad l (k + 1) Y t) := fun h w1 hr hc => by
              have e := rs_more (X := X) (t := t) hk9 (by rw [HD.out]; exact HF.out) (by rw [HB.out]; exact hb)
              have e2 : X + d * 128 ^ k = Y := HY2.out
              rw [HD.out, e2] at e
              refine ⟨hr, h.chg.trans hc, ?_, h.eq.trans e⟩
              have h1 := h.lt
              have h2 : d * 128 ^ k ≤ 127 * 128 ^ k := Nat.mul_le_mul_right _ (by omega)
              rw [Nat.pow_succ]; omega
            go_wp2_with (go_at_call 56; refine (octet_yes g b t bad _ HS.out.rd).mono ?_; rintro e w1 ⟨rfl, hr, hc⟩; have HR1 := Lib.hid (And.intro hr hc); clear hr hc; rw [HB.out])
            refine ⟨⟨k + 1, Y, t, by omega, rfl, ?_, HN.out HS.out _ HR1.out.1 HR1.out.2⟩, by simp [intOf]; omega⟩
            rw [← HP.out]
            congr 1
          · by_cases h0 : d = 0 ∧ 0 < P
            · have HN : Hid (rs (10 - k) k X (b :: t) = none) := rs_nought hk9 (by rw [HB.out]; exact hb) (by rw [HD.out]; exact h0.1) (by have := HP.out; omega)
              obtain ⟨rfl, hP0⟩ := h0
              go_wp2_with (go_at_call 56; refine (octet_yes g b t bad _ HS.out.rd).mono ?_; rintro e w1 ⟨rfl, hr, hc⟩; have HR1 := Lib.hid (And.intro hr hc); clear hr hc; rw [HB.out])
              exact ⟨rfl, HS.out.gave HN.out rfl ⟨_, HR1.out.1⟩ HR1.out.2⟩
            · have HN : Hid (rs (10 - k) k X (b :: t) = some (Y, t)) := by
                have e := rs_last (X := X) (t := t) hk9 (by rw [HD.out]; exact HF.out) (by rw [HB.out]; exact hb) (by rw [HD.out]; have := HP.out; omega)
                have e2 : X + d * 128 ^ k = Y := HY2.out
                rw [HD.out, e2] at e
                exact e
              have hcase : 0 < d ∨ ¬ 0 < P := by omega
              rcases hcase with hd0 | hP0
              · go_wp2_with (go_at_call 56; refine (octet_yes g b t bad _ HS.out.rd).mono ?_; rintro e w1 ⟨rfl, hr, hc⟩; have HR1 := Lib.hid (And.intro hr hc); clear hr hc; rw [HB.out])
                go_ret
                exact HS.out.told HN.out rfl HR1.out.1 HR1.out.2
              · clear h0
                go_wp2_with (go_at_call 56; refine (octet_yes g b t bad _ HS.out.rd).mono ?_; rintro e w1 ⟨rfl, hr, hc⟩; have HR1 := Lib.hid (And.intro hr hc); clear hr hc; rw [HB.out])
                all_goals go_ret
                all_goals exact HS.out.told HN.out rfl HR1.out.1 HR1.out.2
        · have hne := hnofit hf
          have HN : Hid (rs (10 - k) k X (b :: t) = none) := rs_fit hk9 (by rw [hd]; exact hf)
          have hne' : ((R : Int) != (d : Int)) = true := by simp; omega
          clear hfit hnofit hf hd hB hZ hne
          obtain ⟨P, hP⟩ : ∃ P, 7 * k = P := ⟨_, rfl⟩
          have hP9 : P ≤ 63 := by omega
          rw [hP] at hsl hsr ⊢
          clear hP hBd
          go_wp2_with (go_at_call 56; refine (octet_yes g b t bad _ HS.out.rd).mono ?_; rintro e w1 ⟨rfl, hr, hc⟩; have HR1 := Lib.hid (And.intro hr hc); clear hr hc; rw [HB.out])
          exact ⟨rfl, HS.out.gave HN.out rfl ⟨_, HR1.out.1⟩ HR1.out.2⟩
    · obtain rfl : k = 10 := by omega
      go_wp2
      exact ⟨rfl, HS.out.gave rfl rfl ⟨_, HS.out.rd⟩ (Chg.refl _ _)⟩
end Go.Proofs.Ytniogemgkcoimaa
