/- The document's answer: a short number's bytes. -/
import Derived.Test.YtniogemgkcoimaaRefW
import Derived.OwnWalk
namespace Go.Proofs.Ytniogemgkcoimaa
open Go.RowKit
/-- the first loop: so many digits are counted -/
structure CountAt (x c y : Nat) : Prop where
  ex : ∃ n, c + (shortF n y).length = (short x).length + 1 ∧ y < 128 ^ (n + 1)
  le : 1 ≤ c ∧ c ≤ 10
  u64 : y < 18446744073709551616
theorem CountAt.step {x c y : Nat} (h : CountAt x c y) (hy : 128 ≤ y) : CountAt x (c + 1) (y / 128) := by
  obtain ⟨n, h1, h2⟩ := h.ex
  have hs := (short_length x).2
  match n, h1, h2 with
  | 0, h1, h2 => omega
  | n + 1, h1, h2 =>
    unfold shortF at h1
    rw [if_neg (by omega), List.length_cons] at h1
    have := List.length_pos_iff.2 (shortF_ne n (y / 128))
    rw [Nat.pow_succ] at h2
    exact ⟨⟨n, by omega, by omega⟩, by omega, by have := h.u64; omega⟩
theorem CountAt.done {x c y : Nat} (h : CountAt x c y) (hy : y < 128) : c = (short x).length := by
  obtain ⟨n, h1, h2⟩ := h.ex
  have : (shortF n y).length = 1 := by
    cases n with
    | zero => rfl
    | succ n => unfold shortF; rw [if_pos hy]; rfl
  omega
/-- the second loop: i digits are stored, X is left -/
structure StoreAt (w wr : World) (v : Value) (x i X : Nat) : Prop where
  ex : ∃ L : List UInt8, L.length = (short x).length ∧ OwnBytes w.heap.size wr v L ∧ (i < (short x).length → ∃ n, L.take i ++ shortF n X = short x ∧ X < 128 ^ (n + 1)) ∧ (i = (short x).length → L = short x)
  below : Below w.heap.size w wr
  u64 : X < 18446744073709551616
theorem take_set (L : List UInt8) (i : Nat) (y : UInt8) (h : i < L.length) : (L.set i y).take (i + 1) = L.take i ++ [y] := by
  apply List.ext_getElem?
  intro j
  simp only [List.getElem?_take, List.getElem?_set, List.getElem?_append, List.length_take]
  by_cases hj : j < i
  · have h1 : ¬ i = j := by omega
    simp [hj, h1, show j < i + 1 by omega, show j < min i L.length by omega]
  · by_cases hji : j = i
    · subst hji
      simp [h, show ¬ j < min j L.length by omega, show j - min j L.length = 0 by omega]
    · simp [show ¬ j < i + 1 by omega, show ¬ j < min i L.length by omega]
      omega
/-- a digit that is not the last one is stored -/
theorem StoreAt.more {w wr : World} {g m c x i X : Nat} (h : StoreAt w wr (.slice (some ⟨g, 0, none⟩) m c) x i X) (hm : m = (short x).length) (hi : i + 1 < (short x).length) (y0 : UInt8) :
    StoreAt w ((wr.setCell ⟨g, i, none⟩ (byteV y0)).setCell ⟨g, i, none⟩ (byteV (UInt8.ofNat (X % 128 + 128)))) (.slice (some ⟨g, 0, none⟩) m c) x (i + 1) (X / 128) := by
  obtain ⟨L, hL, hown, hlt, _⟩ := h.ex
  obtain ⟨n, hn, hX⟩ := hlt (by omega)
  have hT : (L.take i).length = i := by rw [List.length_take]; omega
  have hlen : i + (shortF n X).length = (short x).length := by rw [← hn, List.length_append, hT]
  have hg := hown.own g rfl
  have hX128 : ¬ X < 128 := fun hlt => by
    have : (shortF n X).length = 1 := by
      cases n with
      | zero => rfl
      | succ n => unfold shortF; rw [if_pos hlt]; rfl
    omega
  refine ⟨⟨(L.set i y0).set i (UInt8.ofNat (X % 128 + 128)), by simp [hL], (hown.set (by omega) y0).set (by simp; omega) _, fun _ => ?_, fun h => by omega⟩, (h.below.setCell (p := ⟨g, i, none⟩) hg _).setCell (p := ⟨g, i, none⟩) hg _, by have := h.u64; omega⟩
  rw [List.set_set, take_set _ _ _ (by omega)]
  match n, hn, hX, hlen with
  | 0, hn, hX, hlen => simp [shortF] at hlen; omega
  | n + 1, hn, hX, hlen =>
    unfold shortF at hn
    rw [if_neg hX128] at hn
    rw [Nat.pow_succ] at hX
    exact ⟨n, by rw [List.append_assoc]; exact hn, by omega⟩
/-- the last one is -/
theorem StoreAt.last {w wr : World} {g m c x i X : Nat} (h : StoreAt w wr (.slice (some ⟨g, 0, none⟩) m c) x i X) (hm : m = (short x).length) (hi : i + 1 = (short x).length) :
    StoreAt w (wr.setCell ⟨g, i, none⟩ (byteV (UInt8.ofNat (X % 128)))) (.slice (some ⟨g, 0, none⟩) m c) x (i + 1) (X / 128) := by
  obtain ⟨L, hL, hown, hlt, _⟩ := h.ex
  obtain ⟨n, hn, hX⟩ := hlt (by omega)
  have hT : (L.take i).length = i := by rw [List.length_take]; omega
  have hlen : i + (shortF n X).length = (short x).length := by rw [← hn, List.length_append, hT]
  have hg := hown.own g rfl
  have hX128 : X < 128 ∧ shortF n X = [UInt8.ofNat X] := by
    cases n with
    | zero => exact ⟨by omega, rfl⟩
    | succ n =>
      by_cases hlt : X < 128
      · exact ⟨hlt, by unfold shortF; rw [if_pos hlt]⟩
      · unfold shortF at hlen
        rw [if_neg hlt, List.length_cons] at hlen
        have := List.length_pos_iff.2 (shortF_ne n (X / 128))
        omega
  refine ⟨⟨L.set i (UInt8.ofNat (X % 128)), by simp [hL], hown.set (by omega) _, fun h => by omega, fun _ => ?_⟩, h.below.setCell (p := ⟨g, i, none⟩) hg _, by have := h.u64; omega⟩
  have h1 : (L.set i (UInt8.ofNat (X % 128))).take (i + 1) = short x := by
    rw [take_set _ _ _ (by omega), Nat.mod_eq_of_lt hX128.1, ← hX128.2, hn]
  rwa [List.take_of_length_le (by simp; omega)] at h1
theorem madeCells5 (n : Nat) : (madeCells (Value.cells (.int .u8 0)) (n * 1)).toList = (List.replicate n (0 : UInt8)).map byteV := by
  rw [Nat.mul_one]
  apply List.ext_getElem?
  intro j
  by_cases hj : j < n
  · simp [madeCells, hj, Nat.mod_one, byteV, Value.cells]
  · simp [madeCells, hj]
theorem byteV_low (X : Nat) : byteV (UInt8.ofNat (X % 128)) = .int .u8 ((X : Int) % 128) := by
  unfold byteV; rw [UInt8.toNat_ofNat']; congr 1; omega
theorem byteV_high (X : Nat) : byteV (UInt8.ofNat (X % 128 + 128)) = .int .u8 ((X : Int) % 128 + 128) := by
  unfold byteV; rw [UInt8.toNat_ofNat']; congr 1; omega
set_option maxRecDepth 100000 in
set_option maxHeartbeats 400000 in
theorem refShort_any (x : Nat) (w : World) (hx : x < 18446744073709551616) :
    Calls Try.prog 41 #[.int .u64 (x : Nat)] w fun e w' => ∃ g, e = .returned (.slice (some ⟨g, 0, none⟩) (short x).length (short x).length) ∧ OwnBytes w.heap.size w' (.slice (some ⟨g, 0, none⟩) (short x).length (short x).length) (short x) ∧ Below w.heap.size w w' := by
  obtain ⟨i0, hi, hz0, hz1, hz2⟩ := info_parts info5
  have H0 : Hid (CountAt x 1 x) := ⟨⟨9, by show 1 + (short x).length = _; omega, by omega⟩, by omega, hx⟩
  have HX := Lib.hid hx
  have hsx := short_length x
  clear hx
  go_enter Try.func41, Try.ntmps41
  go_wp2
  go_loopw [3, 4] (fun c i wr => ∃ (C Y : Nat), c = .int .i64 (C : Nat) ∧ i = .int .u64 (Y : Nat) ∧ Hid (CountAt x C Y ∧ w = wr)) (fun _ i _ => (intOf i).toNat)
  case atStart => exact ⟨1, x, rfl, rfl, H0.out, rfl⟩
  case round =>
    obtain ⟨C, Y, rfl, rfl, HC⟩ := hrel
    clear H0
    have hle := HC.out.1.le
    have hwr : IntKind.u64.wrap ((Y : Int) / 128) = ((Y / 128 : Nat) : Int) := by
      have := HC.out.1.u64
      simp [IntKind.wrap, IntKind.bits, IntKind.signed]; omega
    by_cases hY : 128 ≤ Y
    · have HS : Hid (CountAt x (C + 1) (Y / 128) ∧ w = wr) := ⟨HC.out.1.step hY, HC.out.2⟩
      clear HC
      go_wp2
      go_roundw
      case rel => exact ⟨C + 1, Y / 128, by go_num, by go_num, HS.out⟩
      case measure => simp [intOf]; omega
    · obtain rfl : C = (short x).length := HC.out.1.done (by omega)
      obtain rfl := HC.out.2
      clear HC
      obtain ⟨m, hm⟩ : ∃ m, (short x).length = m := ⟨_, rfl⟩
      have HM := Lib.hid hm
      rw [hm] at hle hsx ⊢
      clear hm
      go_wp2_with (refine wpList_make_full _ rfl _ _ 27 rfl w.heap.size 5 i0 (.int .u8 0) 1 Try.underlying27 hi hz0 hz1 .i64 .i64 _ _ m rfl rfl rfl rfl (by rw [hz2]; omega) (by rw [maxLen_eq]; omega) (Nat.le_refl _) ?_; intro w1 hown hg; have HO : Hid (OwnBytes w.heap.size w1 (.slice (some ⟨w.heap.size, 0, none⟩) m m) (List.replicate m 0) ∧ Below w.heap.size w w1) := ⟨by unfold OwnBytes; rw [List.length_replicate, ← madeCells5]; exact hown, (Below.refl _ w).grown hg (Nat.le_refl _) (by simp)⟩; clear hown hg)
      clear hwr hY hle
      have H1 : Hid (StoreAt w w1 (.slice (some ⟨w.heap.size, 0, none⟩) m m) x 0 x) := ⟨⟨List.replicate m 0, by rw [HM.out]; simp, HO.out.1, fun _ => ⟨9, by simp [short], by have := HX.out; omega⟩, fun h => by have := HM.out; omega⟩, HO.out.2, HX.out⟩
      clear HO
      go_loopw [0, 6] (fun xv i wr => ∃ (X k : Nat), k ≤ m ∧ xv = .int .u64 (X : Nat) ∧ i = .int .i64 (k : Nat) ∧ Hid (StoreAt w wr (.slice (some ⟨w.heap.size, 0, none⟩) m m) x k X)) (fun _ i _ => m - (intOf i).toNat)
      case atStart => exact ⟨x, 0, Nat.zero_le _, rfl, rfl, H1.out⟩
      case round =>
        obtain ⟨X, k, hk, rfl, rfl, HS⟩ := hrel
        clear H1
        have hwr : IntKind.u64.wrap ((X : Int) / 128) = ((X / 128 : Nat) : Int) := by
          have := HS.out.u64
          simp [IntKind.wrap, IntKind.bits, IntKind.signed]; omega
        have h8 : IntKind.u8.wrap ((X : Int) % 128) = ((X % 128 : Nat) : Int) := by
          simp [IntKind.wrap, IntKind.bits, IntKind.signed]; omega
        by_cases hlt : k < m
        · obtain ⟨L, hL, hown, _, _⟩ := HS.out.ex
          obtain ⟨hc, hf⟩ := hown.cell (by rw [hL, HM.out]) hlt
          by_cases hlast : k + 1 < m
          · have hm := HS.out.more HM.out.symm (by rw [HM.out]; exact hlast) (UInt8.ofNat (X % 128))
            rw [byteV_low, byteV_high] at hm
            have HN := Lib.hid hm
            clear hown hL hm
            go_wp2
            go_roundw
            case rel => exact ⟨X / 128, k + 1, by omega, by go_num, by go_num, HN.out⟩
            case measure => simp [intOf]; omega
          · have hm := HS.out.last HM.out.symm (by rw [HM.out]; omega)
            rw [byteV_low] at hm
            have HN := Lib.hid hm
            clear hown hL hm
            go_wp2
            go_roundw
            case rel => exact ⟨X / 128, k + 1, by omega, by go_num, by go_num, HN.out⟩
            case measure => simp [intOf]; omega
        · obtain rfl : k = m := by omega
          have HF : Hid (OwnBytes w.heap.size wr (.slice (some ⟨w.heap.size, 0, none⟩) k k) (short x) ∧ Below w.heap.size w wr) := by
            obtain ⟨L, hL, hown, _, hlast⟩ := HS.out.ex
            rw [← hlast HM.out.symm]; exact ⟨hown, HS.out.below⟩
          clear HS
          go_wp2
          go_ret
          rw [HM.out]
          exact ⟨_, rfl, HF.out⟩
end Go.Proofs.Ytniogemgkcoimaa
