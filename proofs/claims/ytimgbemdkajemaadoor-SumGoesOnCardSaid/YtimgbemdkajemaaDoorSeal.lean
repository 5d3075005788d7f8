/- sum.Seal: the text, and its sum behind it. -/
import Derived.Test.YtimgbemdkajemaaDoorOwn
namespace Go.Proofs.YtimgbemdkajemaaDoor
open Go.RowKit Crc
/-- a sum's four bytes, the least one first -/
def le4 (s : Nat) : List UInt8 := [UInt8.ofNat s, UInt8.ofNat (s / 256), UInt8.ofNat (s / 65536), UInt8.ofNat (s / 16777216)]
def sealed (l : List UInt8) : List UInt8 := l ++ le4 (crc l)
theorem sealed_length (l : List UInt8) : (sealed l).length = l.length + 4 := by simp [sealed, le4]
/-- what a call leaves that hands back bytes of its own -/
def Gives (w : World) (l : List UInt8) (e : Ending) (w' : World) : Prop := ∃ v, e = .returned v ∧ OwnBytes w.heap.size w' v l ∧ Below w.heap.size w w'

theorem Tabs.cells1 {w : World} (h : Tabs w) : w.cell? ⟨1, 0, none⟩ = some (.int .i64 0) ∧ w.cell? ⟨1, 1, none⟩ = some (.int .i64 8) ∧ w.cell? ⟨1, 2, none⟩ = some (.int .i64 16) ∧ w.cell? ⟨1, 3, none⟩ = some (.int .i64 24) := by
  obtain ⟨t, fr, hp⟩ := h.places
  exact ⟨Go.Joins.cell_of_block hp 0, Go.Joins.cell_of_block hp 1, Go.Joins.cell_of_block hp 2, Go.Joins.cell_of_block hp 3⟩
theorem byte_wrap (n : Nat) : Value.int .u8 ((n : Int) % 256) = byteV (UInt8.ofNat n) := by
  unfold byteV
  rw [UInt8.toNat_ofNat']
  congr 1
theorem bytesAt_wrap (w : World) (t : TypeId) (n : Nat) {e : Int} (h : e = (n : Int) % 256) : BytesAt (w.alloc (.cells #[.int .u8 e] t)) (.slice (some ⟨w.heap.size, 0, none⟩) 1 1) [UInt8.ofNat n] := by
  rw [h, byte_wrap]; exact bytesAt_one w t _
/-- what the loop of sum.Seal keeps -/
structure SealAt (w wr : World) (v : Value) (l : List UInt8) (m : Nat) : Prop where
  own : OwnBytes w.heap.size wr v (l ++ (le4 (crc l)).take m)
  below : Below w.heap.size w wr
theorem SealAt.next {w wr w' : World} {v v' : Value} {l : List UInt8} {m : Nat} {t : TypeId} {o : Value} {b : UInt8} (h : SealAt w wr v l m)
    (hown : OwnBytes w.heap.size w' v' (l ++ (le4 (crc l)).take m ++ [b])) (hg : (wr.alloc (.cells #[o] t)).grownBy w' v.ownBlock) (hb : (le4 (crc l)).take (m + 1) = (le4 (crc l)).take m ++ [b]) : SealAt w w' v' l (m + 1) := by
  refine ⟨by rw [hb, ← List.append_assoc]; exact hown, (h.below.alloc h.below.size _).grown hg (by have := h.below.size; simp; omega) h.own.own⟩
def SealRel (w : World) (l : List UInt8) (t i : Value) (wr : World) : Prop :=
  (i = .int .i64 0 ∧ Hid (SealAt w wr t l 0)) ∨ (i = .int .i64 1 ∧ Hid (SealAt w wr t l 1)) ∨ (i = .int .i64 2 ∧ Hid (SealAt w wr t l 2)) ∨ (i = .int .i64 3 ∧ Hid (SealAt w wr t l 3)) ∨ (i = .int .i64 4 ∧ Hid (SealAt w wr t l 4))
set_option maxHeartbeats 1000000 in
theorem seal_any (v : Value) (l : List UInt8) (w : World) (hT : Tabs w) (hp : BytesAt w v l) (hsmall : l.length ≤ 70000) :
    Calls Tryd.prog 11 #[v] w (Gives w (sealed l)) := by
  obtain ⟨i0, hi, hz0, hz1, hz2⟩ := info_parts info5
  have HT := Lib.hid hT
  have HP := Lib.hid hp
  obtain ⟨a, cap, rfl, hlen, _⟩ := hp.form
  clear hlen hp
  go_enter Tryd.func11, Tryd.ntmps11
  clear hT
  go_wp2_with (first | (at_make; refine wpList_make_own _ rfl _ _ 23 rfl w.heap.size 5 i0 (.int .u8 0) 1 Tryd.underlying23 hi hz0 hz1 _ _ _ (l.length + 4) rfl rfl rfl (by rw [hz2]; omega) (by unfold maxLen; omega) (Nat.le_refl _) ?_; intro w1 hown1 hgrow1; have HO1 : Hid (OwnBytes w.heap.size w1 (.slice (some ⟨w.heap.size, 0, none⟩) 0 (l.length + 4)) []) := hown1; have HB1 : Hid (Below w.heap.size w w1) := (Below.refl _ _).grown hgrow1 (Nat.le_refl _) (by simp); clear hown1 hgrow1) | (at_builtin; refine wpList_append_bytes rfl _ _ rfl w.heap.size _ _ _ l rfl rfl HO1.out (HP.out.below HB1.out (Nat.le_refl _)) (by simp; omega) HB1.out.size ?_; intro v2 w2 hown2 hgrow2; have HO2 : Hid (OwnBytes w.heap.size w2 v2 l) := hown2; have HB2 : Hid (Below w.heap.size w w2) := HB1.out.grown hgrow2 HB1.out.size HO1.out.own; clear hown2 hgrow2) | (go_at_call 9; refine (of_any _ [l] _ (HT.out.below (HB2.out.alloc HB2.out.size _) (Nat.le_refl _)) (partsAt_one (HP.out.below HB2.out (Nat.le_refl _)))).mono ?_; rintro e w3 ⟨rfl, hb3⟩; have HB3 : Hid (Below w.heap.size w w3) := (HB2.out.alloc HB2.out.size _).trans (hb3.mono (by have := HB2.out.size; simp; omega)); have HO3 : Hid (OwnBytes w.heap.size w3 v2 l) := (HO2.out.alloc _).kept hb3 (Nat.le_refl _); clear hb3; obtain ⟨c10, c11, c12, c13⟩ := (HT.out.below HB3.out (Nat.le_refl _)).cells1))
  have H0 : Hid (SealAt w w3 v2 l 0) := ⟨by rw [List.take_zero, List.append_nil]; exact HO3.out, HB3.out⟩
  have ix0 : ∀ w, (Instr.index 40 (.agg #[.int .i64 0, .int .i64 8, .int .i64 16, .int .i64 24]) (.int .i64 0)).run Tryd.prog w = .ok (.int .i64 0) w := fun _ => by kernel_rfl
  have ix1 : ∀ w, (Instr.index 40 (.agg #[.int .i64 0, .int .i64 8, .int .i64 16, .int .i64 24]) (.int .i64 1)).run Tryd.prog w = .ok (.int .i64 8) w := fun _ => by kernel_rfl
  have ix2 : ∀ w, (Instr.index 40 (.agg #[.int .i64 0, .int .i64 8, .int .i64 16, .int .i64 24]) (.int .i64 2)).run Tryd.prog w = .ok (.int .i64 16) w := fun _ => by kernel_rfl
  have ix3 : ∀ w, (Instr.index 40 (.agg #[.int .i64 0, .int .i64 8, .int .i64 16, .int .i64 24]) (.int .i64 3)).run Tryd.prog w = .ok (.int .i64 24) w := fun _ => by kernel_rfl
  have hS := crc_lt l
  obtain ⟨S, hSe⟩ : ∃ S, crc l = S := ⟨_, rfl⟩
  have HSe := Lib.hid hSe
  rw [hSe] at hS ⊢
  clear hSe c10 c11 c12 c13
  go_loopw [3, 18] (fun t i wr => SealRel w l t i wr) (fun _ i _ => 4 - (intOf i).toNat)
  case atStart => exact .inl ⟨rfl, H0.out⟩
  case round =>
    rcases hrel with ⟨rfl, HL⟩ | ⟨rfl, HL⟩ | ⟨rfl, HL⟩ | ⟨rfl, HL⟩ | ⟨rfl, HL⟩
    · go_wp2_with (at_builtin; refine wpList_append_bytes rfl _ _ rfl w.heap.size _ _ _ [UInt8.ofNat S] rfl rfl (HL.out.own.alloc _) (bytesAt_wrap _ _ S rfl) (by simp [le4]; omega) (by have := HL.out.below.size; simp; omega) ?_; intro v4 w4 hown4 hgrow4; have HN : Hid (SealAt w w4 v4 l 1) := HL.out.next hown4 hgrow4 (by rw [HSe.out]; rfl); clear hown4 hgrow4)
      go_roundw
      case rel => exact .inr (.inl ⟨rfl, HN⟩)
      case measure => simp [intOf]
    · go_wp2_with (at_builtin; refine wpList_append_bytes rfl _ _ rfl w.heap.size _ _ _ [UInt8.ofNat (S / 256)] rfl rfl (HL.out.own.alloc _) (bytesAt_wrap _ _ (S / 256) rfl) (by simp [le4]; omega) (by have := HL.out.below.size; simp; omega) ?_; intro v4 w4 hown4 hgrow4; have HN : Hid (SealAt w w4 v4 l 2) := HL.out.next hown4 hgrow4 (by rw [HSe.out]; rfl); clear hown4 hgrow4)
      go_roundw
      case rel => exact .inr (.inr (.inl ⟨rfl, HN⟩))
      case measure => simp [intOf]
    · go_wp2_with (at_builtin; refine wpList_append_bytes rfl _ _ rfl w.heap.size _ _ _ [UInt8.ofNat (S / 65536)] rfl rfl (HL.out.own.alloc _) (bytesAt_wrap _ _ (S / 65536) rfl) (by simp [le4]; omega) (by have := HL.out.below.size; simp; omega) ?_; intro v4 w4 hown4 hgrow4; have HN : Hid (SealAt w w4 v4 l 3) := HL.out.next hown4 hgrow4 (by rw [HSe.out]; rfl); clear hown4 hgrow4)
      go_roundw
      case rel => exact .inr (.inr (.inr (.inl ⟨rfl, HN⟩)))
      case measure => simp [intOf]
    · go_wp2_with (at_builtin; refine wpList_append_bytes rfl _ _ rfl w.heap.size _ _ _ [UInt8.ofNat (S / 16777216)] rfl rfl (HL.out.own.alloc _) (bytesAt_wrap _ _ (S / 16777216) (by omega)) (by simp [le4]; omega) (by have := HL.out.below.size; simp; omega) ?_; intro v4 w4 hown4 hgrow4; have HN : Hid (SealAt w w4 v4 l 4) := HL.out.next hown4 hgrow4 (by rw [HSe.out]; rfl); clear hown4 hgrow4)
      go_roundw
      case rel => exact .inr (.inr (.inr (.inr (⟨rfl, HN⟩))))
      case measure => simp [intOf]
    · go_wp2
      go_ret
      refine ⟨_, rfl, ?_, HL.out.below⟩
      have := HL.out.own
      rw [List.take_of_length_le (by simp [le4])] at this
      exact this
end Go.Proofs.YtimgbemdkajemaaDoor
