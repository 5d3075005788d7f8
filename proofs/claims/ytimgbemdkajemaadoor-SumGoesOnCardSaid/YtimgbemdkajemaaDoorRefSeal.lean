/- scrivenerref01.Seal. -/
import Derived.Test.YtimgbemdkajemaaDoorSeal
namespace Go.Proofs.YtimgbemdkajemaaDoor
open Go.RowKit Crc
theorem own_empty (w : World) : OwnBytes w.heap.size (w.alloc (.cells #[] 5)) (.slice (some ⟨w.heap.size, 0, none⟩) 0 0) [] :=
  ⟨by simp, .inr ⟨w.heap.size, 0, #[], rfl, Nat.le_refl _, by show (w.heap.push _)[w.heap.size]? = _; simp, by simp, by simp [maxLen], by simp, by simp⟩⟩
theorem byte_small (n : Nat) (h : n < 256) : Value.int .u8 (n : Int) = byteV (UInt8.ofNat n) := by
  rw [← byte_wrap]; congr 1; omega
theorem bytesAt_le4 (w : World) (t : TypeId) (S : Nat) {a b c d : Int} (ha : a = (S : Int) % 256) (hb : b = ((S / 256 : Nat) : Int) % 256) (hc : c = ((S / 65536 : Nat) : Int) % 256) (hd : d = ((S / 16777216 : Nat) : Int) % 256) :
    BytesAt (w.alloc (.cells #[.int .u8 a, .int .u8 b, .int .u8 c, .int .u8 d] t)) (.slice (some ⟨w.heap.size, 0, none⟩) 4 4) (le4 S) := by
  rw [ha, hb, hc, hd, byte_wrap, byte_wrap, byte_wrap, byte_wrap]
  refine BytesAt.mk' (l := le4 S) w.heap.size 0 4 (by simp [maxLen, le4]) (fun _ => by simp) fun j hj => ?_
  have : j = 0 ∨ j = 1 ∨ j = 2 ∨ j = 3 := by simp [le4] at hj; omega
  rcases this with rfl | rfl | rfl | rfl <;> simp [byteV, le4]
set_option maxHeartbeats 1000000 in
theorem refSeal_any (v : Value) (l : List UInt8) (w : World) (hp : BytesAt w v l) (hsmall : l.length ≤ 70000) :
    Calls Tryd.prog 12 #[v] w (Gives w (sealed l)) := by
  have HP := Lib.hid hp
  obtain ⟨a, cap, rfl, hlen, _⟩ := hp.form
  clear hlen hp
  have hS := crc_lt l
  go_enter Tryd.func12, Tryd.ntmps12
  obtain ⟨S, hSe⟩ : ∃ S, crc l = S := ⟨_, rfl⟩
  have HS : Hid (sealed l = l ++ le4 S) := by rw [← hSe]; rfl
  have HSe := Lib.hid hSe
  rw [hSe] at hS
  clear hSe
  go_wp2_with (first | (go_at_call 10; refine (ref_any _ l _ HP.out).mono ?_; rintro e w3 ⟨rfl, rfl⟩; rw [HSe.out]) | (at_builtin; refine wpList_append_bytes rfl (.tmp 6) (.tmp 7) rfl w.heap.size _ _ _ l rfl rfl (own_empty w) (HP.out.below ((Below.refl _ _).alloc (Nat.le_refl _) _) (Nat.le_refl _)) (by simp; omega) (by simp) ?_; intro v4 w4 hown4 hgrow4; have HO4 : Hid (OwnBytes w.heap.size w4 v4 l) := hown4; have HB4 : Hid (Below w.heap.size w w4) := ((Below.refl _ _).alloc (Nat.le_refl _) _).grown hgrow4 (by simp) (own_empty w).own; clear hown4 hgrow4) | (at_builtin; refine wpList_append_bytes rfl (.tmp 8) (.tmp 20) rfl w.heap.size _ _ _ (le4 S) rfl rfl (HO4.out.alloc _) (bytesAt_le4 _ _ S rfl rfl rfl (by omega)) (by simp [le4]; omega) (by have := HB4.out.size; simp; omega) ?_; intro v5 w5 hown5 hgrow5; have HO5 : Hid (OwnBytes w.heap.size w5 v5 (l ++ le4 S)) := hown5; have HB5 : Hid (Below w.heap.size w w5) := (HB4.out.alloc HB4.out.size _).grown hgrow5 (by have := HB4.out.size; simp; omega) HO4.out.own; clear hown5 hgrow5))
  go_ret
  exact ⟨_, rfl, by rw [HS.out]; exact HO5.out, HB5.out⟩
end Go.Proofs.YtimgbemdkajemaaDoor
