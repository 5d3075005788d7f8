/- The walk of the law SumOf: for any parts it answers true; nothing that was there turns. -/
import Derived.Test.YtimgbemdkajemaaDoorAwake
namespace Go.Proofs.YtimgbemdkajemaaDoor
open Go.RowKit Crc
/-- what the loop keeps -/
structure AllAt (w wr : World) (v : Value) (ls : List (List UInt8)) (k : Nat) : Prop where
  own : OwnBytes w.heap.size wr v (ls.take k).flatten
  below : Below w.heap.size w wr
  small : (ls.take k).flatten.length ≤ 20000
set_option maxHeartbeats 1000000 in
theorem sumOf_any (v : Value) (ls : List (List UInt8)) (w : World) (hT : Tabs w) (hp : PartsAt w v ls) (hsz : ∀ l ∈ ls, l.length ≤ 140737488355328) :
    Calls Tryd.prog 3 #[v] w fun e w' => e = .returned (.bool true) ∧ Below w.heap.size w w' := by
  have HT := Lib.hid hT
  have HP := Lib.hid hp
  obtain ⟨a, cap, rfl, hlen, hcells⟩ := hp
  unfold maxLen at hlen
  have HC := Lib.hid hcells
  have HZ := Lib.hid hsz
  have H0 : Hid (AllAt w w (.slice none 0 0) ls 0) := ⟨OwnBytes.nil _ _, Below.refl _ _, by simp⟩
  clear hT hcells hsz
  go_enter Tryd.func3, Tryd.ntmps3
  go_wp2
  go_loopw [3, 4] (fun t i wr => ∃ k : Nat, k ≤ ls.length ∧ k ≤ 1001 ∧ i = .int .i64 k ∧ Hid (AllAt w wr t ls k)) (fun _ i _ => ls.length - (intOf i).toNat)
  case atStart => exact ⟨0, Nat.zero_le _, Nat.zero_le _, rfl, H0.out⟩
  case round =>
    obtain ⟨k, hk, hk2, rfl, HH⟩ := hrel
    by_cases hlt : k < ls.length
    · obtain ⟨b, off, rfl, hb, hc⟩ := HC.out (by omega)
      obtain ⟨u, hu, hr⟩ := hc k hlt
      have hu' : wr.cell? ⟨b, off + k, none⟩ = some u := by rw [HH.out.below.cell (p := ⟨b, off + k, none⟩) hb]; exact hu
      obtain ⟨L, hL⟩ : ∃ L, ls.getD k [] = L := ⟨_, rfl⟩
      have hLz : L.length ≤ 140737488355328 := by
        rw [← hL, List.getD_eq_getElem?_getD, List.getElem?_eq_getElem hlt]; exact HZ.out _ (List.getElem_mem hlt)
      rw [hL] at hr
      have HR := Lib.hid hr
      have HE : Hid ((ls.take (k + 1)).flatten = (ls.take k).flatten ++ L) := by
        show _ = _
        rw [take_snoc' ls k [] hlt, hL, List.flatten_append, List.flatten_singleton]
      have hs := HH.out.small
      clear hc hu hr hL
      obtain ⟨A, hA⟩ : ∃ A, (ls.take k).flatten = A := ⟨_, rfl⟩
      have HO : Hid (OwnBytes w.heap.size wr u3 A) := by rw [← hA]; exact HH.out.own
      rw [hA] at hs HE
      have hAl : A.length ≤ 20000 := hs
      clear hA hs
      by_cases hbig : 20000 < A.length + L.length
      · go_wp2_with (first | (at_builtin; refine wpList_append_bytes rfl _ _ rfl w.heap.size _ _ A L rfl rfl HO.out (HR.out.below HH.out.below (Nat.le_refl _)) (by omega) HH.out.below.size ?_; intro v4 w4 hown4 hgrow4; have HO4 : Hid (OwnBytes w.heap.size w4 v4 (A ++ L)) := hown4; have HB4 : Hid (Below w.heap.size w w4) := HH.out.below.grown hgrow4 HH.out.below.size HO.out.own; clear hown4 hgrow4; obtain ⟨a4, c4, rfl⟩ := HO4.out.form) | (go_at_call 8; refine (awake_any _ (HT.out.below HB4.out (Nat.le_refl _))).mono ?_; rintro e w5 ⟨rfl, hb5⟩; have HB5 : Hid (Below w.heap.size w w5) := HB4.out.trans (hb5.mono HB4.out.size); clear hb5))
        go_ret
        exact ⟨rfl, HB5.out⟩
      · by_cases hmany : 1000 < k
        · go_wp2_with (first | (at_builtin; refine wpList_append_bytes rfl _ _ rfl w.heap.size _ _ A L rfl rfl HO.out (HR.out.below HH.out.below (Nat.le_refl _)) (by omega) HH.out.below.size ?_; intro v4 w4 hown4 hgrow4; have HO4 : Hid (OwnBytes w.heap.size w4 v4 (A ++ L)) := hown4; have HB4 : Hid (Below w.heap.size w w4) := HH.out.below.grown hgrow4 HH.out.below.size HO.out.own; clear hown4 hgrow4; obtain ⟨a4, c4, rfl⟩ := HO4.out.form) | (go_at_call 8; refine (awake_any _ (HT.out.below HB4.out (Nat.le_refl _))).mono ?_; rintro e w5 ⟨rfl, hb5⟩; have HB5 : Hid (Below w.heap.size w w5) := HB4.out.trans (hb5.mono HB4.out.size); clear hb5))
          go_ret
          exact ⟨rfl, HB5.out⟩
        · go_wp2_with (first | (at_builtin; refine wpList_append_bytes rfl _ _ rfl w.heap.size _ _ A L rfl rfl HO.out (HR.out.below HH.out.below (Nat.le_refl _)) (by omega) HH.out.below.size ?_; intro v4 w4 hown4 hgrow4; have HO4 : Hid (OwnBytes w.heap.size w4 v4 (A ++ L)) := hown4; have HB4 : Hid (Below w.heap.size w w4) := HH.out.below.grown hgrow4 HH.out.below.size HO.out.own; clear hown4 hgrow4; obtain ⟨a4, c4, rfl⟩ := HO4.out.form) | (go_at_call 8; refine (awake_any _ (HT.out.below HB4.out (Nat.le_refl _))).mono ?_; rintro e w5 ⟨rfl, hb5⟩; have HB5 : Hid (Below w.heap.size w w5) := HB4.out.trans (hb5.mono HB4.out.size); clear hb5))
          go_roundw
          case rel => exact ⟨k + 1, by omega, by omega, by go_num, ⟨by rw [HE.out]; have h := HO4.out; rw [List.length_append] at h; exact h, HB4.out, by rw [HE.out, List.length_append]; omega⟩⟩
          case measure => simp [intOf]; omega
    · obtain rfl : k = ls.length := by omega
      obtain ⟨F, hF⟩ : ∃ F, ls.flatten = F := ⟨_, rfl⟩
      have HF := Lib.hid hF
      have HO : Hid (OwnBytes w.heap.size wr u3 F) := by have := HH.out.own; rw [List.take_length, hF] at this; exact this
      have HB := Lib.hid HH.out.below
      obtain ⟨C, hC⟩ : ∃ C, crc F = C := ⟨_, rfl⟩
      have HCr := Lib.hid hC
      clear hC hF HH
      obtain ⟨a3, c3, rfl⟩ := HO.out.form
      go_wp2_with fail
      refine (of_any _ ls _ (HT.out.below HB.out (Nat.le_refl _)) (HP.out.below HB.out (Nat.le_refl _))).mono ?_
      rintro e w1 ⟨rfl, hb⟩
      have HB1 : Hid (Below w.heap.size w w1) := HB.out.trans (hb.mono HB.out.size)
      have HO1 : Hid (OwnBytes w.heap.size w1 (.slice a3 F.length c3) F) := HO.out.kept hb (Nat.le_refl _)
      clear hb
      rw [HF.out, HCr.out]
      go_wp2_with fail
      refine (ref_any _ F _ HO1.out.bytesAt).mono ?_
      rintro e w2 ⟨rfl, rfl⟩
      rw [HCr.out]
      have HP1 : Hid (∀ t, PartsAt (w1.alloc (.cells #[.slice a3 F.length c3] t)) (.slice (some ⟨w1.heap.size, 0, none⟩) 1 1) [F]) := fun t => partsAt_one HO1.out.bytesAt
      have HA : Hid (∀ o, Below w.heap.size w (w1.alloc o)) := fun o => HB1.out.alloc HB1.out.size o
      go_wp2_with fail
      refine (of_any _ [F] _ (HT.out.below (HA.out _) (Nat.le_refl _)) (HP1.out _)).mono ?_
      rintro e w3 ⟨rfl, hb⟩
      have HB3 : Hid (Below w.heap.size w w3) := (HA.out _).trans (hb.mono (by have := HB1.out.size; simp; omega))
      clear hb
      rw [List.flatten_singleton, HCr.out]
      go_wp2_with fail
      refine (of_any _ ls _ (HT.out.below HB3.out (Nat.le_refl _)) (HP.out.below HB3.out (Nat.le_refl _))).mono ?_
      rintro e w4 ⟨rfl, hb⟩
      have HB4 : Hid (Below w.heap.size w w4) := HB3.out.trans (hb.mono HB3.out.size)
      clear hb
      rw [HF.out, HCr.out]
      go_wp2_with fail
      refine (awake_any _ (HT.out.below HB4.out (Nat.le_refl _))).mono ?_
      rintro e w5 ⟨rfl, hb⟩
      have HB5 : Hid (Below w.heap.size w w5) := HB4.out.trans (hb.mono HB4.out.size)
      clear hb
      go_wp2
      go_ret
      exact ⟨rfl, HB5.out⟩
end Go.Proofs.YtimgbemdkajemaaDoor
