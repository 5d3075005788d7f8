/- The walk of the law DiskSwaps. -/
import Derived.Test.YticbfnflillokaaActDo
import Derived.Test.YticbfnflillokaaSwapMath
import Derived.Test.YticbfnflillokaaAwake
namespace Go.Proofs.Yticbfnflillokaa
open Go.RowKit
abbrev Nil : Bks := fun _ => False
set_option maxRecDepth 100000 in
set_option maxHeartbeats 4000000 in
theorem diskSwaps_any (n : Int) (v1 v2 v3 : Value) (l : List AV) (old fresh : Bs) (keep torn : Int) (w : World) (hp : ActsIn w v1 l) (ho : BytesAt w v2 old) (hf : BytesAt w v3 fresh) :
    Calls Try.prog 7 #[.int .i64 n, v1, v2, v3, .int .i64 keep, .int .i64 torn] w fun e w' => e = .returned (.bool true) ∧ Below w.heap.size w w' := by
  have HX : Hid (∀ W, Below w.heap.size w W → Calls Try.prog 10 #[] W fun e w' => e = .returned (.bool true) ∧ Below w.heap.size w w') := fun W hb => (awake_any W).mono fun e w' h => ⟨h.1, hb.trans (h.2.mono hb.size)⟩
  obtain ⟨ua, uc, rfl, _⟩ := ho.form
  obtain ⟨fa, fc, rfl, _⟩ := hf.form
  obtain ⟨la, lc, rfl, hl1, hl2, _⟩ := id hp.1
  rw [maxLen_eq] at hl1
  have HP := Lib.hid hp
  have HO := Lib.hid ho
  have HF := Lib.hid hf
  clear hp ho hf
  by_cases hcap : n < 0 ∨ 65536 < n
  · go_enter Try.func7, Try.ntmps7
    go_wp2_with fail
    refine (new_bad n w hcap).mono ?_
    rintro e w1 ⟨rfl, rfl⟩
    clear hcap
    go_wp2_with fail
    refine (HX.out _ (Below.refl _ _)).mono ?_
    rintro e w1 ⟨rfl, hb⟩
    have HBE := Lib.hid hb
    clear hb
    go_wp2
    go_ret
    exact ⟨rfl, HBE.out⟩
  obtain ⟨c, rfl⟩ : ∃ c : Nat, n = (c : Int) := ⟨n.toNat, by omega⟩
  go_enter Try.func7, Try.ntmps7
  go_wp2_with fail
  refine (new_any c w (by omega)).mono ?_
  rintro e w1 ⟨p, rfl, hfr⟩
  have H1 : Hid (One w Nil w1 p 0 (Dk.new c)) := One.of_fresh hfr
  have HG := Lib.hid (many_any _ l w1 (HP.out.below hfr.choose_spec.choose_spec.2.2))
  clear hfr hcap
  by_cases hg : 400 < countTo l l.length
  · rw [decide_eq_true hg] at HG
    clear hg
    go_wp2_with fail
    refine HG.out.mono ?_
    rintro e w2 ⟨rfl, hb⟩
    have HB2 : Hid (Below w.heap.size w w2) := H1.out.below.trans (hb.mono H1.out.below.size)
    clear hb
    go_wp2_with fail
    refine (HX.out _ HB2.out).mono ?_
    rintro e w3 ⟨rfl, hb⟩
    have HBE := Lib.hid hb
    clear hb
    go_wp2
    go_ret
    exact ⟨rfl, HBE.out⟩
  rw [decide_eq_false hg] at HG
  have hlen : l.length ≤ 400 := by unfold countTo at hg; omega
  clear hg
  go_wp2_with fail
  refine HG.out.mono ?_
  rintro e w2 ⟨rfl, hb⟩
  have H2 : Hid (One w Nil w2 p 0 (Dk.new c)) := (H1.out.still hb).1
  clear hb H1 HG
  by_cases hbig : (60000 : Int) < wrap64 ((old.length : Int) + fresh.length)
  · go_wp2_with fail
    refine (HX.out _ H2.out.below).mono ?_
    rintro e w3 ⟨rfl, hb⟩
    have HBE := Lib.hid hb
    clear hb
    go_wp2
    go_ret
    exact ⟨rfl, HBE.out⟩
  have HL := Lib.hid hlen
  clear hlen hl2
  go_wp2
  clear hbig
  go_loopw [15] (fun i wr => ∃ k : Nat, k ≤ l.length ∧ i = .int .i64 (k : Nat) ∧ Hid (∃ d, One w Nil wr p k d)) (fun i _ => l.length - (intOf i).toNat)
  case atStart => exact ⟨0, Nat.zero_le _, rfl, _, H2.out⟩
  case round =>
    obtain ⟨k, hk, rfl, HR⟩ := hrel
    by_cases hlt : k < l.length
    · obtain ⟨d, hd⟩ := HR.out
      obtain ⟨_, _, e1, _, _, _, hc0⟩ := (HP.out.below hd.below).1
      obtain ⟨b, off, e2, hb, hc⟩ := hc0 (by omega)
      injection e1 with e3 e4 e5
      subst e3
      subst e2
      subst e5
      obtain ⟨q, hqk⟩ : ∃ q, l[k]? = some q := ⟨_, List.getElem?_eq_getElem hlt⟩
      obtain ⟨hok, u, hu, hr⟩ := hc k q hqk
      have HD := Lib.hid (does_any hd (by have := HL.out; omega) q u hu hok)
      have h0 : wr.cell? ⟨b, off + k * 6 + 0, none⟩ = some (.int .i64 q.o) := hr 0 (by omega)
      have h1 : wr.cell? ⟨b, off + k * 6 + 1, none⟩ = some (.string ⟨q.name.toArray⟩) := hr 1 (by omega)
      have h2 : wr.cell? ⟨b, off + k * 6 + 2, none⟩ = some (.string ⟨q.to.toArray⟩) := hr 2 (by omega)
      have h3 : wr.cell? ⟨b, off + k * 6 + 3, none⟩ = some u := hr 3 (by omega)
      have h4 : wr.cell? ⟨b, off + k * 6 + 4, none⟩ = some (.int .i64 q.x) := hr 4 (by omega)
      have h5 : wr.cell? ⟨b, off + k * 6 + 5, none⟩ = some (.int .i64 q.y) := hr 5 (by omega)
      clear hc0 hc hr hu hok hqk HR hd hb e4
      rw [Nat.add_zero] at h0
      obtain ⟨nm, hnm⟩ : ∃ nm, (⟨q.name.toArray⟩ : ByteArray) = nm := ⟨_, rfl⟩
      obtain ⟨to, hto⟩ : ∃ to, (⟨q.to.toArray⟩ : ByteArray) = to := ⟨_, rfl⟩
      have HC : Hid ((q.cells u).toArray = #[.int .i64 q.o, .string nm, .string to, u, .int .i64 q.x, .int .i64 q.y]) := by rw [← hnm, ← hto]; exact rfl
      rw [HC.out] at HD
      rw [hnm] at h1
      rw [hto] at h2
      clear hnm hto HC
      go_wp2_with (go_at_call 32; refine HD.out.mono ?_; rintro e w3 ⟨rfl, hd3, _⟩; have H3 : Hid (∃ d, One w Nil w3 p (k + 1) d) := ⟨_, hd3⟩; clear hd3)
      go_roundw
      case rel => exact ⟨k + 1, by omega, by go_num, H3.out⟩
      case measure => simp [intOf]; omega
    · obtain rfl : k = l.length := by omega
      obtain ⟨d0, hd0⟩ := HR.out
      have H3 : Hid (One w Nil wr p 400 d0) := hd0.mono HL.out
      clear hd0 HR
      go_wp2_with fail
      refine (H3.out.does fun _ _ hd => start_any hd).mono ?_
      rintro e w3 ⟨rfl, h3, _⟩
      have hup := d0.start_up
      obtain ⟨d1, hd1⟩ : ∃ d1, d0.start.2 = d1 := ⟨_, rfl⟩
      rw [hd1] at h3 hup
      have H4 : Hid (One w Nil w3 p 401 d1) := h3
      have HUP := Lib.hid hup
      obtain ⟨z0, hz0⟩ : ∃ z0, d0.start.1 = z0 := ⟨_, rfl⟩
      rw [hz0]
      clear hd1 hup h3 hz0 H3
      go_wp2_with fail
      refine (H4.out.read xNew (by decide)).mono ?_
      rintro e w4 ⟨ra, rn, rc, X, rfl, _, h4, _⟩
      have H5 : Hid (One w Nil w4 p 401 d1) := h4.narrow
      clear h4 H4
      by_cases hz : lack d1 xNew [] = 0
      · rw [hz]
        clear hz
        go_wp2_with fail
        refine (HX.out _ H5.out.below).mono ?_
        rintro e wz ⟨rfl, hb⟩
        have HBE := Lib.hid hb
        clear hb
        go_wp2
        go_ret
        exact ⟨rfl, HBE.out⟩
      have HZ := Lib.hid hz
      obtain ⟨z1, hz1⟩ : ∃ z1, lack d1 xNew [] = z1 := ⟨_, rfl⟩
      rw [hz1] at hz ⊢
      clear hz1
      go_wp2_with fail
      refine (H5.out.does fun _ _ hd => put_any hd (by omega) xOld old _ (HO.out.belowB H5.out.below (Nat.le_refl _)) (by decide)).mono ?_
      rintro e w5 ⟨rfl, h5, _⟩
      have H6 := Lib.hid h5
      clear h5 H5 hz
      by_cases hp : (d1.putF xOld old).1 = 0
      rotate_left
      · obtain ⟨z2, hz2⟩ : ∃ z2, (d1.putF xOld old).1 = z2 := ⟨_, rfl⟩
        rw [hz2] at hp ⊢
        clear hz2
        go_wp2_with fail
        refine (HX.out _ H6.out.below).mono ?_
        rintro e wz ⟨rfl, hb⟩
        have HBE := Lib.hid hb
        clear hb
        go_wp2
        go_ret
        exact ⟨rfl, HBE.out⟩
      rw [hp]
      have HPU := Lib.hid hp
      clear hp
      go_wp2_with fail
      have hc := H6.out.does fun _ _ hd => sync_any hd (by omega)
      rw [(sw_sync HUP.out HPU.out).1] at hc
      refine hc.mono ?_
      rintro e w6 ⟨rfl, h6, _⟩
      have H7 : Hid (One w Nil w6 p 403 (sw3 d1 old)) := h6
      clear hc h6 H6
      go_wp2_with fail
      refine (H7.out.does fun _ _ hd => put_any hd (by omega) xNew fresh _ (HF.out.belowB H7.out.below (Nat.le_refl _)) (by decide)).mono ?_
      rintro e w7 ⟨rfl, h7, _⟩
      have H8 : Hid (One w Nil w7 p 404 (sw4 d1 old fresh)) := h7
      clear h7 H7
      by_cases hq : ((sw3 d1 old).putF xNew fresh).1 = 0
      rotate_left
      · obtain ⟨z2, hz2⟩ : ∃ z2, ((sw3 d1 old).putF xNew fresh).1 = z2 := ⟨_, rfl⟩
        rw [hz2] at hq ⊢
        clear hz2
        go_wp2_with fail
        refine (HX.out _ H8.out.below).mono ?_
        rintro e wz ⟨rfl, hb⟩
        have HBE := Lib.hid hb
        clear hb
        go_wp2
        go_ret
        exact ⟨rfl, HBE.out⟩
      rw [hq]
      have HQU := Lib.hid hq
      clear hq
      go_wp2_with fail
      have hc := H8.out.does fun _ _ hd => rename_any hd (by omega) xNew xOld (by decide) (by decide)
      rw [(sw_five HUP.out HPU.out HQU.out).1] at hc
      refine hc.mono ?_
      rintro e w8 ⟨rfl, h8, _⟩
      have H9 : Hid (One w Nil w8 p 405 (sw5 d1 old fresh)) := h8
      clear hc h8 H8
      go_wp2_with fail
      obtain ⟨_, _, hd9, _⟩ := H9.out
      have hc := waits_any hd9
      rw [(sw_five HUP.out HPU.out HQU.out).2.1, (sw_five HUP.out HPU.out HQU.out).2.2.1] at hc
      refine hc.mono ?_
      rintro e w9 ⟨rfl, rfl⟩
      clear hc hd9
      go_wp2_with fail
      have hc := H9.out.does fun _ _ hd => crash_any hd (by omega) keep torn
      rw [(sw_crash HUP.out HPU.out HQU.out keep torn).1] at hc
      refine hc.mono ?_
      rintro e w9 ⟨rfl, h9, _⟩
      have H10 : Hid (One w Nil w9 p 406 (sw6 d1 old fresh keep torn)) := h9
      clear hc h9 H9
      go_wp2_with fail
      have hc := H10.out.does fun _ _ hd => start_any hd
      rw [(sw_crash HUP.out HPU.out HQU.out keep torn).2.1] at hc
      refine hc.mono ?_
      rintro e w10 ⟨rfl, h10, _⟩
      have H11 : Hid (One w Nil w10 p 407 (sw7 d1 old fresh keep torn)) := h10
      have hend := sw_end HUP.out HZ.out HPU.out HQU.out keep torn
      obtain ⟨d7, hd7⟩ : ∃ d7, sw7 d1 old fresh keep torn = d7 := ⟨_, rfl⟩
      rw [hd7] at H11 hend
      have HEND := Lib.hid hend
      clear hc h10 H10 hend hd7 HUP HZ HPU HQU
      go_wp2_with fail
      have hc := H11.out.read xOld (by decide)
      rw [HEND.out.1, if_pos rfl, HEND.out.2.1] at hc
      refine hc.mono ?_
      rintro e w11 ⟨ba, bn, bc, X1, rfl, hb1, h11, _⟩
      have H12 := Lib.hid (And.intro hb1 h11)
      clear hc hb1 h11 H11
      go_wp2_with fail
      have hc := H12.out.2.read xNew (by decide)
      rw [HEND.out.2.2] at hc
      refine hc.mono ?_
      rintro e w12 ⟨ga, gn, gc, X2, rfl, _, h12, k12⟩
      have hs1 := string_bytes (H12.out.1.keep k12 fun _ h => h)
      have hs2 := string_bytes (HO.out.belowB h12.below (Nat.le_refl _))
      have hs3 := string_bytes (HF.out.belowB h12.below (Nat.le_refl _))
      have HB := Lib.hid h12.below
      clear hc h12 k12 H12 HEND
      by_cases k2 : 2 ≤ keep
      · rw [if_pos k2] at hs1
        have k1 : ¬ keep = 1 := by omega
        rw [if_neg k1]
        have kb : (keep == 1) = false := by simp [k1]
        obtain ⟨os, hos⟩ : ∃ os, (⟨fresh.toArray⟩ : ByteArray) = os := ⟨_, rfl⟩
        rw [hos] at hs1 hs3
        clear hos
        go_wp2_with fail
        refine (HX.out _ HB.out).mono ?_
        rintro e wz ⟨rfl, hb⟩
        have HBE := Lib.hid hb
        clear hb
        go_wp2
        go_ret
        exact ⟨rfl, HBE.out⟩
      · rw [if_neg k2] at hs1
        obtain ⟨os, hos⟩ : ∃ os, (⟨old.toArray⟩ : ByteArray) = os := ⟨_, rfl⟩
        rw [hos] at hs1 hs2
        clear hos
        by_cases k1 : keep = 1
        · rw [if_pos k1]
          have kb : (keep == 1) = true := by simp [k1]
          go_wp2_with fail
          refine (HX.out _ HB.out).mono ?_
          rintro e wz ⟨rfl, hb⟩
          have HBE := Lib.hid hb
          clear hb
          go_wp2
          go_ret
          exact ⟨rfl, HBE.out⟩
        · rw [if_neg k1]
          have kb : (keep == 1) = false := by simp [k1]
          go_wp2_with fail
          refine (HX.out _ HB.out).mono ?_
          rintro e wz ⟨rfl, hb⟩
          have HBE := Lib.hid hb
          clear hb
          go_wp2
          go_ret
          exact ⟨rfl, HBE.out⟩
end Go.Proofs.Yticbfnflillokaa
