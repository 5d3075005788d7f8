/- The walk of the law CodeEach. -/
import Derived.Test.YtniogemgkcoimaaLawStays
import Derived.Test.YtniogemgkcoimaaOwnParts
import Derived.Deep.RegionHeld
namespace Go.Proofs.Ytniogemgkcoimaa
open Go.RowKit
theorem BytesAt.front {w : World} {a : Option Addr} {len cap n : Nat} {l : List UInt8} (h : BytesAt w (.slice a len cap) l) (hn : n ≤ l.length) : BytesAt w (.slice a n cap) (l.take n) := by
  have hlt : (l.take n).length = n := by simp; omega
  rcases h with ⟨h1, rfl⟩ | ⟨ad, cap', h1, hl, hc⟩
  · cases h1
    obtain rfl : n = 0 := by simpa using hn
    exact .inl ⟨rfl, rfl⟩
  · cases h1
    refine .inr ⟨ad, cap, by rw [hlt], ⟨by omega, by omega⟩, fun h => ?_⟩
    obtain ⟨b, off, rfl, hb, hc⟩ := hc (by omega)
    exact ⟨b, off, rfl, hb, fun j hj => by rw [getD_take _ _ _ (by omega)]; exact hc j (by omega)⟩
theorem pv2_bytes (y : Nat) : rowBytes [⟨2, 0, y, []⟩] = short y := by simp [rowBytes, PV.bytes, PV.k]
theorem pv3_bytes (s : List UInt8) : rowBytes [⟨3, 0, 0, s⟩] = short s.length ++ s := by simp [rowBytes, PV.bytes, PV.k]
theorem pv_ok (k x : Nat) (s : List UInt8) (hk : k ≤ 4) (hx : x < 18446744073709551616) : PV.ok ⟨(k : Nat), 0, x, s⟩ := ⟨by dsimp only; omega, by dsimp only; omega, hx⟩
/-- a row of one part of the call's own -/
theorem row_one (w : World) (q : PV) (u : Value) (cs : Array Value) (hcs : cs = (pcells (q, u)).toArray) (hb : BytesAt w u q.b) (ok : q.ok) (hs : q.b.length ≤ 100000) :
    Calls Try.prog 29 #[.slice (some ⟨w.heap.size, 0, none⟩) 1 1] (w.alloc (.cells cs 32)) fun e w' => ∃ v, e = .returned v ∧ OwnBytes w.heap.size w' v (rowBytes [q]) ∧ Below w.heap.size w w' := by
  have h := bytes_length q
  refine (row_any _ [q] _ (one_part q u cs hcs _ rfl hb ok) (by simp [rowBytes]; omega) (by simp; exact hs)).mono ?_
  rintro e w' ⟨v, rfl, ho, hb'⟩
  exact ⟨v, rfl, ho.base_le (by simp), (Go.Joins.below_alloc1 w _).trans (hb'.mono (by simp))⟩
theorem textback (s : List UInt8) (hs : s.length ≤ 2000) (most : Int) : RS.get ⟨short s.length ++ s, false⟩ 3 most = if (s.length : Int) ≤ most then ((0, s), ⟨[], false⟩) else ((0, []), ⟨short s.length ++ s, true⟩) := by
  have hr : readPart 3 most (short s.length ++ s) = if (s.length : Int) ≤ most then some ((0, s), []) else none := by
    simp only [readPart, readShort_short s.length (by omega) s]
    by_cases h : (s.length : Int) ≤ most
    · rw [if_pos (by omega), if_pos h]; simp
    · rw [if_neg (by omega), if_neg h]
  by_cases h : (s.length : Int) ≤ most
  · rw [if_pos h] at hr ⊢; exact RS.get_some hr
  · rw [if_neg h] at hr ⊢; exact RS.get_none hr
set_option maxRecDepth 100000 in
set_option maxHeartbeats 4000000 in
theorem each_big (v : Value) (l s : List UInt8) (most : Int) (w : World) (hp : BytesAt w v l) (hbig : 2000 < l.length ∨ 2000 < s.length) (hs63 : s.length ≤ 9223372036854775807) :
    Calls Try.prog 8 #[v, .string ⟨s.toArray⟩, .int .i64 most] w fun e w' => e = .returned (.bool true) ∧ Below w.heap.size w w' := by
  have HX : Hid (∀ wr, Below w.heap.size w wr → Calls Try.prog 11 #[] wr fun e w' => e = .returned (.bool true) ∧ Below w.heap.size w w') := fun wr hbw => (awake_any wr).mono fun e w' h => ⟨h.1, hbw.trans (h.2.mono hbw.size)⟩
  obtain ⟨a, c, rfl, hl, _⟩ := hp.form
  rw [maxLen_eq] at hl
  have hsz : (⟨s.toArray⟩ : ByteArray).size = s.length := by simp [ByteArray.size]
  clear hp
  generalize (⟨s.toArray⟩ : ByteArray) = S at *
  by_cases h1 : 2000 < l.length
  · go_enter Try.func8, Try.ntmps8
    go_wp2_with (go_at_call 11; refine (HX.out _ (Below.refl _ _)).mono ?_; rintro e w1 ⟨rfl, hb⟩; have HBE := Lib.hid hb; clear hb)
    go_ret
    exact ⟨rfl, HBE.out⟩
  · have h2 : 2000 < s.length := by omega
    clear hbig
    go_enter Try.func8, Try.ntmps8
    go_wp2_with (go_at_call 11; refine (HX.out _ (Below.refl _ _)).mono ?_; rintro e w1 ⟨rfl, hb⟩; have HBE := Lib.hid hb; clear hb)
    go_ret
    exact ⟨rfl, HBE.out⟩
set_option maxRecDepth 100000 in
set_option maxHeartbeats 4000000 in
theorem each_small (v : Value) (l s : List UInt8) (most : Int) (w : World) (hp : BytesAt w v l) (hl : l.length ≤ 2000) (hs : s.length ≤ 2000) (hm : -9223372036854775808 ≤ most ∧ most ≤ 9223372036854775807) :
    Calls Try.prog 8 #[v, .string ⟨s.toArray⟩, .int .i64 most] w fun e w' => e = .returned (.bool true) ∧ Below w.heap.size w w' := by
  have HX : Hid (∀ wr, Below w.heap.size w wr → Calls Try.prog 11 #[] wr fun e w' => e = .returned (.bool true) ∧ Below w.heap.size w w') := fun wr hbw => (awake_any wr).mono fun e w' h => ⟨h.1, hbw.trans (h.2.mono hbw.size)⟩
  have HP := Lib.hid hp
  obtain ⟨a, c, rfl, _, hlc, _⟩ := hp.form
  have hsz : (⟨s.toArray⟩ : ByteArray).size = s.length := by simp [ByteArray.size]
  have HCV : Hid (∀ wx, ∃ v W, (convert 9 27 (.string ⟨s.toArray⟩)).run Try.prog wx = .ok v W ∧ BytesAt W v s ∧ Below wx.heap.size wx W) := fun wx => conv_to_bytes wx s (by rw [maxLen_eq]; omega)
  have HM := Lib.hid hm
  clear hp hm
  cases hrs : readShort l with
  | none =>
    have hget : RS.get ⟨l, false⟩ 2 0 = ((0, []), ⟨l, true⟩) := RS.get_none (by simp [readPart, hrs])
    have HG := Lib.hid hget
    clear hget hrs
    obtain ⟨S, hS⟩ : ∃ S, (⟨s.toArray⟩ : ByteArray) = S := ⟨_, rfl⟩
    rw [hS] at hsz HCV ⊢
    have HS := Lib.hid hS
    clear hS
    go_enter Try.func8, Try.ntmps8
    go_wp2_with fail
    refine (new_reader _ l _ HP.out (by omega)).mono ?_
    rintro e w1 ⟨g, rfl, hr, hb, hg, _⟩
    have HR1 : Hid (Rt w w1 g ⟨l, false⟩) := ⟨hr, hb, hg⟩
    clear hr hb hg
    go_wp2_with fail
    have hu := uint_any _ _ _ HR1.out.1
    rw [HG.out] at hu
    refine hu.mono ?_
    rintro e w2 ⟨rfl, hr, hc⟩
    have HR2 := Lib.hid (HR1.out.next hr hc)
    clear hr hc hu HR1
    have HBK : Hid (Below w.heap.size w w2) := HR2.out.2.1
    obtain ⟨u, W1, hconv, hbu, hbel⟩ := HCV.out w2
    obtain ⟨ua, uc, rfl, _⟩ := hbu.form
    have HB1 : Hid (Below w.heap.size w W1) := HBK.out.trans (hbel.mono HBK.out.size)
    have HU := Lib.hid hbu
    clear hbu hbel HBK
    go_wp2_with (first | (go_at_call 24; refine (left_any _ _ _ HR2.out.1).mono ?_; rintro e w3 ⟨rfl, rfl⟩; dsimp only) | (go_at_call 25; refine (err_any _ _ _ HR2.out.1).mono ?_; rintro e w3 ⟨rfl, rfl⟩; rw [show errOf (RS.mk l true).bad = 2 from rfl]))
    clear HR2
    refine (row_one W1 ⟨3, 0, 0, s⟩ _ _ rfl HU.out (pv_ok 3 0 s (by omega) (by decide)) (by dsimp only; omega)).mono ?_
    rintro e w5 ⟨v5, rfl, hown, hb⟩
    rw [pv3_bytes] at hown
    obtain ⟨TL, hTL⟩ : ∃ TL, short s.length ++ s = TL := ⟨_, rfl⟩
    have hTLl : TL.length ≤ 3000 := by rw [← hTL]; have := (short_length s.length).2; simp; omega
    rw [hTL] at hown
    have HTL := Lib.hid hTL
    have HT5 : Hid (BytesAt w5 v5 TL) := hown.bytesAt
    have HB5 : Hid (Below w.heap.size w w5) := HB1.out.trans (hb.mono HB1.out.size)
    obtain ⟨a5, c5, rfl⟩ := hown.form
    clear hown hb HU HB1 hconv hTL
    go_wp2_with fail
    refine (new_reader _ TL _ HT5.out (by omega)).mono ?_
    rintro e w6 ⟨g2, rfl, hr, hb, hg, _⟩
    have HR6 : Hid (Rt w w6 g2 ⟨TL, false⟩) := ⟨hr, HB5.out.trans (hb.mono HB5.out.size), Nat.le_trans HB5.out.size hg⟩
    clear hr hb hg HT5 HB5
    go_wp2_with fail
    have ht := text_m (some ⟨g2, 0, none⟩) _ most _ HM.out HR6.out.1
    have htb := textback s (by omega) most
    rw [HTL.out] at htb
    rw [htb] at ht
    clear htb
    by_cases hle : (s.length : Int) ≤ most
    · rw [if_pos hle] at ht
      dsimp only at ht
      rw [HS.out] at ht
      refine ht.mono ?_
      rintro e w7 ⟨rfl, hr, hc⟩
      have HR7 := Lib.hid (HR6.out.next hr hc)
      clear hr hc ht HR6
      go_wp2_with (go_at_call 25; refine (err_any _ _ _ HR7.out.1).mono ?_; rintro e w8 ⟨rfl, rfl⟩; rw [show errOf (RS.mk [] false).bad = 0 from rfl])
      refine (HX.out _ HR7.out.2.1).mono ?_
      rintro e w9 ⟨rfl, hb⟩
      have HBE := Lib.hid hb
      clear hb
      go_wp2
      go_ret
      exact ⟨rfl, HBE.out⟩
    · rw [if_neg hle] at ht
      refine ht.mono ?_
      rintro e w7 ⟨rfl, hr, hc⟩
      have HR7 := Lib.hid (HR6.out.next hr hc)
      clear hr hc ht HR6
      by_cases hs0 : s = []
      · subst hs0
        have hS : S = ⟨#[]⟩ := HS.out.symm
        subst hS
        have hd : decide ((0 : Int) ≤ most) = false := decide_eq_false hle
        go_wp2_with (go_at_call 25; refine (err_any _ _ _ HR7.out.1).mono ?_; rintro e w8 ⟨rfl, rfl⟩; rw [show errOf (RS.mk TL true).bad = 2 from rfl])
        refine (HX.out _ HR7.out.2.1).mono ?_
        rintro e w9 ⟨rfl, hb⟩
        have HBE := Lib.hid hb
        clear hb
        go_wp2
        go_ret
        exact ⟨rfl, HBE.out⟩
      · have hd : decide ((s.length : Int) ≤ most) = false := decide_eq_false hle
        have hSne : ¬ (⟨#[]⟩ : ByteArray) = S := fun h => hs0 (by
          have := HS.out
          rw [← h] at this
          injection this with h2
          simpa using h2)
        go_wp2_with (go_at_call 25; refine (err_any _ _ _ HR7.out.1).mono ?_; rintro e w8 ⟨rfl, rfl⟩; rw [show errOf (RS.mk TL true).bad = 2 from rfl])
        all_goals (refine (HX.out _ HR7.out.2.1).mono ?_; rintro e w9 ⟨rfl, hb⟩; have HBE := Lib.hid hb; clear hb; go_wp2; go_ret; exact ⟨rfl, HBE.out⟩)
  | some p =>
    obtain ⟨y, t⟩ := p
    obtain ⟨hy, hlt⟩ := (readShort_iff l t y).1 hrs
    have hget : RS.get ⟨l, false⟩ 2 0 = ((y, []), ⟨t, false⟩) := RS.get_some (by simp [readPart, hrs])
    have HG := Lib.hid hget
    obtain ⟨n, hn⟩ : ∃ n, (short y).length = n := ⟨_, rfl⟩
    have hlen : l.length = n + t.length := by rw [hlt, List.length_append, hn]
    have htake : l.take n = short y := by rw [hlt, ← hn, List.take_left]
    have HTK := Lib.hid htake
    have HLEN : Hid (n ≤ l.length) := by simp only [Hid]; omega
    have Hy := Lib.hid hy
    have hsub : (l.length : Int) - (t.length : Int) = (n : Int) := by omega
    have hnl : n ≤ l.length := by omega
    have hnc : n ≤ c := by omega
    have hncI : (n : Int) ≤ (c : Int) := by omega
    have hn0I : (0 : Int) ≤ (n : Int) := by omega
    have htl : t.length ≤ l.length := by omega
    clear hget hrs hlt hn htake hlen hy
    obtain ⟨S, hS⟩ : ∃ S, (⟨s.toArray⟩ : ByteArray) = S := ⟨_, rfl⟩
    rw [hS] at hsz HCV ⊢
    have HS := Lib.hid hS
    clear hS
    go_enter Try.func8, Try.ntmps8
    go_wp2_with fail
    refine (new_reader _ l _ HP.out (by omega)).mono ?_
    rintro e w1 ⟨g, rfl, hr, hb, hg, _⟩
    have HR1 : Hid (Rt w w1 g ⟨l, false⟩) := ⟨hr, hb, hg⟩
    clear hr hb hg
    go_wp2_with fail
    have hu := uint_any _ _ _ HR1.out.1
    rw [HG.out] at hu
    refine hu.mono ?_
    rintro e w2 ⟨rfl, hr, hc⟩
    have HR2 := Lib.hid (HR1.out.next hr hc)
    clear hr hc hu HR1
    go_wp2_with (first | (go_at_call 24; refine (left_any _ _ _ HR2.out.1).mono ?_; rintro e w3 ⟨rfl, rfl⟩; dsimp only) | (go_at_call 25; refine (err_any _ _ _ HR2.out.1).mono ?_; rintro e w3 ⟨rfl, rfl⟩; rw [show errOf (RS.mk t false).bad = 0 from rfl]))
    obtain ⟨SY, hSY⟩ : ∃ SY, (⟨(short y).toArray⟩ : ByteArray) = SY := ⟨_, rfl⟩
    have HSY := Lib.hid hSY
    have HB2 : Hid (Below w.heap.size w w2) := HR2.out.2.1
    have hfront : ∀ wx, Below w.heap.size w wx → (convert 27 9 (.slice a n c)).run Try.prog wx = .ok (.string SY) wx := fun wx hb => by
      have h := string_bytes ((HP.out.below hb (Nat.le_refl _)).front HLEN.out)
      rw [HTK.out, hSY] at h
      exact h
    have HKEEP : Hid (∀ w', Below w.heap.size w w' → (convert 27 9 (.slice a n c)).run Try.prog w' = .ok (.string SY) w' ∧ Below w.heap.size w w') := fun w' h => ⟨hfront w' h, h⟩
    clear hfront hSY HR2 htl hsub
    go_region_held (fun w' => (convert 27 9 (.slice a n c)).run Try.prog w' = .ok (.string SY) w' ∧ Below w.heap.size w w') ((refine HKEEP.out _ ?_; first | exact HB2.out.drew | exact (HB2.out.alloc HB2.out.size _).drew | exact HB3.out)) (first | (go_at_call 29; refine (row_one w2.drew ⟨2, 0, y, []⟩ (.slice none 0 0) _ rfl (BytesAt.nil _) (pv_ok 2 y [] (by omega) Hy.out) (by simp)).mono ?_; rintro e w3 ⟨v3, rfl, hown, hb⟩; rw [pv2_bytes] at hown; have hs3 := string_bytes hown.bytesAt; rw [HSY.out] at hs3; have HB3 : Hid (Below w.heap.size w w3) := HB2.out.drew.trans (hb.mono HB2.out.drew.size); clear hown hb))
    have HBK : Hid (Below w.heap.size w w3) := HB3.out
    obtain ⟨u, W1, hconv, hbu, hbel⟩ := HCV.out w3
    obtain ⟨ua, uc, rfl, _⟩ := hbu.form
    have HB1 : Hid (Below w.heap.size w W1) := HBK.out.trans (hbel.mono HBK.out.size)
    have HU := Lib.hid hbu
    clear hbu hbel HBK
    clear hs3
    go_wp2_with fail
    refine (row_one W1 ⟨3, 0, 0, s⟩ _ _ rfl HU.out (pv_ok 3 0 s (by omega) (by decide)) (by dsimp only; omega)).mono ?_
    rintro e w5 ⟨v5, rfl, hown, hb⟩
    rw [pv3_bytes] at hown
    obtain ⟨TL, hTL⟩ : ∃ TL, short s.length ++ s = TL := ⟨_, rfl⟩
    have hTLl : TL.length ≤ 3000 := by rw [← hTL]; have := (short_length s.length).2; simp; omega
    rw [hTL] at hown
    have HTL := Lib.hid hTL
    have HT5 : Hid (BytesAt w5 v5 TL) := hown.bytesAt
    have HB5 : Hid (Below w.heap.size w w5) := HB1.out.trans (hb.mono HB1.out.size)
    obtain ⟨a5, c5, rfl⟩ := hown.form
    clear hown hb HU HB1 hconv hTL
    go_wp2_with fail
    refine (new_reader _ TL _ HT5.out (by omega)).mono ?_
    rintro e w6 ⟨g2, rfl, hr, hb, hg, _⟩
    have HR6 : Hid (Rt w w6 g2 ⟨TL, false⟩) := ⟨hr, HB5.out.trans (hb.mono HB5.out.size), Nat.le_trans HB5.out.size hg⟩
    clear hr hb hg HT5 HB5
    go_wp2_with fail
    have ht := text_m (some ⟨g2, 0, none⟩) _ most _ HM.out HR6.out.1
    have htb := textback s (by omega) most
    rw [HTL.out] at htb
    rw [htb] at ht
    clear htb
    by_cases hle : (s.length : Int) ≤ most
    · rw [if_pos hle] at ht
      dsimp only at ht
      rw [HS.out] at ht
      refine ht.mono ?_
      rintro e w7 ⟨rfl, hr, hc⟩
      have HR7 := Lib.hid (HR6.out.next hr hc)
      clear hr hc ht HR6
      go_wp2_with (go_at_call 25; refine (err_any _ _ _ HR7.out.1).mono ?_; rintro e w8 ⟨rfl, rfl⟩; rw [show errOf (RS.mk [] false).bad = 0 from rfl])
      refine (HX.out _ HR7.out.2.1).mono ?_
      rintro e w9 ⟨rfl, hb⟩
      have HBE := Lib.hid hb
      clear hb
      go_wp2
      go_ret
      exact ⟨rfl, HBE.out⟩
    · rw [if_neg hle] at ht
      refine ht.mono ?_
      rintro e w7 ⟨rfl, hr, hc⟩
      have HR7 := Lib.hid (HR6.out.next hr hc)
      clear hr hc ht HR6
      by_cases hs0 : s = []
      · subst hs0
        have hS : S = ⟨#[]⟩ := HS.out.symm
        subst hS
        have hd : decide ((0 : Int) ≤ most) = false := decide_eq_false hle
        go_wp2_with (go_at_call 25; refine (err_any _ _ _ HR7.out.1).mono ?_; rintro e w8 ⟨rfl, rfl⟩; rw [show errOf (RS.mk TL true).bad = 2 from rfl])
        refine (HX.out _ HR7.out.2.1).mono ?_
        rintro e w9 ⟨rfl, hb⟩
        have HBE := Lib.hid hb
        clear hb
        go_wp2
        go_ret
        exact ⟨rfl, HBE.out⟩
      · have hd : decide ((s.length : Int) ≤ most) = false := decide_eq_false hle
        have hSne : ¬ (⟨#[]⟩ : ByteArray) = S := fun h => hs0 (by
          have := HS.out
          rw [← h] at this
          injection this with h2
          simpa using h2)
        go_wp2_with (go_at_call 25; refine (err_any _ _ _ HR7.out.1).mono ?_; rintro e w8 ⟨rfl, rfl⟩; rw [show errOf (RS.mk TL true).bad = 2 from rfl])
        all_goals (refine (HX.out _ HR7.out.2.1).mono ?_; rintro e w9 ⟨rfl, hb⟩; have HBE := Lib.hid hb; clear hb; go_wp2; go_ret; exact ⟨rfl, HBE.out⟩)
theorem codeEach_any (v : Value) (l : List UInt8) (S : ByteArray) (most : Int) (w : World) (hp : BytesAt w v l) (hS : S.size ≤ maxLen) (hm : -9223372036854775808 ≤ most ∧ most ≤ 9223372036854775807) :
    Calls Try.prog 8 #[v, .string S, .int .i64 most] w fun e w' => e = .returned (.bool true) ∧ Below w.heap.size w w' := by
  have hl : S.data.toList.length ≤ 9223372036854775807 := by
    rw [maxLen_eq] at hS
    have : S.data.toList.length = S.size := Array.length_toList
    omega
  have he : (⟨S.data.toList.toArray⟩ : ByteArray) = S := Go.Joins.bytes_eta S
  rw [← he]
  by_cases hbig : 2000 < l.length ∨ 2000 < S.data.toList.length
  · exact each_big v l S.data.toList most w hp hbig hl
  · exact each_small v l S.data.toList most w hp (by omega) (by omega) hm
end Go.Proofs.Ytniogemgkcoimaa
