/- The walk of the law CodeStays. -/
import Derived.Test.YtniogemgkcoimaaAwake
namespace Go.Proofs.Ytniogemgkcoimaa
open Go.RowKit
theorem get_le (k : Nat) (m : Int) (s : RS) : (s.get k m).2.l.length ≤ s.l.length := by
  unfold RS.get
  split
  · exact Nat.le_refl _
  · split
    · exact Nat.le_refl _
    · rename_i a t ha
      show t.length ≤ _
      match k with
      | 0 =>
        simp only [readPart] at ha
        split at ha
        · cases ha
        · rename_i h
          cases ha
          rw [h]; simp
      | 1 =>
        simp only [readPart] at ha
        split at ha
        · cases ha; simp
        · cases ha
      | 2 =>
        simp only [readPart, Option.map_eq_some_iff] at ha
        obtain ⟨⟨y, t'⟩, hq, he⟩ := ha
        cases he
        rw [((readShort_iff _ _ _).1 hq).2]; simp
      | 3 =>
        simp only [readPart] at ha
        split at ha
        · cases ha
        · rename_i n t' hq
          split at ha
          · cases ha
            rw [((readShort_iff _ _ _).1 hq).2]; simp; omega
          · cases ha
      | k + 4 =>
        simp only [readPart] at ha
        split at ha
        · cases ha; simp
        · cases ha
/-- one part of a row that came in, at a later world -/
theorem PartsAt.part {w wr : World} {a : Option Addr} {n cap k : Nat} {l : List PV} (h : PartsAt w (.slice a n cap) l) (hb : Below w.heap.size w wr) (hk : k < l.length) :
    ∃ b off q ua uc, a = some ⟨b, off, none⟩ ∧ l[k]? = some q ∧ PartAt wr b (off + k * 4) q (.slice ua q.b.length uc) := by
  obtain ⟨a', cap', hv, _, _, hc⟩ := h
  cases hv
  obtain ⟨b, off, rfl, hlt, hc⟩ := hc (by omega)
  obtain ⟨q, hqk⟩ : ∃ p, l[k]? = some p := ⟨_, List.getElem?_eq_getElem hk⟩
  obtain ⟨u, hu⟩ := hc k q hqk
  obtain ⟨ua, uc, rfl, _⟩ := hu.bytes.form
  exact ⟨b, off, q, ua, uc, rfl, hqk, hu.below hb (Nat.le_refl _) hlt⟩
/-- a reader of the call's own -/
def Rt (w wr : World) (g : Nat) (s : RS) : Prop := Rd wr (some ⟨g, 0, none⟩) s ∧ Below w.heap.size w wr ∧ w.heap.size ≤ g
theorem Rt.next {w wr w' : World} {g : Nat} {s s' : RS} (h : Rt w wr g s) (hr : Rd w' (some ⟨g, 0, none⟩) s') (hc : Chg (at' (some ⟨g, 0, none⟩)) wr w') : Rt w w' g s' :=
  ⟨hr, h.2.1.trans (hc.below h.2.1.size (by rw [at_some]; have := h.2.2; simpa using this)), h.2.2⟩
theorem Rt.below {w wr w' : World} {g : Nat} {s : RS} {B : Nat} (h : Rt w wr g s) (hb : Below B wr w') (hB : wr.heap.size ≤ B) : Rt w w' g s :=
  ⟨h.1.below hb hB, h.2.1.trans (hb.mono (Nat.le_trans h.2.1.size hB)), h.2.2⟩
theorem end_true (l : List UInt8) : RS.end' ⟨l, true⟩ = ⟨l, true⟩ := by unfold RS.end'; split <;> rfl
def StaysAt (w wr : World) (g : Nat) : Prop := ∃ s, Rt w wr g s ∧ s.l.length ≤ 2000
set_option maxRecDepth 100000 in
set_option maxHeartbeats 4000000 in
theorem codeStays_any (v va vb : Value) (l : List UInt8) (ahead behind : List PV) (w : World) (hp : BytesAt w v l) (ha : PartsAt w va ahead) (hb : PartsAt w vb behind) :
    Calls Try.prog 9 #[v, va, vb] w fun e w' => e = .returned (.bool true) ∧ Below w.heap.size w w' := by
  have HP := Lib.hid hp
  have HA := Lib.hid ha
  have HB := Lib.hid hb
  have HX : Hid (∀ wr, Below w.heap.size w wr → Calls Try.prog 11 #[] wr fun e w' => e = .returned (.bool true) ∧ Below w.heap.size w w') := fun wr hbw => (awake_any wr).mono fun e w' h => ⟨h.1, hbw.trans (h.2.mono hbw.size)⟩
  have HGA := Lib.hid (great_any va ahead w ha)
  have HGB := Lib.hid (great_any vb behind w hb)
  obtain ⟨a, c, rfl, hl, _⟩ := hp.form
  obtain ⟨aa, ca, rfl, hla, _⟩ := ha
  obtain ⟨ab, cb, rfl, hlb, _⟩ := hb
  rw [maxLen_eq] at hl hla hlb
  clear hp
  by_cases hbig : 2000 < l.length
  · go_enter Try.func9, Try.ntmps9
    go_wp2_with (go_at_call 11; refine (HX.out _ (Below.refl _ _)).mono ?_; rintro e w1 ⟨rfl, hb⟩; have HBE := Lib.hid hb; clear hb)
    go_ret
    exact ⟨rfl, HBE.out⟩
  by_cases hg1 : 2000 < countTo ahead ahead.length
  · rw [decide_eq_true hg1] at HGA
    clear hg1
    go_enter Try.func9, Try.ntmps9
    go_wp2_with (first | (go_at_call 10; refine HGA.out.mono ?_; rintro e w1 ⟨rfl, rfl⟩) | (go_at_call 11; refine (HX.out _ (Below.refl _ _)).mono ?_; rintro e w1 ⟨rfl, hb⟩; have HBE := Lib.hid hb; clear hb))
    go_ret
    exact ⟨rfl, HBE.out⟩
  rw [decide_eq_false hg1] at HGA
  clear hg1
  by_cases hg2 : 2000 < countTo behind behind.length
  · rw [decide_eq_true hg2] at HGB
    clear hg2
    go_enter Try.func9, Try.ntmps9
    go_wp2_with fail
    refine HGA.out.mono ?_
    rintro e w1 ⟨rfl, rfl⟩
    go_wp2_with (first | (go_at_call 10; refine HGB.out.mono ?_; rintro e w1 ⟨rfl, rfl⟩) | (go_at_call 11; refine (HX.out _ (Below.refl _ _)).mono ?_; rintro e w1 ⟨rfl, hb⟩; have HBE := Lib.hid hb; clear hb))
    go_ret
    exact ⟨rfl, HBE.out⟩
  rw [decide_eq_false hg2] at HGB
  clear hg2
  go_enter Try.func9, Try.ntmps9
  go_wp2_with fail
  refine HGA.out.mono ?_
  rintro e w1 ⟨rfl, rfl⟩
  go_wp2_with fail
  refine HGB.out.mono ?_
  rintro e w1 ⟨rfl, rfl⟩
  go_wp2_with fail
  refine (new_reader _ l _ HP.out (by omega)).mono ?_
  rintro e w1 ⟨g, rfl, hr, hb, hg, _⟩
  have H0 : Hid (StaysAt w w1 g) := ⟨⟨l, false⟩, ⟨hr, hb, hg⟩, by dsimp only; omega⟩
  clear hr hb hg HGA HGB
  go_wp2_with fail
  go_loopw [8] (fun i wr => ∃ k : Nat, k ≤ ahead.length ∧ i = .int .i64 (k : Nat) ∧ Hid (StaysAt w wr g)) (fun i _ => ahead.length - (intOf i).toNat)
  case atStart => exact ⟨0, Nat.zero_le _, rfl, H0.out⟩
  case round =>
    obtain ⟨k, hk, rfl, HR⟩ := hrel
    clear H0
    obtain ⟨s, hrt, hsl⟩ := HR.out
    have HRT := Lib.hid hrt
    obtain ⟨sl, bad⟩ := s
    dsimp only at hsl
    clear hrt HR
    have cases3 : (k < ahead.length ∧ bad = false) ∨ (k < ahead.length ∧ bad = true) ∨ k = ahead.length := by
      cases bad <;> simp <;> omega
    rcases cases3 with ⟨hlt, rfl⟩ | ⟨hlt, rfl⟩ | rfl
    · obtain ⟨b, off, q, ua, uc, rfl, _, hpart⟩ := HA.out.part HRT.out.2.1 hlt
      have c0 := hpart.c0
      have c1 := hpart.c1
      have c2 := hpart.c2
      have c3 := hpart.c3
      have hget := get_any (some ⟨g, 0, none⟩) ⟨sl, false⟩ q ua q.b.length uc _ hpart.ok (by dsimp only; omega) HRT.out.1
      have hle := get_le q.k q.most ⟨sl, false⟩
      generalize hgs : RS.get ⟨sl, false⟩ q.k q.most = r at hle
      unfold GetPost at hget
      rw [hgs] at hget
      have HG := Lib.hid hget
      have hle2 : r.2.l.length ≤ 2000 := by dsimp only at hle; omega
      have HLE := Lib.hid hle2
      clear hget hpart hle hgs hle2
      obtain ⟨S, M, x, B⟩ := q
      dsimp only at *
      go_wp2_with (go_at_call 25; refine (err_any _ _ _ HRT.out.1).mono ?_; rintro e w2 ⟨rfl, rfl⟩; rw [show errOf (RS.mk sl false).bad = 0 from rfl])
      refine HG.out.mono ?_
      rintro e w2 ⟨rfl, hr, hc⟩
      have HN : Hid (StaysAt w w2 g) := ⟨r.2, HRT.out.next hr hc, HLE.out⟩
      clear hr hc HG HRT
      go_wp2
      go_roundw
      case rel => exact ⟨k + 1, by omega, by go_num, HN.out⟩
      case measure => simp [intOf]; omega
    · go_wp2_with (go_at_call 25; refine (err_any _ _ _ HRT.out.1).mono ?_; rintro e w2 ⟨rfl, rfl⟩; rw [show errOf (RS.mk sl true).bad = 2 from rfl])
      refine (fail_any _ _ _ HRT.out.1).mono ?_
      rintro e w2 ⟨rfl, hr, hc⟩
      have HF := Lib.hid (HRT.out.next hr hc)
      clear hr hc HRT
      go_wp2_with (go_at_call 24; refine (left_any _ _ _ HF.out.1).mono ?_; rintro e w3 ⟨rfl, rfl⟩; dsimp only)
      go_loopw [10] (fun i wr => ∃ k : Nat, k ≤ behind.length ∧ i = .int .i64 (k : Nat) ∧ Hid (Rt w wr g ⟨sl, true⟩)) (fun i _ => behind.length - (intOf i).toNat)
      case atStart => exact ⟨0, Nat.zero_le _, rfl, HF.out⟩
      case round =>
        obtain ⟨k2, hk2, rfl, HR2⟩ := hrel
        clear HF
        by_cases hlt2 : k2 < behind.length
        · obtain ⟨b, off, q, ua, uc, rfl, _, hpart⟩ := HB.out.part HR2.out.2.1 hlt2
          have c0 := hpart.c0
          have c1 := hpart.c1
          have c2 := hpart.c2
          have c3 := hpart.c3
          have hget := get_any (some ⟨g, 0, none⟩) ⟨sl, true⟩ q ua q.b.length uc _ hpart.ok (by dsimp only; omega) HR2.out.1
          unfold GetPost at hget
          rw [RS.get_bad] at hget
          have HG := Lib.hid hget
          clear hget hpart
          obtain ⟨S, M, x, B⟩ := q
          dsimp only at *
          go_wp2_with fail
          refine HG.out.mono ?_
          rintro e w4 ⟨rfl, hr, hc⟩
          have HN := Lib.hid (HR2.out.next hr hc)
          clear hr hc HG HR2
          go_wp2_with (first | (go_at_call 24; refine (left_any _ _ _ HN.out.1).mono ?_; rintro e w5 ⟨rfl, rfl⟩; dsimp only) | (go_at_call 25; refine (err_any _ _ _ HN.out.1).mono ?_; rintro e w5 ⟨rfl, rfl⟩; rw [show errOf (RS.mk sl true).bad = 2 from rfl]))
          go_roundw
          case rel => exact ⟨k2 + 1, by omega, by go_num, HN.out⟩
          case measure => simp [intOf]; omega
        · obtain rfl : k2 = behind.length := by omega
          go_wp2_with fail
          refine (end_any _ _ _ HR2.out.1).mono ?_
          rintro e w4 ⟨rfl, hr, hc⟩
          rw [end_true] at hr
          rw [end_true, show errOf (RS.mk sl true).bad = 2 from rfl]
          have HN := Lib.hid (HR2.out.next hr hc)
          clear hr hc HR2
          go_wp2_with (first | (go_at_call 24; refine (left_any _ _ _ HN.out.1).mono ?_; rintro e w5 ⟨rfl, rfl⟩; dsimp only) | (go_at_call 11; refine (HX.out _ HN.out.2.1).mono ?_; rintro e w6 ⟨rfl, hb⟩; have HBE := Lib.hid hb; clear hb))
          go_ret
          exact ⟨rfl, HBE.out⟩
    · go_wp2_with fail
      refine (fail_any _ _ _ HRT.out.1).mono ?_
      rintro e w2 ⟨rfl, hr, hc⟩
      have HF := Lib.hid (HRT.out.next hr hc)
      clear hr hc HRT
      go_wp2_with (go_at_call 24; refine (left_any _ _ _ HF.out.1).mono ?_; rintro e w3 ⟨rfl, rfl⟩; dsimp only)
      go_loopw [10] (fun i wr => ∃ k : Nat, k ≤ behind.length ∧ i = .int .i64 (k : Nat) ∧ Hid (Rt w wr g ⟨sl, true⟩)) (fun i _ => behind.length - (intOf i).toNat)
      case atStart => exact ⟨0, Nat.zero_le _, rfl, HF.out⟩
      case round =>
        obtain ⟨k2, hk2, rfl, HR2⟩ := hrel
        clear HF
        by_cases hlt2 : k2 < behind.length
        · obtain ⟨b, off, q, ua, uc, rfl, _, hpart⟩ := HB.out.part HR2.out.2.1 hlt2
          have c0 := hpart.c0
          have c1 := hpart.c1
          have c2 := hpart.c2
          have c3 := hpart.c3
          have hget := get_any (some ⟨g, 0, none⟩) ⟨sl, true⟩ q ua q.b.length uc _ hpart.ok (by dsimp only; omega) HR2.out.1
          unfold GetPost at hget
          rw [RS.get_bad] at hget
          have HG := Lib.hid hget
          clear hget hpart
          obtain ⟨S, M, x, B⟩ := q
          dsimp only at *
          go_wp2_with fail
          refine HG.out.mono ?_
          rintro e w4 ⟨rfl, hr, hc⟩
          have HN := Lib.hid (HR2.out.next hr hc)
          clear hr hc HG HR2
          go_wp2_with (first | (go_at_call 24; refine (left_any _ _ _ HN.out.1).mono ?_; rintro e w5 ⟨rfl, rfl⟩; dsimp only) | (go_at_call 25; refine (err_any _ _ _ HN.out.1).mono ?_; rintro e w5 ⟨rfl, rfl⟩; rw [show errOf (RS.mk sl true).bad = 2 from rfl]))
          go_roundw
          case rel => exact ⟨k2 + 1, by omega, by go_num, HN.out⟩
          case measure => simp [intOf]; omega
        · obtain rfl : k2 = behind.length := by omega
          go_wp2_with fail
          refine (end_any _ _ _ HR2.out.1).mono ?_
          rintro e w4 ⟨rfl, hr, hc⟩
          rw [end_true] at hr
          rw [end_true, show errOf (RS.mk sl true).bad = 2 from rfl]
          have HN := Lib.hid (HR2.out.next hr hc)
          clear hr hc HR2
          go_wp2_with (first | (go_at_call 24; refine (left_any _ _ _ HN.out.1).mono ?_; rintro e w5 ⟨rfl, rfl⟩; dsimp only) | (go_at_call 11; refine (HX.out _ HN.out.2.1).mono ?_; rintro e w6 ⟨rfl, hb⟩; have HBE := Lib.hid hb; clear hb))
          go_ret
          exact ⟨rfl, HBE.out⟩
end Go.Proofs.Ytniogemgkcoimaa
