/- The walk of the law CodeNobody. -/
import Derived.Test.YtniogemgkcoimaaLawStays
namespace Go.Proofs.Ytniogemgkcoimaa
open Go.RowKit
/-- of no bytes nothing is read but nothing -/
theorem readPart_empty (k : Nat) (m : Int) : readPart k m [] = none ∨ readPart k m [] = some ((0, []), []) := by
  have h10 : readShort [] = none := rfl
  match k with
  | 0 => exact .inl rfl
  | 1 => exact .inl rfl
  | 2 => simp [readPart, h10]
  | 3 => simp [readPart, h10]
  | k + 4 =>
    simp only [readPart]
    split
    · right; simp
    · exact .inl rfl
theorem get_empty (k : Nat) (m : Int) (bad : Bool) : ∃ b', RS.get ⟨[], bad⟩ k m = ((0, []), ⟨[], b'⟩) := by
  cases bad
  · rcases readPart_empty k m with h | h
    · exact ⟨true, RS.get_none h⟩
    · exact ⟨false, RS.get_some h⟩
  · exact ⟨true, rfl⟩
theorem rd_nil (w : World) : Rd w none ⟨[], true⟩ := .inl ⟨rfl, rfl⟩
set_option maxRecDepth 100000 in
set_option maxHeartbeats 4000000 in
theorem codeNobody_any (v : Value) (l : List PV) (w : World) (hp : PartsAt w v l) :
    Calls Try.prog 5 #[v] w fun e w' => e = .returned (.bool true) ∧ Below w.heap.size w w' := by
  have HP := Lib.hid hp
  have HX : Hid (∀ wr, Below w.heap.size w wr → Calls Try.prog 11 #[] wr fun e w' => e = .returned (.bool true) ∧ Below w.heap.size w w') := fun wr hbw => (awake_any wr).mono fun e w' h => ⟨h.1, hbw.trans (h.2.mono hbw.size)⟩
  have HG := Lib.hid (great_any v l w hp)
  obtain ⟨a, c, rfl, hl, _⟩ := hp
  rw [maxLen_eq] at hl
  by_cases hg1 : 2000 < countTo l l.length
  · rw [decide_eq_true hg1] at HG
    clear hg1
    go_enter Try.func5, Try.ntmps5
    go_wp2_with (first | (go_at_call 10; refine HG.out.mono ?_; rintro e w1 ⟨rfl, rfl⟩) | (go_at_call 11; refine (HX.out _ (Below.refl _ _)).mono ?_; rintro e w1 ⟨rfl, hb⟩; have HBE := Lib.hid hb; clear hb))
    go_ret
    exact ⟨rfl, HBE.out⟩
  rw [decide_eq_false hg1] at HG
  clear hg1
  have H0 : Hid (Rt w (w.alloc (.cells #[.slice none 0 0, .bool false] 54)) w.heap.size ⟨[], false⟩) :=
    ⟨.inr ⟨_, rfl, _, heap_alloc_new w _, BytesAt.nil _⟩, Go.Joins.below_alloc1 w _, Nat.le_refl _⟩
  go_enter Try.func5, Try.ntmps5
  go_wp2_with fail
  refine HG.out.mono ?_
  rintro e w1 ⟨rfl, rfl⟩
  go_wp2_with fail
  refine (err_any (some ⟨w.heap.size, 0, none⟩) ⟨[], false⟩ _ H0.out.1).mono ?_
  rintro e w1 ⟨rfl, rfl⟩
  rw [show errOf (RS.mk [] false).bad = 0 from rfl]
  go_wp2_with fail
  refine (end_any (some ⟨w.heap.size, 0, none⟩) ⟨[], false⟩ _ H0.out.1).mono ?_
  rintro e w1 ⟨rfl, hr, hc⟩
  rw [show RS.end' ⟨[], false⟩ = ⟨[], false⟩ from rfl] at hr
  rw [show errOf (RS.end' (RS.mk [] false)).bad = 0 from rfl]
  have H1 : Hid (∃ b', Rt w w1 w.heap.size ⟨[], b'⟩) := ⟨false, H0.out.next hr hc⟩
  clear hr hc H0 HG
  go_wp2_with fail
  go_loopw [5] (fun i wr => ∃ k : Nat, k ≤ l.length ∧ i = .int .i64 (k : Nat) ∧ Hid (∃ b', Rt w wr w.heap.size ⟨[], b'⟩)) (fun i _ => l.length - (intOf i).toNat)
  case atStart => exact ⟨0, Nat.zero_le _, rfl, H1.out⟩
  case round =>
    obtain ⟨k, hk, rfl, HR⟩ := hrel
    clear H1
    obtain ⟨b', hrt⟩ := HR.out
    have HRT := Lib.hid hrt
    clear hrt HR
    by_cases hlt : k < l.length
    · obtain ⟨b, off, q, ua, uc, rfl, _, hpart⟩ := HP.out.part HRT.out.2.1 hlt
      have c0 := hpart.c0
      have c1 := hpart.c1
      have c2 := hpart.c2
      have c3 := hpart.c3
      have hget := get_any none ⟨[], true⟩ q ua q.b.length uc wr hpart.ok (by simp) (rd_nil _)
      unfold GetPost at hget
      rw [RS.get_bad] at hget
      have HG1 := Lib.hid hget
      have HQ : Hid (∀ w2, Below wr.heap.size wr w2 → PartAt w2 b (off + k * 4) q (.slice ua q.b.length uc)) := fun w2 h2 => hpart.below h2 (Nat.le_refl _) (World.block_lt_of_cell? _ _ c0)
      have HOK := Lib.hid hpart.ok
      clear hget hpart
      obtain ⟨S, M, x, B⟩ := q
      dsimp only at *
      go_wp2_with fail
      refine HG1.out.mono ?_
      rintro e w2 ⟨rfl, -, hc⟩
      have hb2 : Below wr.heap.size wr w2 := hc.below (Nat.le_refl _) (by simp [at'])
      have hpart := HQ.out w2 hb2
      have d0 := hpart.c0
      have d1 := hpart.c1
      have d2 := hpart.c2
      have d3 := hpart.c3
      have hrt2 := HRT.out.below hb2 (Nat.le_refl _)
      obtain ⟨b2, hge⟩ := get_empty (PV.k ⟨S, M, x, B⟩) M b'
      have hget := get_any (some ⟨w.heap.size, 0, none⟩) ⟨[], b'⟩ ⟨S, M, x, B⟩ ua B.length uc w2 HOK.out (by simp) hrt2.1
      unfold GetPost at hget
      dsimp only at hget
      rw [hge] at hget
      have HG2 := Lib.hid hget
      have HRT2 := Lib.hid hrt2
      clear hget hpart hrt2 hge HQ HRT HG1 hc hb2 c0 c1 c2 c3
      dsimp only at *
      go_wp2_with fail
      refine HG2.out.mono ?_
      rintro e w3 ⟨rfl, hr, hc⟩
      have HN := Lib.hid (HRT2.out.next hr hc)
      clear hr hc HG2 HRT2 d0 d1 d2 d3
      go_wp2_with fail
      refine (fail_any none ⟨[], true⟩ _ (rd_nil _)).mono ?_
      rintro e w4 ⟨rfl, -, hc⟩
      have HN2 := Lib.hid (HN.out.below (hc.below (Nat.le_refl _) (by simp [at'])) (Nat.le_refl _))
      clear hc HN
      go_wp2_with fail
      refine (left_any none ⟨[], true⟩ _ (rd_nil _)).mono ?_
      rintro e w5 ⟨rfl, rfl⟩
      go_wp2_with fail
      refine (left_any (some ⟨w.heap.size, 0, none⟩) ⟨[], b2⟩ _ HN2.out.1).mono ?_
      rintro e w5 ⟨rfl, rfl⟩
      go_wp2_with fail
      refine (err_any none ⟨[], true⟩ _ (rd_nil _)).mono ?_
      rintro e w5 ⟨rfl, rfl⟩
      rw [show errOf (RS.mk [] true).bad = 2 from rfl]
      have HN3 : Hid (∃ b', Rt w w4 w.heap.size ⟨[], b'⟩) := ⟨b2, HN2.out⟩
      go_wp2_with fail
      go_roundw
      case rel => exact ⟨k + 1, by omega, by go_num, HN3.out⟩
      case measure => simp [intOf]; omega
    · obtain rfl : k = l.length := by omega
      go_wp2_with fail
      refine (end_any none ⟨[], true⟩ _ (rd_nil _)).mono ?_
      rintro e w4 ⟨rfl, hr, hc⟩
      rw [end_true, show errOf (RS.mk [] true).bad = 2 from rfl]
      have HB : Hid (Below w.heap.size w w4) := HRT.out.2.1.trans ((hc.below (B := wr.heap.size) (Nat.le_refl _) (by simp [at'])).mono HRT.out.2.1.size)
      clear hr hc HRT
      go_wp2_with (go_at_call 11; refine (HX.out _ HB.out).mono ?_; rintro e w6 ⟨rfl, hb⟩; have HBE := Lib.hid hb; clear hb)
      go_ret
      exact ⟨rfl, HBE.out⟩
end Go.Proofs.Ytniogemgkcoimaa
