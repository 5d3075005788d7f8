/- The walk of the law CodeTwo. -/
import Derived.Test.YtniogemgkcoimaaLawStays
import Derived.Test.YtniogemgkcoimaaOwnParts
namespace Go.Proofs.Ytniogemgkcoimaa
open Go.RowKit
theorem bytes_add (x y : List UInt8) : (⟨x.toArray⟩ : ByteArray) ++ ⟨y.toArray⟩ = ⟨(x ++ y).toArray⟩ := by
  rw [ByteArray.mk_append_mk]
theorem rowBytes_drop (l : List PV) (k : Nat) (p : PV) (h : l[k]? = some p) : rowBytes (l.drop k) = p.bytes ++ rowBytes (l.drop (k + 1)) := by
  obtain ⟨hk, he⟩ := List.getElem?_eq_some_iff.1 h
  rw [List.drop_eq_getElem_cons hk, he]; rfl
theorem rowBytes_drop_le (l : List PV) (k : Nat) : (rowBytes (l.drop k)).length ≤ (rowBytes l).length := by
  have h : rowBytes l = rowBytes (l.take k) ++ rowBytes (l.drop k) := by rw [← rowBytes_append, List.take_append_drop]
  rw [h, List.length_append]; omega
/-- what the loop over both rows keeps -/
structure TwoAt (W w : World) (g : Nat) (v : Value) (ps : List (PV × Value)) (k : Nat) : Prop where
  rt : Rt W w g ⟨rowBytes ((ps.map (·.1)).drop k), false⟩
  own : OwnParts W.heap.size w v ps
  ne : ∀ k, v.ownBlock = some k → k ≠ g
theorem TwoAt.parts {W w : World} {g : Nat} {v : Value} {ps : List (PV × Value)} {k : Nat} (h : TwoAt W w g v ps k) (hh : Held W ps) : PartsAt w v (ps.map (·.1)) :=
  h.own.parts hh fun _ _ hb => hb.below h.rt.2.1 (Nat.le_refl _)
set_option maxRecDepth 100000 in
set_option maxHeartbeats 4000000 in
theorem codeTwo_any (v0 v1 : Value) (l m : List PV) (w : World) (hp : PartsAt w v0 l) (hq : PartsAt w v1 m) (hf0 : v0 = .slice none 0 0 ∨ ∃ a n c, v0 = .slice (some a) n c) (hf1 : v1 = .slice none 0 0 ∨ ∃ a n c, v1 = .slice (some a) n c) :
    Calls Try.prog 6 #[v0, v1] w fun e w' => e = .returned (.bool true) ∧ Below w.heap.size w w' := by
  have HX : Hid (∀ wr, Below w.heap.size w wr → Calls Try.prog 11 #[] wr fun e w' => e = .returned (.bool true) ∧ Below w.heap.size w w') := fun wr hbw => (awake_any wr).mono fun e w' h => ⟨h.1, hbw.trans (h.2.mono hbw.size)⟩
  have HP := Lib.hid hp
  have HQ := Lib.hid hq
  have HG0 := Lib.hid (great_any v0 l w hp)
  have HG1 := Lib.hid (great_any v1 m w hq)
  obtain ⟨ps, hps, hh0, hone0, a0, c0, rfl, hpos0, hcell0⟩ := hp.pairs
  obtain ⟨qs, hqs, hh1, hone1, a1, c1, rfl, hpos1, hcell1⟩ := hq.pairs
  have hl0 : ps.length = l.length := by rw [← hps]; simp
  have hl1 : qs.length = m.length := by rw [← hqs]; simp
  have hn0 : a0 = none → c0 = 0 ∧ ps = [] := fun h => by
    subst h
    rcases hf0 with h | ⟨a, n, c, h⟩
    · injection h with h1 h2 h3; exact ⟨h3, List.eq_nil_of_length_eq_zero (by omega)⟩
    · injection h with h1; cases h1
  have hn1 : a1 = none → c1 = 0 ∧ qs = [] := fun h => by
    subst h
    rcases hf1 with h | ⟨a, n, c, h⟩
    · injection h with h1 h2 h3; exact ⟨h3, List.eq_nil_of_length_eq_zero (by omega)⟩
    · injection h with h1; cases h1
  have HHold : Hid (Held w (ps ++ qs)) := fun p hp => by
    rcases List.mem_append.1 hp with h | h
    · exact hh0 p h
    · exact hh1 p h
  have HC0 : Hid (∀ wr, Below w.heap.size w wr → ∀ b, a0 = some b → ∀ j u, (ps.flatMap pcells)[j]? = some u → wr.cell? (b.add j) = some u) := fun wr hb b hab j u hj => by
    have h := hcell0 b hab j u hj
    rw [hb.cell (World.block_lt_of_cell? w _ h)]; exact h
  have HC1 : Hid (∀ wr, Below w.heap.size w wr → ∀ b, a1 = some b → ∀ j u, (qs.flatMap pcells)[j]? = some u → wr.cell? (b.add j) = some u) := fun wr hb b hab j u hj => by
    have h := hcell1 b hab j u hj
    rw [hb.cell (World.block_lt_of_cell? w _ h)]; exact h
  have HO0 := Lib.hid hone0
  have HO1 := Lib.hid hone1
  have HN0 := Lib.hid hn0
  have HN1 := Lib.hid hn1
  have HL0 := Lib.hid hl0
  have HL1 := Lib.hid hl1
  have HPS := Lib.hid hps
  have HQS := Lib.hid hqs
  clear hp hq hf0 hf1 hh0 hh1 hone0 hone1 hpos0 hpos1 hcell0 hcell1 hn0 hn1 hl0 hl1 hps hqs
  by_cases hg0 : 2000 < countTo l l.length
  · rw [decide_eq_true hg0] at HG0
    clear hg0
    go_enter Try.func6, Try.ntmps6
    go_wp2_with (first | (go_at_call 10; refine HG0.out.mono ?_; rintro e w1 ⟨rfl, rfl⟩) | (go_at_call 11; refine (HX.out _ (Below.refl _ _)).mono ?_; rintro e w1 ⟨rfl, hb⟩; have HBE := Lib.hid hb; clear hb))
    go_ret
    exact ⟨rfl, HBE.out⟩
  have hs0 := row_small l hg0
  rw [decide_eq_false hg0] at HG0
  clear hg0
  by_cases hg1 : 2000 < countTo m m.length
  · rw [decide_eq_true hg1] at HG1
    clear hg1 hs0
    go_enter Try.func6, Try.ntmps6
    go_wp2_with fail
    refine HG0.out.mono ?_
    rintro e w1 ⟨rfl, rfl⟩
    go_wp2_with (first | (go_at_call 10; refine HG1.out.mono ?_; rintro e w1 ⟨rfl, rfl⟩) | (go_at_call 11; refine (HX.out _ (Below.refl _ _)).mono ?_; rintro e w1 ⟨rfl, hb⟩; have HBE := Lib.hid hb; clear hb))
    go_ret
    exact ⟨rfl, HBE.out⟩
  have hs1 := row_small m hg1
  rw [decide_eq_false hg1] at HG1
  clear hg1
  have HS0 := Lib.hid hs0
  have HS1 := Lib.hid hs1
  clear hs0 hs1
  go_enter Try.func6, Try.ntmps6
  go_wp2_with fail
  refine HG0.out.mono ?_
  rintro e w1 ⟨rfl, rfl⟩
  go_wp2_with fail
  refine HG1.out.mono ?_
  rintro e w1 ⟨rfl, rfl⟩
  clear HG0 HG1
  go_wp2_with fail
  refine (row_any _ l _ HP.out (by have := HS0.out; omega) HS0.out.2.2).mono ?_
  rintro e w1 ⟨va, rfl, hown, hb⟩
  have HA : Hid (OwnBytes w.heap.size w1 va (rowBytes l)) := hown
  have HB1 := Lib.hid hb
  obtain ⟨aa, ca, rfl⟩ := hown.form
  clear hown hb
  go_wp2_with fail
  refine (row_any _ m _ (HQ.out.below HB1.out (Nat.le_refl _)) (by have := HS1.out; omega) HS1.out.2.2).mono ?_
  rintro e w2 ⟨vb, rfl, hown, hb⟩
  have HA2 : Hid (OwnBytes w.heap.size w2 (.slice aa (rowBytes l).length ca) (rowBytes l)) := HA.out.kept hb (Nat.le_refl _)
  have HBB : Hid (OwnBytes w.heap.size w2 vb (rowBytes m)) := hown.base_le HB1.out.size
  have HB2 : Hid (Below w.heap.size w w2) := HB1.out.trans (hb.mono HB1.out.size)
  obtain ⟨ab, cb, rfl⟩ := hown.form
  clear hown hb HA HB1
  have HE : Hid (OwnParts w2.heap.size (w2.alloc (.cells #[] 32)) (.slice (some ⟨w2.heap.size, 0, none⟩) 0 0) [] ∧ Below w2.heap.size w2 (w2.alloc (.cells #[] 32))) :=
    ⟨World.ownsRow_made w2 #[] 0 (Nat.le_refl _) (Nat.zero_le _) rfl, Go.Joins.below_alloc1 w2 _⟩
  have HBW : Hid (∀ wr, Below w2.heap.size w2 wr → Below w.heap.size w wr) := fun wr h => HB2.out.trans (h.mono HB2.out.size)
  rw [← HL0.out, ← HL1.out]
  go_wp2_with (first | (at_builtin; refine wpList_append_parts rfl (.tmp 22) (.tmp 23) rfl w2.heap.size _ [] ps a0 c0 rfl rfl HE.out.1 HN0.out (HC0.out _ (HBW.out _ HE.out.2)) HO0.out (by have := HS0.out; have := HL0.out; simp; omega) HE.out.2.size ?_; intro v3 w3 hown3 hgrow3; have HE3 : Hid (OwnParts w2.heap.size w3 v3 ps ∧ Below w2.heap.size w2 w3) := ⟨hown3, HE.out.2.grown hgrow3 HE.out.2.size (fun k hk => (World.ownsRow.lt HE.out.1 k hk).1)⟩; clear hown3 hgrow3) | (at_builtin; refine wpList_append_parts rfl (.tmp 24) (.tmp 25) rfl w2.heap.size _ ps qs a1 c1 rfl rfl HE3.out.1 HN1.out (HC1.out _ (HBW.out _ HE3.out.2)) HO1.out (by have := HS0.out; have := HL0.out; have := HS1.out; have := HL1.out; omega) HE3.out.2.size ?_; intro v4 w4 hown4 hgrow4; have HE4 : Hid (OwnParts w2.heap.size w4 v4 (ps ++ qs) ∧ Below w2.heap.size w2 w4) := ⟨hown4, HE3.out.2.grown hgrow4 HE3.out.2.size (fun k hk => (World.ownsRow.lt HE3.out.1 k hk).1)⟩; clear hown4 hgrow4))
  have HMAP : Hid ((ps ++ qs).map (·.1) = l ++ m) := by
    have h1 := HPS.out
    have h2 := HQS.out
    simp only [Hid, List.map_append, h1, h2]
  have HPB : Hid (PartsAt w4 v4 (l ++ m)) := by
    have h := HE4.out.1.parts HHold.out (fun _ _ hb => hb.below (HBW.out _ HE4.out.2) (Nat.le_refl _))
    rw [HMAP.out] at h
    exact h
  have HSB : Hid ((rowBytes (l ++ m)).length ≤ 200000 ∧ ∀ p ∈ l ++ m, p.b.length ≤ 100000) := by
    have h0 := HS0.out
    have h1 := HS1.out
    refine ⟨by rw [rowBytes_append, List.length_append]; omega, fun p hp => ?_⟩
    rcases List.mem_append.1 hp with h | h
    · exact h0.2.2 p h
    · exact h1.2.2 p h
  refine (row_any _ (l ++ m) _ HPB.out HSB.out.1 HSB.out.2).mono ?_
  rintro e w5 ⟨vc, rfl, hown, hb⟩
  have hb5 : Below w2.heap.size w2 w5 := HE4.out.2.trans (hb.mono HE4.out.2.size)
  have HB5 : Hid (Below w.heap.size w w5) := HBW.out _ hb5
  have hsa := string_bytes (HA2.out.kept hb5 (Nat.le_refl _)).bytesAt
  have hsb := string_bytes (HBB.out.kept hb5 (Nat.le_refl _)).bytesAt
  have hsc := string_bytes hown.bytesAt
  have HC5 : Hid (BytesAt w5 vc (rowBytes (l ++ m))) := hown.bytesAt
  have HE5 : Hid (OwnParts w.heap.size w5 v4 (ps ++ qs) ∧ ∀ k, v4.ownBlock = some k → k < w5.heap.size) := by
    have h := OwnParts.chg HE4.out.1 (Chg.of_below (S := []) hb (Nat.le_refl _)) (by simp)
    exact ⟨Go.Joins.ownsRow_le h HB2.out.size, fun k hk => (World.ownsRow.lt h k hk).2⟩
  have hadd : ∀ wx : World, (Op.stringOp .add ⟨(rowBytes l).toArray⟩ ⟨(rowBytes m).toArray⟩).run Try.prog wx = .ok (.string ⟨(rowBytes (l ++ m)).toArray⟩) wx := fun wx => by
    rw [rowBytes_append]
    exact run_string_add_lists wx _ _ (by have := HS0.out; omega) (by have := HS1.out; omega)
  obtain ⟨ac, cc, rfl⟩ := hown.form
  obtain ⟨a4, c4, rfl⟩ := HE4.out.1.form
  generalize (⟨(rowBytes l).toArray⟩ : ByteArray) = SA at hsa hadd
  generalize (⟨(rowBytes m).toArray⟩ : ByteArray) = SB at hsb hadd
  generalize (⟨(rowBytes (l ++ m)).toArray⟩ : ByteArray) = SC at hsc hadd
  clear hown hb hb5 HA2 HBB HE HE4 HBW HPB
  go_wp2_with fail
  refine (new_reader _ (rowBytes (l ++ m)) _ HC5.out (by have := HSB.out.1; omega)).mono ?_
  rintro e w6 ⟨g, rfl, hr, hb, hg, _⟩
  have H0 : Hid (TwoAt w w6 g (.slice a4 (ps ++ qs).length c4) (ps ++ qs) 0) := by
    refine ⟨⟨by rw [List.drop_zero, HMAP.out]; exact hr, HB5.out.trans (hb.mono HB5.out.size), Nat.le_trans HB5.out.size hg⟩, HE5.out.1.chg (Chg.of_below (S := []) hb (Nat.le_refl _)) (by simp), fun k hk => ?_⟩
    have := HE5.out.2 k hk
    omega
  clear hr hb hg hsa hsb hsc hadd HC5 HE5 HB5
  go_wp2_with fail
  go_loopw [10] (fun i wr => ∃ k : Nat, k ≤ ps.length + qs.length ∧ i = .int .i64 (k : Nat) ∧ Hid (TwoAt w wr g (.slice a4 (ps ++ qs).length c4) (ps ++ qs) k)) (fun i _ => ps.length + qs.length - (intOf i).toNat)
  case atStart => exact ⟨0, Nat.zero_le _, rfl, H0.out⟩
  case round =>
    obtain ⟨k, hk, rfl, HT⟩ := hrel
    clear H0
    have hpl : ps.length ≤ 2000 := by have := HS0.out; have := HL0.out; omega
    have hql : qs.length ≤ 2000 := by have := HS1.out; have := HL1.out; omega
    by_cases hlt : k < ps.length + qs.length
    · have hparts := HT.out.parts HHold.out
      rw [HMAP.out] at hparts
      have hlm : (l ++ m).length = ps.length + qs.length := by rw [List.length_append, ← HL0.out, ← HL1.out]
      obtain ⟨b, off, q, ua, uc, rfl, hqk, hpart⟩ := hparts.part (Below.refl _ _) (show k < (l ++ m).length by omega)
      have c0' := hpart.c0
      have c1' := hpart.c1
      have c2' := hpart.c2
      have c3' := hpart.c3
      have hdrop := rowBytes_drop (l ++ m) k q hqk
      have hqb : q.b.length ≤ 100000 := HSB.out.2 q (List.mem_of_getElem? hqk)
      have hdl := rowBytes_drop_le (l ++ m) k
      have HM : Hid (Calls Try.prog 30 #[.pointer (some ⟨g, 0, none⟩), q.val (.slice ua q.b.length uc)] wr fun e w' => e = .returned (.bool true) ∧ Rd w' (some ⟨g, 0, none⟩) ⟨rowBytes (((ps ++ qs).map (·.1)).drop (k + 1)), false⟩ ∧ Chg (at' (some ⟨g, 0, none⟩)) wr w') := by
        have h := HT.out.rt.1
        rw [HMAP.out] at h ⊢
        rw [hdrop] at h
        exact meet_any _ (rowBytes ((l ++ m).drop (k + 1))) q _ wr hpart.ok hpart.bytes (by rw [← hdrop]; have := HSB.out.1; omega) (by omega) h
      have HLEFT : Hid (Calls Try.prog 24 #[.pointer (some ⟨g, 0, none⟩)] wr fun e w' => e = .returned (.int .i64 ((rowBytes ((l ++ m).drop k)).length : Nat)) ∧ wr = w') := by
        have h := left_any (some ⟨g, 0, none⟩) _ wr HT.out.rt.1
        rw [HMAP.out] at h
        exact h
      clear hparts hpart hdrop hdl hqb
      obtain ⟨S, M, x, B⟩ := q
      dsimp only at *
      by_cases hkl : k = ps.length
      · have hleft : (rowBytes ((l ++ m).drop k)).length = (rowBytes m).length := by rw [hkl, HL0.out, List.drop_left]
        have hkt : ((k : Int) == (ps.length : Int)) = true := by simp; omega
        clear hkl
        rw [hleft] at HLEFT
        clear hleft
        go_wp2_with (go_at_call 24; refine HLEFT.out.mono ?_; rintro e w7 ⟨rfl, rfl⟩)
        refine HM.out.mono ?_
        rintro e w8 ⟨rfl, hr, hc⟩
        have HN : Hid (TwoAt w w8 g (.slice (some ⟨b, off, none⟩) (ps ++ qs).length c4) (ps ++ qs) (k + 1)) := ⟨HT.out.rt.next hr hc, HT.out.own.chg hc (fun j hj => by rw [at_some]; simpa using HT.out.ne j hj), HT.out.ne⟩
        clear hr hc HM HT
        go_wp2
        go_roundw
        case rel => exact ⟨k + 1, by omega, by go_num, HN.out⟩
        case measure => simp [intOf]; omega
      · clear HLEFT
        go_wp2_with fail
        refine HM.out.mono ?_
        rintro e w8 ⟨rfl, hr, hc⟩
        have HN : Hid (TwoAt w w8 g (.slice (some ⟨b, off, none⟩) (ps ++ qs).length c4) (ps ++ qs) (k + 1)) := ⟨HT.out.rt.next hr hc, HT.out.own.chg hc (fun j hj => by rw [at_some]; simpa using HT.out.ne j hj), HT.out.ne⟩
        clear hr hc HM HT
        go_wp2
        go_roundw
        case rel => exact ⟨k + 1, by omega, by go_num, HN.out⟩
        case measure => simp [intOf]; omega
    · obtain rfl : k = ps.length + qs.length := by omega
      have hrd : Rd wr (some ⟨g, 0, none⟩) ⟨[], false⟩ := by
        have h := HT.out.rt.1
        rw [List.drop_of_length_le (by simp)] at h
        exact h
      have HRT : Hid (Rt w wr g ⟨[], false⟩) := ⟨hrd, HT.out.rt.2⟩
      clear hrd HT
      go_wp2_with fail
      refine (left_any (some ⟨g, 0, none⟩) ⟨[], false⟩ _ HRT.out.1).mono ?_
      rintro e w7 ⟨rfl, rfl⟩
      go_wp2_with fail
      refine (end_any (some ⟨g, 0, none⟩) ⟨[], false⟩ _ HRT.out.1).mono ?_
      rintro e w8 ⟨rfl, hr, hc⟩
      rw [show errOf (RS.end' (RS.mk [] false)).bad = 0 from rfl]
      have HN := Lib.hid (HRT.out.next hr hc)
      clear hr hc HRT
      go_wp2_with (go_at_call 11; refine (HX.out _ HN.out.2.1).mono ?_; rintro e w9 ⟨rfl, hb⟩; have HBE := Lib.hid hb; clear hb)
      go_ret
      exact ⟨rfl, HBE.out⟩
end Go.Proofs.Ytniogemgkcoimaa
