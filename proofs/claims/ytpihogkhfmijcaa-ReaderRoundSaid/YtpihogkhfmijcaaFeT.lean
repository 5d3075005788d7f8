/- An answer is taken. -/
import Derived.Test.YtpihogkhfmijcaaFeC
namespace Go.Proofs.Ytpihogkhfmijcaa
open Go.RowKit Go.Maps Go.Shelf
set_option linter.unusedSimpArgs false
set_option maxRecDepth 100000 in
set_option maxHeartbeats 8000000 in
theorem take_any {g : Nat} {x : FeV} {now : Int} {w : World} (h : Wo w g x now none 0 []) (hi : x.m.In) (r : RsV) (hr : r.ok w) (hl : r.body.length ≤ 100000) :
    Calls Try.prog 26 #[pg g, r.val] w fun e w' => WoPost g now x (x.m.takeM now r).1 (x.m.takeM now r).2 w e w' := by
  have HB := Lib.hid (Go.Joins.below_alloc1 w (.cells r.cells 40))
  have HA := Lib.hid (answers_any (h.below HB.out) r)
  have HK := Lib.hid (fun Z (hZ : Below (w.alloc (.cells r.cells 40)).heap.size (w.alloc (.cells r.cells 40)) Z) => And.intro ((BoxC.new w 40 r.cells).below hZ) (HB.out.trans (hZ.mono HB.out.size)))
  have HU := Lib.hid h
  have HFO := Lib.hid (fun Z (hZ : Below w.heap.size w Z) => found_any (h.below hZ) hi r (hr.below hZ) hl)
  have HRE := Lib.hid (fun Z (hZ : Below w.heap.size w Z) (hb : BoxC Z w.heap.size 40 r.cells) => refused_any (h.below hZ) hi (asks42 hb))
  have HRS := Lib.hid (fun Z (hZ : Below w.heap.size w Z) (hb : BoxC Z w.heap.size 40 r.cells) => refused_any (h.below hZ) hi (asks43 hb))
  have HT := Lib.hid (And.intro (@takeM_no x.m now r) (And.intro (@takeM_0 x.m now r) (And.intro (@takeM_1 x.m now r) (And.intro (@takeM_4 x.m now r) (@takeM_x x.m now r)))))
  obtain ⟨T, hT⟩ : ∃ T, x.m.takeM now r = T := ⟨_, rfl⟩
  rw [hT] at HT ⊢
  obtain ⟨b, hb⟩ : ∃ b, decide (x.m.fits r) = b := ⟨_, rfl⟩
  rw [hb] at HA
  have HBB := Lib.hid hb
  obtain ⟨frm, kind, code, ledger, n, epoch, sure, ba, bc, body⟩ := r
  dsimp only [RsV.cells] at HB HA HK HRE HRS HT
  clear h hi hr hl hT hb
  cases b with
  | false =>
    have HN := Lib.hid (HT.out.1 (of_decide_eq_false HBB.out))
    go_enter Try.func26, Try.ntmps26
    go_wp2_with fail
    refine HA.out.mono ?_
    rintro e w1 ⟨rfl, hb1⟩
    have HK1 := Lib.hid (HK.out w1 hb1)
    clear hb1
    go_wp2
    go_end0
    rw [HN.out]
    exact HU.out.same ⟨_, rfl⟩ HK1.out.2
  | true =>
    have HFT := Lib.hid (of_decide_eq_true HBB.out)
    rcases Classical.em (code = 0) with h0 | h0
    · subst h0
      have HN := Lib.hid (HT.out.2.1 HFT.out rfl)
      go_enter Try.func26, Try.ntmps26
      go_wp2_with fail
      refine HA.out.mono ?_
      rintro e w1 ⟨rfl, hb1⟩
      have HK1 := Lib.hid (HK.out w1 hb1)
      have b0 := HK1.out.1.cell 0
      have b1 := HK1.out.1.cell 1
      have b2 := HK1.out.1.cell 2
      have b3 := HK1.out.1.cell 3
      have b4 := HK1.out.1.cell 4
      have b5 := HK1.out.1.cell 5
      have b6 := HK1.out.1.cell 6
      have b7 := HK1.out.1.cell 7
      have b8 := HK1.out.1.cell 8
      simp only [List.getElem?_toArray, List.getElem?_cons_succ, List.getElem?_cons_zero] at b0 b1 b2 b3 b4 b5 b6 b7 b8
      have HC := Lib.hid (HFO.out w1 HK1.out.2)
      clear hb1
      go_wp2_with fail
      refine HC.out.mono ?_
      rintro e w2 ⟨⟨v, rfl⟩, hq⟩
      have HQ := Lib.hid (WoPost.trans (x := x) (e := .returned (.tuple #[])) ⟨⟨_, rfl⟩, hq⟩ (Ch1.of HK1.out.2) (fun _ h => .inl h))
      clear hq
      go_wp2
      go_end0
      rw [HN.out]
      exact HQ.out
    · have e0 : (code == 0) = false := by simpa using h0
      rcases Classical.em (code = 3) with h3 | h3
      · subst h3
        have HN := Lib.hid (HT.out.2.2.1 HFT.out (by decide))
        go_enter Try.func26, Try.ntmps26
        go_wp2_with fail
        refine HA.out.mono ?_
        rintro e w1 ⟨rfl, hb1⟩
        have HK1 := Lib.hid (HK.out w1 hb1)
        have b0 := HK1.out.1.cell 0
        have b1 := HK1.out.1.cell 1
        have b2 := HK1.out.1.cell 2
        have b3 := HK1.out.1.cell 3
        have b4 := HK1.out.1.cell 4
        have b5 := HK1.out.1.cell 5
        have b6 := HK1.out.1.cell 6
        have b7 := HK1.out.1.cell 7
        have b8 := HK1.out.1.cell 8
        simp only [List.getElem?_toArray, List.getElem?_cons_succ, List.getElem?_cons_zero] at b0 b1 b2 b3 b4 b5 b6 b7 b8
        have HC := Lib.hid (HRE.out w1 HK1.out.2 HK1.out.1)
        clear hb1
        go_wp2_with fail
        refine HC.out.mono ?_
        intro e w2 hq
        have hv : ∃ v, e = .returned v := by
          split at hq <;> exact hq.1
        obtain ⟨v, rfl⟩ := hv
        have HQ := Lib.hid hq
        clear hq
        go_wp2
        go_end0
        rw [HN.out]
        have hq := HQ.out
        by_cases hc : x.m.cur = frm
        · rw [if_pos (decide_eq_true hc)] at hq
          rw [if_pos hc]
          exact WoPost.trans ⟨⟨_, rfl⟩, hq.2⟩ (Ch1.of HK1.out.2) (fun _ h => .inl h)
        · rw [if_neg (by simpa using hc)] at hq
          rw [if_neg hc]
          exact WoPost.trans ⟨⟨_, rfl⟩, hq.2⟩ (Ch1.of HK1.out.2) (fun _ h => .inl h)
      · have e3 : (code == 3) = false := by simpa using h3
        rcases Classical.em (code = 2) with h2 | h2
        · subst h2
          have HN := Lib.hid (HT.out.2.2.1 HFT.out (by decide))
          go_enter Try.func26, Try.ntmps26
          go_wp2_with fail
          refine HA.out.mono ?_
          rintro e w1 ⟨rfl, hb1⟩
          have HK1 := Lib.hid (HK.out w1 hb1)
          have b0 := HK1.out.1.cell 0
          have b1 := HK1.out.1.cell 1
          have b2 := HK1.out.1.cell 2
          have b3 := HK1.out.1.cell 3
          have b4 := HK1.out.1.cell 4
          have b5 := HK1.out.1.cell 5
          have b6 := HK1.out.1.cell 6
          have b7 := HK1.out.1.cell 7
          have b8 := HK1.out.1.cell 8
          simp only [List.getElem?_toArray, List.getElem?_cons_succ, List.getElem?_cons_zero] at b0 b1 b2 b3 b4 b5 b6 b7 b8
          have HC := Lib.hid (HRE.out w1 HK1.out.2 HK1.out.1)
          clear hb1
          go_wp2_with fail
          refine HC.out.mono ?_
          intro e w2 hq
          have hv : ∃ v, e = .returned v := by
            split at hq <;> exact hq.1
          obtain ⟨v, rfl⟩ := hv
          have HQ := Lib.hid hq
          clear hq
          go_wp2
          go_end0
          rw [HN.out]
          have hq := HQ.out
          by_cases hc : x.m.cur = frm
          · rw [if_pos (decide_eq_true hc)] at hq
            rw [if_pos hc]
            exact WoPost.trans ⟨⟨_, rfl⟩, hq.2⟩ (Ch1.of HK1.out.2) (fun _ h => .inl h)
          · rw [if_neg (by simpa using hc)] at hq
            rw [if_neg hc]
            exact WoPost.trans ⟨⟨_, rfl⟩, hq.2⟩ (Ch1.of HK1.out.2) (fun _ h => .inl h)
        · have e2 : (code == 2) = false := by simpa using h2
          rcases Classical.em (code = 1) with h1 | h1
          · subst h1
            have HN := Lib.hid (HT.out.2.2.1 HFT.out (by decide))
            go_enter Try.func26, Try.ntmps26
            go_wp2_with fail
            refine HA.out.mono ?_
            rintro e w1 ⟨rfl, hb1⟩
            have HK1 := Lib.hid (HK.out w1 hb1)
            have b0 := HK1.out.1.cell 0
            have b1 := HK1.out.1.cell 1
            have b2 := HK1.out.1.cell 2
            have b3 := HK1.out.1.cell 3
            have b4 := HK1.out.1.cell 4
            have b5 := HK1.out.1.cell 5
            have b6 := HK1.out.1.cell 6
            have b7 := HK1.out.1.cell 7
            have b8 := HK1.out.1.cell 8
            simp only [List.getElem?_toArray, List.getElem?_cons_succ, List.getElem?_cons_zero] at b0 b1 b2 b3 b4 b5 b6 b7 b8
            have HC := Lib.hid (HRE.out w1 HK1.out.2 HK1.out.1)
            clear hb1
            go_wp2_with fail
            refine HC.out.mono ?_
            intro e w2 hq
            have hv : ∃ v, e = .returned v := by
              split at hq <;> exact hq.1
            obtain ⟨v, rfl⟩ := hv
            have HQ := Lib.hid hq
            clear hq
            go_wp2
            go_end0
            rw [HN.out]
            have hq := HQ.out
            by_cases hc : x.m.cur = frm
            · rw [if_pos (decide_eq_true hc)] at hq
              rw [if_pos hc]
              exact WoPost.trans ⟨⟨_, rfl⟩, hq.2⟩ (Ch1.of HK1.out.2) (fun _ h => .inl h)
            · rw [if_neg (by simpa using hc)] at hq
              rw [if_neg hc]
              exact WoPost.trans ⟨⟨_, rfl⟩, hq.2⟩ (Ch1.of HK1.out.2) (fun _ h => .inl h)
          · have e1 : (code == 1) = false := by simpa using h1
            rcases Classical.em (code = 4) with h4 | h4
            · subst h4
              have HN := Lib.hid (HT.out.2.2.2.1 HFT.out rfl)
              go_enter Try.func26, Try.ntmps26
              go_wp2_with fail
              refine HA.out.mono ?_
              rintro e w1 ⟨rfl, hb1⟩
              have HK1 := Lib.hid (HK.out w1 hb1)
              have b0 := HK1.out.1.cell 0
              have b1 := HK1.out.1.cell 1
              have b2 := HK1.out.1.cell 2
              have b3 := HK1.out.1.cell 3
              have b4 := HK1.out.1.cell 4
              have b5 := HK1.out.1.cell 5
              have b6 := HK1.out.1.cell 6
              have b7 := HK1.out.1.cell 7
              have b8 := HK1.out.1.cell 8
              simp only [List.getElem?_toArray, List.getElem?_cons_succ, List.getElem?_cons_zero] at b0 b1 b2 b3 b4 b5 b6 b7 b8
              have HC := Lib.hid (HRS.out w1 HK1.out.2 HK1.out.1)
              clear hb1
              go_wp2_with fail
              refine HC.out.mono ?_
              intro e w2 hq
              have hv : ∃ v, e = .returned v := by
                split at hq <;> exact hq.1
              obtain ⟨v, rfl⟩ := hv
              have HQ := Lib.hid hq
              clear hq
              go_wp2
              go_end0
              rw [HN.out]
              have hq := HQ.out
              by_cases hc : x.m.cur.n = frm.n
              · rw [if_pos (decide_eq_true hc)] at hq
                rw [if_pos hc]
                exact WoPost.trans ⟨⟨_, rfl⟩, hq.2⟩ (Ch1.of HK1.out.2) (fun _ h => .inl h)
              · rw [if_neg (by simpa using hc)] at hq
                rw [if_neg hc]
                exact WoPost.trans ⟨⟨_, rfl⟩, hq.2⟩ (Ch1.of HK1.out.2) (fun _ h => .inl h)
            · have e4 : (code == 4) = false := by simpa using h4
              have HN := Lib.hid (HT.out.2.2.2.2 ⟨h0, h1, h2, h3, h4⟩)
              clear h0 h1 h2 h3 h4
              go_enter Try.func26, Try.ntmps26
              go_wp2_with fail
              refine HA.out.mono ?_
              rintro e w1 ⟨rfl, hb1⟩
              have HK1 := Lib.hid (HK.out w1 hb1)
              have b0 := HK1.out.1.cell 0
              have b1 := HK1.out.1.cell 1
              have b2 := HK1.out.1.cell 2
              have b3 := HK1.out.1.cell 3
              have b4 := HK1.out.1.cell 4
              have b5 := HK1.out.1.cell 5
              have b6 := HK1.out.1.cell 6
              have b7 := HK1.out.1.cell 7
              have b8 := HK1.out.1.cell 8
              simp only [List.getElem?_toArray, List.getElem?_cons_succ, List.getElem?_cons_zero] at b0 b1 b2 b3 b4 b5 b6 b7 b8
              clear hb1
              go_wp2
              go_end0
              rw [HN.out]
              exact HU.out.same ⟨_, rfl⟩ HK1.out.2
end Go.Proofs.Ytpihogkhfmijcaa
