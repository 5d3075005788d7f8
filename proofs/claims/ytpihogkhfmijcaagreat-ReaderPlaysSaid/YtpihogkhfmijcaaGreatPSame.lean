/- The program's Same of fetches. -/
import Derived.Test.YtpihogkhfmijcaaGreatFSame
namespace Go.Proofs.YtpihogkhfmijcaaGreat
open Go.RowKit Go.Maps Go.Shelf
set_option linter.unusedSimpArgs false
set_option maxRecDepth 100000 in
theorem bequal_any (a : Option Addr) (c : Nat) (b : Option Addr) (d : Nat) (l m : List Int) (w : World) (hl : BsAt w (.slice a l.length c) l) (hm : BsAt w (.slice b m.length d) m) :
    Calls Tryz.prog 37 #[.slice a l.length c, .slice b m.length d] w fun e w' => e = .returned (.bool (decide (l = m))) ∧ Below w.heap.size w w' := by
  have s1 := bs_str hl
  have s2 := bs_str hm
  by_cases h : l = m
  · have d8 : ((strOfNums l).toList == (strOfNums m).toList) = true := by rw [h]; simp
    have HD := Lib.hid (show decide (l = m) = true from decide_eq_true h)
    clear h hl hm
    go_enter Tryz.func37, Tryz.ntmps37
    go_wp2
    go_ret
    exact ⟨by rw [HD.out]; rfl, Below.refl _ _⟩
  · have d8 : ((strOfNums l).toList == (strOfNums m).toList) = false := beq_eq_false_iff_ne.2 (fun e => h (str_inj hl.each hm.each (by rw [ByteArray.toList_eq, ByteArray.toList_eq, strOfNums_data, strOfNums_data] at e; exact e)))
    have HD := Lib.hid (show decide (l = m) = false from decide_eq_false h)
    clear h hl hm
    go_enter Tryz.func37, Tryz.ntmps37
    go_wp2
    go_ret
    exact ⟨by rw [HD.out]; rfl, Below.refl _ _⟩
set_option maxRecDepth 100000 in
set_option maxHeartbeats 8000000 in
theorem psame_any (x y : FeV) (w : World) (hx : x.ok w) (hy : y.ok w) :
    Calls Tryz.prog 17 #[x.val, y.val] w fun e w' => SamePost x y w e w' := by
  have HB := Lib.hid (Go.Joins.below_alloc2 w (.cells x.cs.toArray 32) (.cells y.cs.toArray 32))
  have HSM := Lib.hid (equal_any (.slice x.sa x.set.length x.sc) (.slice y.sa y.set.length y.sc) x.set y.set _ (hx.st.below HB.out) (hy.st.below HB.out))
  have HBD := Lib.hid (And.intro hx.bd hy.bd)
  have HBX := Lib.hid (fun Z (hZ : Below ((w.alloc (.cells x.cs.toArray 32)).alloc (.cells y.cs.toArray 32)).heap.size ((w.alloc (.cells x.cs.toArray 32)).alloc (.cells y.cs.toArray 32)) Z) => And.intro (((BoxC.new w 32 x.cs.toArray).alloc (.cells y.cs.toArray 32)).below hZ) ((by have := BoxC.new (w.alloc (.cells x.cs.toArray 32)) 32 y.cs.toArray; rw [World.size_alloc] at this; exact this.below hZ : BoxC Z (w.heap.size + 1) 32 y.cs.toArray)))
  have HEX := Lib.hid (show x.m = y.m ↔ (x.id = y.id ∧ x.n = y.n ∧ x.set = y.set ∧ x.at' = y.at' ∧ x.since = y.since ∧ x.tag = y.tag ∧ x.done = y.done ∧ x.body = y.body) from by unfold FeV.m; rw [FeM.mk.injEq])
  unfold FeV.cs at HB HSM
  clear hx hy
  by_cases h0 : x.id = y.id
  · have d0 : (x.id == y.id) = true := by simpa using h0
    have e0 : decide (x.id = y.id) = true := decide_eq_true h0
    have H0 := Lib.hid h0
    clear h0
    by_cases h1 : x.n = y.n
    · have d1 : (x.n == y.n) = true := by simpa using h1
      have e1 : decide (x.n = y.n) = true := decide_eq_true h1
      have H1 := Lib.hid h1
      clear h1
      by_cases h2 : x.set = y.set
      · rw [decide_eq_true h2] at HSM
        have H2 := Lib.hid h2
        clear h2
        by_cases h3 : x.at' = y.at'
        · have d3 : (x.at' == y.at') = true := by simpa using h3
          have e3 : decide (x.at' = y.at') = true := decide_eq_true h3
          have H3 := Lib.hid h3
          clear h3
          by_cases h4 : x.since = y.since
          · have d4 : (x.since == y.since) = true := by simpa using h4
            have e4 : decide (x.since = y.since) = true := decide_eq_true h4
            have H4 := Lib.hid h4
            clear h4
            by_cases h5 : x.tag = y.tag
            · have d5 : (x.tag == y.tag) = true := by simpa using h5
              have e5 : decide (x.tag = y.tag) = true := decide_eq_true h5
              have H5 := Lib.hid h5
              clear h5
              by_cases h6 : x.done = y.done
              · have d6 : (x.done == y.done) = true := by simpa using h6
                have e6 : decide (x.done = y.done) = true := decide_eq_true h6
                have H6 := Lib.hid h6
                clear h6
                have HEQ := Lib.hid (fun Z (hZ : Below w.heap.size w Z) => bequal_any x.ba x.bc y.ba y.bc x.body y.body Z (HBD.out.1.below hZ) (HBD.out.2.below hZ))
                go_enter Tryz.func17, Tryz.ntmps17
                go_wp2_with fail
                refine HSM.out.mono ?_
                rintro e w1 ⟨rfl, hb1⟩
                obtain ⟨hX, hY⟩ := HBX.out w1 hb1
                have HB1 := Lib.hid (HB.out.trans (hb1.mono HB.out.size))
                obtain ⟨-, -, -, a3, a4, a5, a6, a7⟩ := FeV.c8 hX
                obtain ⟨-, -, -, b3, b4, b5, b6, b7⟩ := FeV.c8 hY
                clear hX hY hb1
                have HEQ1 := Lib.hid (HEQ.out w1 HB1.out)
                clear HEQ
                go_wp2_with fail
                refine HEQ1.out.mono ?_
                rintro e w2 ⟨rfl, hb2⟩
                have HB2 := Lib.hid (HB1.out.trans (hb2.mono HB1.out.size))
                clear hb2
                go_wp2
                go_ret
                exact ⟨decide (x.body = y.body), rfl, ⟨fun h => HEX.out.2 ⟨H0.out, H1.out, H2.out, H3.out, H4.out, H5.out, H6.out, of_decide_eq_true h⟩, fun h => decide_eq_true (HEX.out.1 h).2.2.2.2.2.2.2⟩, HB2.out⟩
              · have d6 : (x.done == y.done) = false := by simpa using h6
                have e6 : decide (x.done = y.done) = false := decide_eq_false h6
                have H6 := Lib.hid h6
                clear h6
                go_enter Tryz.func17, Tryz.ntmps17
                go_wp2_with fail
                refine HSM.out.mono ?_
                rintro e w1 ⟨rfl, hb1⟩
                obtain ⟨hX, hY⟩ := HBX.out w1 hb1
                have HB1 := Lib.hid (HB.out.trans (hb1.mono HB.out.size))
                obtain ⟨-, -, -, a3, a4, a5, a6, a7⟩ := FeV.c8 hX
                obtain ⟨-, -, -, b3, b4, b5, b6, b7⟩ := FeV.c8 hY
                clear hX hY hb1
                go_wp2
                go_ret
                exact ⟨false, rfl, ⟨fun h => (by cases h), fun h => absurd (HEX.out.1 h).2.2.2.2.2.2.1 H6.out⟩, HB1.out⟩
            · have d5 : (x.tag == y.tag) = false := by simpa using h5
              have e5 : decide (x.tag = y.tag) = false := decide_eq_false h5
              have H5 := Lib.hid h5
              clear h5
              go_enter Tryz.func17, Tryz.ntmps17
              go_wp2_with fail
              refine HSM.out.mono ?_
              rintro e w1 ⟨rfl, hb1⟩
              obtain ⟨hX, hY⟩ := HBX.out w1 hb1
              have HB1 := Lib.hid (HB.out.trans (hb1.mono HB.out.size))
              obtain ⟨-, -, -, a3, a4, a5, a6, a7⟩ := FeV.c8 hX
              obtain ⟨-, -, -, b3, b4, b5, b6, b7⟩ := FeV.c8 hY
              clear hX hY hb1
              go_wp2
              go_ret
              exact ⟨false, rfl, ⟨fun h => (by cases h), fun h => absurd (HEX.out.1 h).2.2.2.2.2.1 H5.out⟩, HB1.out⟩
          · have d4 : (x.since == y.since) = false := by simpa using h4
            have e4 : decide (x.since = y.since) = false := decide_eq_false h4
            have H4 := Lib.hid h4
            clear h4
            go_enter Tryz.func17, Tryz.ntmps17
            go_wp2_with fail
            refine HSM.out.mono ?_
            rintro e w1 ⟨rfl, hb1⟩
            obtain ⟨hX, hY⟩ := HBX.out w1 hb1
            have HB1 := Lib.hid (HB.out.trans (hb1.mono HB.out.size))
            obtain ⟨-, -, -, a3, a4, a5, a6, a7⟩ := FeV.c8 hX
            obtain ⟨-, -, -, b3, b4, b5, b6, b7⟩ := FeV.c8 hY
            clear hX hY hb1
            go_wp2
            go_ret
            exact ⟨false, rfl, ⟨fun h => (by cases h), fun h => absurd (HEX.out.1 h).2.2.2.2.1 H4.out⟩, HB1.out⟩
        · have d3 : (x.at' == y.at') = false := by simpa using h3
          have e3 : decide (x.at' = y.at') = false := decide_eq_false h3
          have H3 := Lib.hid h3
          clear h3
          go_enter Tryz.func17, Tryz.ntmps17
          go_wp2_with fail
          refine HSM.out.mono ?_
          rintro e w1 ⟨rfl, hb1⟩
          obtain ⟨hX, hY⟩ := HBX.out w1 hb1
          have HB1 := Lib.hid (HB.out.trans (hb1.mono HB.out.size))
          obtain ⟨-, -, -, a3, a4, a5, a6, a7⟩ := FeV.c8 hX
          obtain ⟨-, -, -, b3, b4, b5, b6, b7⟩ := FeV.c8 hY
          clear hX hY hb1
          go_wp2
          go_ret
          exact ⟨false, rfl, ⟨fun h => (by cases h), fun h => absurd (HEX.out.1 h).2.2.2.1 H3.out⟩, HB1.out⟩
      · rw [decide_eq_false h2] at HSM
        have H2 := Lib.hid h2
        clear h2
        go_enter Tryz.func17, Tryz.ntmps17
        go_wp2_with fail
        refine HSM.out.mono ?_
        rintro e w1 ⟨rfl, hb1⟩
        obtain ⟨hX, hY⟩ := HBX.out w1 hb1
        have HB1 := Lib.hid (HB.out.trans (hb1.mono HB.out.size))
        obtain ⟨-, -, -, a3, a4, a5, a6, a7⟩ := FeV.c8 hX
        obtain ⟨-, -, -, b3, b4, b5, b6, b7⟩ := FeV.c8 hY
        clear hX hY hb1
        go_wp2
        go_ret
        exact ⟨false, rfl, ⟨fun h => (by cases h), fun h => absurd (HEX.out.1 h).2.2.1 H2.out⟩, HB1.out⟩
    · have d1 : (x.n == y.n) = false := by simpa using h1
      have e1 : decide (x.n = y.n) = false := decide_eq_false h1
      have H1 := Lib.hid h1
      clear h1
      go_enter Tryz.func17, Tryz.ntmps17
      go_wp2
      go_ret
      exact ⟨false, rfl, ⟨fun h => (by cases h), fun h => absurd (HEX.out.1 h).2.1 H1.out⟩, HB.out⟩
  · have d0 : (x.id == y.id) = false := by simpa using h0
    have e0 : decide (x.id = y.id) = false := decide_eq_false h0
    have H0 := Lib.hid h0
    clear h0
    go_enter Tryz.func17, Tryz.ntmps17
    go_wp2
    go_ret
    exact ⟨false, rfl, ⟨fun h => (by cases h), fun h => absurd (HEX.out.1 h).1 H0.out⟩, HB.out⟩
end Go.Proofs.YtpihogkhfmijcaaGreat
