/- The document's Same of fetches. -/
import Derived.Test.YtpihogkhfmijcaaGreatPg
import Derived.Laws.BytesArg
import Derived.Shelf.Bytes.SlSmallAll
namespace Go.Proofs.YtpihogkhfmijcaaGreat
open Go.RowKit Go.Maps Go.Shelf
set_option linter.unusedSimpArgs false
theorem bs_str {W : World} {a : Option Addr} {c : Nat} {l : List Int} (h : BsAt W (.slice a l.length c) l) : (convert 30 9 (.slice a l.length c)).run Tryz.prog W = .ok (.string (strOfNums l)) W := by
  rcases Nat.eq_zero_or_pos l.length with h0 | hpos
  · obtain rfl : l = [] := List.eq_nil_of_length_eq_zero h0
    have hn : strOfNums [] = ByteArray.empty := rfl
    rw [hn]
    exact run_convert_bytes_zero W 30 5 Tryz.underlying30 Tryz.underlying5 a c 9 Tryz.underlying9
  · obtain ⟨a', cap, hv, -, -, -, hc⟩ := h
    cases hv
    obtain ⟨b, off, rfl, hb, hc⟩ := hc hpos
    refine run_convert_bytes_arg W 30 5 Tryz.underlying30 Tryz.underlying5 b off l.length c l rfl (fun i hi => ?_) 9 Tryz.underlying9
    have := (hc i (l[i]) (List.getElem?_eq_getElem hi)).2 0 (by omega)
    rw [Nat.mul_one, Nat.add_zero] at this
    rw [this]
    simp [byC, List.getD, hi]
theorem str_inj : ∀ {l m : List Int}, (∀ x ∈ l, 0 ≤ x ∧ x ≤ 255) → (∀ x ∈ m, 0 ≤ x ∧ x ≤ 255) → (l.map fun n => UInt8.ofNat n.toNat) = (m.map fun n => UInt8.ofNat n.toNat) → l = m
  | [], [], _, _, _ => rfl
  | [], _ :: _, _, _, h => by cases h
  | _ :: _, [], _, _, h => by cases h
  | x :: l, y :: m, hl, hm, h => by
    rw [List.map_cons, List.map_cons] at h
    injection h with h1 h2
    have hx := hl x List.mem_cons_self
    have hy := hm y List.mem_cons_self
    have h3 := congrArg UInt8.toNat h1
    simp only [UInt8.toNat_ofNat'] at h3
    have e : x = y := by omega
    rw [e, str_inj (fun z hz => hl z (List.mem_cons_of_mem _ hz)) (fun z hz => hm z (List.mem_cons_of_mem _ hz)) h2]
theorem strNums_inj {l m : List Int} (hl : ∀ x ∈ l, 0 ≤ x ∧ x ≤ 255) (hm : ∀ x ∈ m, 0 ≤ x ∧ x ≤ 255) (h : strOfNums l = strOfNums m) : l = m := by
  refine str_inj hl hm ?_
  have := congrArg (fun s : ByteArray => s.data.toList) h
  simpa only [strOfNums_data] using this
def SamePost (x y : FeV) (w : World) (e : Ending) (w' : World) : Prop := ∃ R : Bool, e = .returned (.bool R) ∧ (R = true ↔ x.m = y.m) ∧ Below w.heap.size w w'
set_option maxRecDepth 100000 in
set_option maxHeartbeats 8000000 in
theorem fsame_any (x y : FeV) (w : World) (hx : x.ok w) (hy : y.ok w) :
    Calls Tryz.prog 9 #[x.val, y.val] w fun e w' => SamePost x y w e w' := by
  have HB := Lib.hid (Go.Joins.below_alloc2 w (.cells x.cs.toArray 32) (.cells y.cs.toArray 32))
  have HSM := Lib.hid (rsame_any (.slice x.sa x.set.length x.sc) (.slice y.sa y.set.length y.sc) x.set y.set _ (hx.st.below HB.out) (hy.st.below HB.out))
  have HS1 := Lib.hid (fun Z (hZ : Below w.heap.size w Z) => bs_str (hx.bd.below hZ))
  have HS2 := Lib.hid (fun Z (hZ : Below w.heap.size w Z) => bs_str (hy.bd.below hZ))
  have HBY := Lib.hid (And.intro hx.bd.each hy.bd.each)
  have HBX := Lib.hid (fun Z (hZ : Below ((w.alloc (.cells x.cs.toArray 32)).alloc (.cells y.cs.toArray 32)).heap.size ((w.alloc (.cells x.cs.toArray 32)).alloc (.cells y.cs.toArray 32)) Z) => And.intro (((BoxC.new w 32 x.cs.toArray).alloc (.cells y.cs.toArray 32)).below hZ) ((by have := BoxC.new (w.alloc (.cells x.cs.toArray 32)) 32 y.cs.toArray; rw [World.size_alloc] at this; exact this.below hZ : BoxC Z (w.heap.size + 1) 32 y.cs.toArray)))
  have HEX := Lib.hid (show x.m = y.m ↔ (x.id = y.id ∧ x.n = y.n ∧ x.set = y.set ∧ x.at' = y.at' ∧ x.since = y.since ∧ x.tag = y.tag ∧ x.done = y.done ∧ x.body = y.body) from by unfold FeV.m; rw [FeM.mk.injEq])
  unfold FeV.cs at HB HSM
  clear hx hy
  by_cases h0 : x.id = y.id
  · have d0 : (x.id == y.id) = true := by simpa using h0
    have e0 : decide (x.id = y.id) = true := decide_eq_true h0
    have H0 := Lib.hid h0
    clear h0
    by_cases h1 : x.n = y.n
    · have d1 : (x.n == y.n) = true := by simpa using h1
      have e1 : decide (x.n = y.n) = true := decide_eq_true h1
      have H1 := Lib.hid h1
      clear h1
      by_cases h2 : x.set = y.set
      · rw [decide_eq_true h2] at HSM
        have H2 := Lib.hid h2
        clear h2
        by_cases h3 : x.at' = y.at'
        · have d3 : (x.at' == y.at') = true := by simpa using h3
          have e3 : decide (x.at' = y.at') = true := decide_eq_true h3
          have H3 := Lib.hid h3
          clear h3
          by_cases h4 : x.since = y.since
          · have d4 : (x.since == y.since) = true := by simpa using h4
            have e4 : decide (x.since = y.since) = true := decide_eq_true h4
            have H4 := Lib.hid h4
            clear h4
            by_cases h5 : x.tag = y.tag
            · have d5 : (x.tag == y.tag) = true := by simpa using h5
              have e5 : decide (x.tag = y.tag) = true := decide_eq_true h5
              have H5 := Lib.hid h5
              clear h5
              by_cases h6 : x.done = y.done
              · have d6 : (x.done == y.done) = true := by simpa using h6
                have e6 : decide (x.done = y.done) = true := decide_eq_true h6
                have H6 := Lib.hid h6
                clear h6
                by_cases h7 : x.body = y.body
                · have d7 : strOfNums x.body = strOfNums y.body := congrArg strOfNums h7
                  have d8 : ((strOfNums x.body).toList == (strOfNums y.body).toList) = true := by rw [d7]; simp
                  have H7 := Lib.hid h7
                  clear h7 d7
                  go_enter Tryz.func9, Tryz.ntmps9
                  go_wp2_with fail
                  refine HSM.out.mono ?_
                  rintro e w1 ⟨rfl, hb1⟩
                  obtain ⟨hX, hY⟩ := HBX.out w1 hb1
                  have HB1 := Lib.hid (HB.out.trans (hb1.mono HB.out.size))
                  obtain ⟨-, -, -, a3, a4, a5, a6, a7⟩ := FeV.c8 hX
                  obtain ⟨-, -, -, b3, b4, b5, b6, b7⟩ := FeV.c8 hY
                  have s1 := HS1.out w1 HB1.out
                  have s2 := HS2.out w1 HB1.out
                  clear hX hY hb1
                  go_wp2
                  go_ret
                  exact ⟨true, rfl, ⟨fun _ => HEX.out.2 ⟨H0.out, H1.out, H2.out, H3.out, H4.out, H5.out, H6.out, H7.out⟩, fun _ => rfl⟩, HB1.out⟩
                · have d8 : ((strOfNums x.body).toList == (strOfNums y.body).toList) = false := beq_eq_false_iff_ne.2 (fun h => h7 (str_inj HBY.out.1 HBY.out.2 (by rw [ByteArray.toList_eq, ByteArray.toList_eq, strOfNums_data, strOfNums_data] at h; exact h)))
                  have H7 := Lib.hid h7
                  clear h7
                  go_enter Tryz.func9, Tryz.ntmps9
                  go_wp2_with fail
                  refine HSM.out.mono ?_
                  rintro e w1 ⟨rfl, hb1⟩
                  obtain ⟨hX, hY⟩ := HBX.out w1 hb1
                  have HB1 := Lib.hid (HB.out.trans (hb1.mono HB.out.size))
                  obtain ⟨-, -, -, a3, a4, a5, a6, a7⟩ := FeV.c8 hX
                  obtain ⟨-, -, -, b3, b4, b5, b6, b7⟩ := FeV.c8 hY
                  have s1 := HS1.out w1 HB1.out
                  have s2 := HS2.out w1 HB1.out
                  clear hX hY hb1
                  go_wp2
                  go_ret
                  exact ⟨false, rfl, ⟨fun h => (by cases h), fun h => absurd (HEX.out.1 h).2.2.2.2.2.2.2 H7.out⟩, HB1.out⟩
              · have d6 : (x.done == y.done) = false := by simpa using h6
                have e6 : decide (x.done = y.done) = false := decide_eq_false h6
                have H6 := Lib.hid h6
                clear h6
                go_enter Tryz.func9, Tryz.ntmps9
                go_wp2_with fail
                refine HSM.out.mono ?_
                rintro e w1 ⟨rfl, hb1⟩
                obtain ⟨hX, hY⟩ := HBX.out w1 hb1
                have HB1 := Lib.hid (HB.out.trans (hb1.mono HB.out.size))
                obtain ⟨-, -, -, a3, a4, a5, a6, a7⟩ := FeV.c8 hX
                obtain ⟨-, -, -, b3, b4, b5, b6, b7⟩ := FeV.c8 hY
                have s1 := HS1.out w1 HB1.out
                have s2 := HS2.out w1 HB1.out
                clear hX hY hb1
                go_wp2
                go_ret
                exact ⟨false, rfl, ⟨fun h => (by cases h), fun h => absurd (HEX.out.1 h).2.2.2.2.2.2.1 H6.out⟩, HB1.out⟩
            · have d5 : (x.tag == y.tag) = false := by simpa using h5
              have e5 : decide (x.tag = y.tag) = false := decide_eq_false h5
              have H5 := Lib.hid h5
              clear h5
              go_enter Tryz.func9, Tryz.ntmps9
              go_wp2_with fail
              refine HSM.out.mono ?_
              rintro e w1 ⟨rfl, hb1⟩
              obtain ⟨hX, hY⟩ := HBX.out w1 hb1
              have HB1 := Lib.hid (HB.out.trans (hb1.mono HB.out.size))
              obtain ⟨-, -, -, a3, a4, a5, a6, a7⟩ := FeV.c8 hX
              obtain ⟨-, -, -, b3, b4, b5, b6, b7⟩ := FeV.c8 hY
              have s1 := HS1.out w1 HB1.out
              have s2 := HS2.out w1 HB1.out
              clear hX hY hb1
              go_wp2
              go_ret
              exact ⟨false, rfl, ⟨fun h => (by cases h), fun h => absurd (HEX.out.1 h).2.2.2.2.2.1 H5.out⟩, HB1.out⟩
          · have d4 : (x.since == y.since) = false := by simpa using h4
            have e4 : decide (x.since = y.since) = false := decide_eq_false h4
            have H4 := Lib.hid h4
            clear h4
            go_enter Tryz.func9, Tryz.ntmps9
            go_wp2_with fail
            refine HSM.out.mono ?_
            rintro e w1 ⟨rfl, hb1⟩
            obtain ⟨hX, hY⟩ := HBX.out w1 hb1
            have HB1 := Lib.hid (HB.out.trans (hb1.mono HB.out.size))
            obtain ⟨-, -, -, a3, a4, a5, a6, a7⟩ := FeV.c8 hX
            obtain ⟨-, -, -, b3, b4, b5, b6, b7⟩ := FeV.c8 hY
            have s1 := HS1.out w1 HB1.out
            have s2 := HS2.out w1 HB1.out
            clear hX hY hb1
            go_wp2
            go_ret
            exact ⟨false, rfl, ⟨fun h => (by cases h), fun h => absurd (HEX.out.1 h).2.2.2.2.1 H4.out⟩, HB1.out⟩
        · have d3 : (x.at' == y.at') = false := by simpa using h3
          have e3 : decide (x.at' = y.at') = false := decide_eq_false h3
          have H3 := Lib.hid h3
          clear h3
          go_enter Tryz.func9, Tryz.ntmps9
          go_wp2_with fail
          refine HSM.out.mono ?_
          rintro e w1 ⟨rfl, hb1⟩
          obtain ⟨hX, hY⟩ := HBX.out w1 hb1
          have HB1 := Lib.hid (HB.out.trans (hb1.mono HB.out.size))
          obtain ⟨-, -, -, a3, a4, a5, a6, a7⟩ := FeV.c8 hX
          obtain ⟨-, -, -, b3, b4, b5, b6, b7⟩ := FeV.c8 hY
          have s1 := HS1.out w1 HB1.out
          have s2 := HS2.out w1 HB1.out
          clear hX hY hb1
          go_wp2
          go_ret
          exact ⟨false, rfl, ⟨fun h => (by cases h), fun h => absurd (HEX.out.1 h).2.2.2.1 H3.out⟩, HB1.out⟩
      · rw [decide_eq_false h2] at HSM
        have H2 := Lib.hid h2
        clear h2
        go_enter Tryz.func9, Tryz.ntmps9
        go_wp2_with fail
        refine HSM.out.mono ?_
        rintro e w1 ⟨rfl, hb1⟩
        obtain ⟨hX, hY⟩ := HBX.out w1 hb1
        have HB1 := Lib.hid (HB.out.trans (hb1.mono HB.out.size))
        obtain ⟨-, -, -, a3, a4, a5, a6, a7⟩ := FeV.c8 hX
        obtain ⟨-, -, -, b3, b4, b5, b6, b7⟩ := FeV.c8 hY
        have s1 := HS1.out w1 HB1.out
        have s2 := HS2.out w1 HB1.out
        clear hX hY hb1
        go_wp2
        go_ret
        exact ⟨false, rfl, ⟨fun h => (by cases h), fun h => absurd (HEX.out.1 h).2.2.1 H2.out⟩, HB1.out⟩
    · have d1 : (x.n == y.n) = false := by simpa using h1
      have e1 : decide (x.n = y.n) = false := decide_eq_false h1
      have H1 := Lib.hid h1
      clear h1
      go_enter Tryz.func9, Tryz.ntmps9
      go_wp2
      go_ret
      exact ⟨false, rfl, ⟨fun h => (by cases h), fun h => absurd (HEX.out.1 h).2.1 H1.out⟩, HB.out⟩
  · have d0 : (x.id == y.id) = false := by simpa using h0
    have e0 : decide (x.id = y.id) = false := decide_eq_false h0
    have H0 := Lib.hid h0
    clear h0
    go_enter Tryz.func9, Tryz.ntmps9
    go_wp2
    go_ret
    exact ⟨false, rfl, ⟨fun h => (by cases h), fun h => absurd (HEX.out.1 h).1 H0.out⟩, HB.out⟩
end Go.Proofs.YtpihogkhfmijcaaGreat
