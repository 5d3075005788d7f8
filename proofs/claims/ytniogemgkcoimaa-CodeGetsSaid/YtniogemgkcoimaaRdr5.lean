/- The document's reader: a number, a text, the end: as RS.get says. -/
import Derived.Test.YtniogemgkcoimaaRdr4
import Derived.Test.YtniogemgkcoimaaMeet
namespace Go.Proofs.Ytniogemgkcoimaa
open Go.RowKit
theorem RS.get_fault (s : RS) (k : Nat) (m : Int) (h : s.bad = true ∨ readPart k m s.l = none) : s.get k m = ((0, []), ⟨s.l, true⟩) := by
  obtain ⟨l, bad⟩ := s
  cases bad
  · rcases h with h | h
    · cases h
    · exact RS.get_none h
  · rfl
/-- what the document's reader's part leaves, of a number -/
def RNum (g : Nat) (w : World) (a : (Nat × List UInt8) × RS) (e : Ending) (w' : World) : Prop := e = .returned (.int .u64 (a.1.1 : Nat)) ∧ RefAt w' g a.2 ∧ Chg [g] w w'
/-- of a text -/
def RStr (g : Nat) (w : World) (a : (Nat × List UInt8) × RS) (e : Ending) (w' : World) : Prop := e = .returned (.string ⟨a.1.2.toArray⟩) ∧ RefAt w' g a.2 ∧ Chg [g] w w'
theorem num_cases {l : List UInt8} {x n : Nat} (h : Num l x n) : (n = 0 ∧ x = 0 ∧ readShort l = none) ∨ (0 < n ∧ n ≤ l.length ∧ x < 18446744073709551616 ∧ readShort l = some (x, l.drop n)) := by
  rcases h with ⟨h, rfl, rfl⟩ | ⟨t, h1, h2, h3, h4⟩
  · exact .inl ⟨rfl, rfl, h⟩
  · have hs := (short_length x).1
    refine .inr ⟨by omega, by rw [h3, List.length_append]; omega, h4, ?_⟩
    have : l.drop n = t := by rw [h3, h2, List.drop_left]
    rw [this]; exact h1
set_option maxRecDepth 100000 in
set_option maxHeartbeats 400000 in
theorem rUint (g : Nat) (s : RS) (m : Int) (w : World) (hr : RefAt w g s) (hl : s.l.length ≤ 1000000) :
    Calls Try.prog 21 #[.pointer (some ⟨g, 0, none⟩)] w (RNum g w (s.get 2 m)) := by
  have HR := Lib.hid hr
  clear hr
  go_enter Try.func21, Try.ntmps21
  go_wp2_with fail
  refine (rNumber g s w HR.out hl).mono ?_
  rintro e w1 ⟨⟨x, n, rfl, hnum⟩, hb⟩
  have HB := Lib.hid hb
  have HR1 := Lib.hid (HR.out.below hb (Nat.le_refl _))
  obtain ⟨v, hi, hby⟩ := HR1.out
  obtain ⟨l, bad⟩ := s
  dsimp only at *
  have HF : Hid (RefAt (w1.setCell ⟨g, 1, none⟩ (.bool true)) g ⟨l, true⟩ ∧ Chg [g] w (w1.setCell ⟨g, 1, none⟩ (.bool true))) := ⟨(hi.fault hby).1, (Chg.of_below hb (Nat.le_refl _)).trans (hi.fault hby).2⟩
  have c1 := hi.cell1
  have f1 := hi.free 1
  have HN := Lib.hid (num_cases hnum)
  clear hnum hb hi hby
  rcases HN.out with ⟨rfl, rfl, hno⟩ | ⟨hn0, hnl, hx, hsome⟩
  · have HG := Lib.hid (RS.get_fault ⟨l, bad⟩ 2 m (.inr (by simp [readPart, hno])))
    clear hno HN
    go_wp2
    go_ret
    unfold RNum
    rw [HG.out]
    exact ⟨rfl, HF.out⟩
  · cases bad
    · have HG : Hid (RS.get ⟨l, false⟩ 2 m = ((x, []), ⟨l.drop n, false⟩)) := RS.get_some (by simp [readPart, hsome])
      clear hsome HN HF hx
      go_wp2_with fail
      refine (rRaw_yes g n l w1 HR1.out hl hnl).mono ?_
      rintro e w2 ⟨v2, rfl, -, hr2, hc2⟩
      have HF : Hid (RefAt w2 g ⟨l.drop n, false⟩ ∧ Chg [g] w w2) := ⟨hr2, (Chg.of_below HB.out (Nat.le_refl _)).trans hc2⟩
      clear hr2 hc2
      go_wp2
      go_ret
      unfold RNum
      rw [HG.out]
      exact ⟨rfl, HF.out⟩
    · have HG := Lib.hid (RS.get_fault ⟨l, true⟩ 2 m (.inl rfl))
      clear hsome HN
      go_wp2
      go_ret
      unfold RNum
      rw [HG.out]
      exact ⟨rfl, HF.out⟩
theorem rEnd (g : Nat) (s : RS) (w : World) (hr : RefAt w g s) :
    Calls Try.prog 27 #[.pointer (some ⟨g, 0, none⟩)] w fun e w' => e = .returned (.bool s.end'.bad) ∧ RefAt w' g s.end' ∧ Chg [g] w w' := by
  have HR := Lib.hid hr
  obtain ⟨v, hi, hby⟩ := hr
  have HF := Lib.hid (hi.fault hby)
  have HC := Lib.hid (hi.set1 true).cell1
  obtain ⟨a, cap, rfl, _⟩ := hby.form
  have c0 := hi.cell0
  have c1 := hi.cell1
  have f1 := hi.free 1
  clear hi hby
  unfold RS.end'
  by_cases h : 0 < s.l.length
  · rw [if_pos h]
    go_enter Try.func27, Try.ntmps27
    go_wp2
    go_ret
    exact ⟨rfl, HF.out⟩
  · rw [if_neg h]
    go_enter Try.func27, Try.ntmps27
    go_wp2
    go_ret
    exact ⟨rfl, HR.out, Chg.refl _ _⟩
set_option maxRecDepth 100000 in
set_option maxHeartbeats 1000000 in
theorem rText (g : Nat) (s : RS) (m : Int) (w : World) (hm : -9223372036854775808 ≤ m ∧ m ≤ 9223372036854775807) (hr : RefAt w g s) (hl : s.l.length ≤ 1000000) :
    Calls Try.prog 22 #[.pointer (some ⟨g, 0, none⟩), .int .i64 m] w (RStr g w (s.get 3 m)) := by
  have HR := Lib.hid hr
  have HM := Lib.hid hm
  clear hr hm
  go_enter Try.func22, Try.ntmps22
  go_wp2_with fail
  refine (rNumber g s w HR.out hl).mono ?_
  rintro e w1 ⟨⟨x, n, rfl, hnum⟩, hb⟩
  have HB := Lib.hid hb
  have HR1 := Lib.hid (HR.out.below hb (Nat.le_refl _))
  obtain ⟨v, hi, hby⟩ := HR1.out
  obtain ⟨l, bad⟩ := s
  dsimp only at *
  have HF : Hid (RefAt (w1.setCell ⟨g, 1, none⟩ (.bool true)) g ⟨l, true⟩ ∧ Chg [g] w (w1.setCell ⟨g, 1, none⟩ (.bool true))) := ⟨(hi.fault hby).1, (Chg.of_below hb (Nat.le_refl _)).trans (hi.fault hby).2⟩
  have c0 := hi.cell0
  have c1 := hi.cell1
  have f1 := hi.free 1
  obtain ⟨a, cap, rfl, _⟩ := hby.form
  have HN := Lib.hid (num_cases hnum)
  clear hnum hb hi hby HR
  rcases HN.out with ⟨rfl, rfl, hno⟩ | ⟨hn0, hnl, hx, hsome⟩
  · have HG := Lib.hid (RS.get_fault ⟨l, bad⟩ 3 m (.inr (by simp [readPart, hno])))
    clear hno HN
    go_wp2
    go_ret
    unfold RStr
    rw [HG.out]
    exact ⟨rfl, HF.out⟩
  · have HS := Lib.hid hsome
    have HX := Lib.hid hx
    clear hsome hx HN
    cases bad
    · by_cases hm0 : m < 0
      · have HG := Lib.hid (RS.get_fault ⟨l, false⟩ 3 m (.inr (by simp only [readPart, HS.out]; rw [if_neg (by omega)])))
        go_wp2
        go_ret
        unfold RStr
        rw [HG.out]
        exact ⟨rfl, HF.out⟩
      · have hw1 : IntKind.u64.wrap m = m := by
          have := HM.out
          simp [IntKind.wrap, IntKind.bits, IntKind.signed]; omega
        have hw2 : IntKind.u64.wrap ((l.length : Int) - (n : Int)) = (l.length : Int) - (n : Int) := by
          simp [IntKind.wrap, IntKind.bits, IntKind.signed]; omega
        by_cases hxm : (x : Int) ≤ m
        · by_cases hxl : x ≤ l.length - n
          · have HG : Hid (RS.get ⟨l, false⟩ 3 m = ((0, (l.drop n).take x), ⟨(l.drop n).drop x, false⟩)) := RS.get_some (by simp only [readPart, HS.out]; rw [if_pos ⟨by omega, hxm, by simp; omega⟩])
            have hw3 : IntKind.i64.wrap (x : Int) = (x : Int) := by
              simp [IntKind.wrap, IntKind.bits, IntKind.signed]; omega
            have HXL : Hid (x ≤ (l.drop n).length) := by simp only [Hid, List.length_drop]; exact hxl
            clear HF
            have hd1 : ((n : Int) == 0) = false := by rw [beq_eq_false_iff_ne]; omega
            have hd2 : decide (m < (x : Int)) = false := decide_eq_false (by omega)
            have hd3 : decide ((l.length : Int) - (n : Int) < (x : Int)) = false := decide_eq_false (by omega)
            go_wp2_with fail
            refine (rRaw_yes g n l w1 HR1.out hl hnl).mono ?_
            rintro e w2 ⟨v2, rfl, -, hr2, hc2⟩
            have HR2 : Hid (RefAt w2 g ⟨l.drop n, false⟩ ∧ Chg [g] w w2) := ⟨hr2, (Chg.of_below HB.out (Nat.le_refl _)).trans hc2⟩
            clear hr2 hc2
            go_wp2_with fail
            refine (rRaw_yes g x (l.drop n) w2 HR2.out.1 (by simp; omega) HXL.out).mono ?_
            rintro e w3 ⟨v3, rfl, hb3, hr3, hc3⟩
            have hs3 := string_bytes hb3
            have HF : Hid (RefAt w3 g ⟨(l.drop n).drop x, false⟩ ∧ Chg [g] w w3) := ⟨hr3, HR2.out.2.trans hc3⟩
            clear hr3 hc3 hb3
            go_wp2
            go_ret
            unfold RStr
            rw [HG.out]
            exact ⟨rfl, HF.out⟩
          · have HG := Lib.hid (RS.get_fault ⟨l, false⟩ 3 m (.inr (by simp only [readPart, HS.out]; rw [if_neg (by simp; omega)])))
            go_wp2
            go_ret
            unfold RStr
            rw [HG.out]
            exact ⟨rfl, HF.out⟩
        · have HG := Lib.hid (RS.get_fault ⟨l, false⟩ 3 m (.inr (by simp only [readPart, HS.out]; rw [if_neg (by omega)])))
          go_wp2
          go_ret
          unfold RStr
          rw [HG.out]
          exact ⟨rfl, HF.out⟩
    · have HG := Lib.hid (RS.get_fault ⟨l, true⟩ 3 m (.inl rfl))
      go_wp2
      go_ret
      unfold RStr
      rw [HG.out]
      exact ⟨rfl, HF.out⟩
end Go.Proofs.Ytniogemgkcoimaa
