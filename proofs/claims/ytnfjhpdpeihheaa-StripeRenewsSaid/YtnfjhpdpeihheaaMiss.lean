/- Acked, missing, Missing; the document's. -/
import Derived.Test.YtnfjhpdpeihheaaAmongR
namespace Go.Proofs.Ytnfjhpdpeihheaa
open Go.RowKit Go.Maps Go.Shelf
def ackedB (p : PL → Bool) (set : List PL) (a : Int) : Bool := decide (1 ≤ a) && decide (a ≤ (hits p set : Int))
def missB (p : PL → Bool) (set : List PL) (w a : Int) : Bool := decide (w < a) || decide (w - a < (hits p set : Int))
theorem wrapu (x : Int) : IntKind.u64.wrap x = x % 18446744073709551616 := by
  simp [IntKind.wrap, IntKind.bits, IntKind.signed]
theorem hits_small (p : PL → Bool) (set : List PL) (h : set.length ≤ 100000) : hits p set ≤ 100000 := Nat.le_trans (hits_le p set) h
set_option maxRecDepth 100000 in
theorem racked_any (v u : Value) (l m : List PL) (a : Int) (w : World) (hp : PsAt w v l) (hq : PsAt w u m) (hl : l.length ≤ 100000) (hm : m.length ≤ 100000) :
    Calls Try.prog 13 #[v, .int .i64 a, u] w fun e w' => e = .returned (.bool (ackedB m.contains l a)) ∧ Below w.heap.size w w' := by
  have HA := Lib.hid (ramong_any v u l m w hp hq hl hm)
  have hh := hits_small m.contains l hl
  have HB := Lib.hid (Below.refl w.heap.size w)
  unfold ackedB
  generalize hits m.contains l = n at HA hh
  clear hp hq
  by_cases h : 0 < a
  · have e1 : decide (1 ≤ a) = true := by simp; omega
    rw [e1]
    have HE := Lib.hid e1
    clear e1
    go_enter Try.func13, Try.ntmps13
    go_wp2_with fail
    refine HA.out.mono ?_
    rintro e w1 ⟨rfl, hb⟩
    have HB1 := Lib.hid hb
    clear hb
    go_wp2
    go_ret
    exact ⟨by simp, HB1.out⟩
  · have e1 : decide (1 ≤ a) = false := by simp; omega
    rw [e1]
    have HE := Lib.hid e1
    clear e1
    go_enter Try.func13, Try.ntmps13
    go_wp2
    go_ret
    exact ⟨by simp, HB.out⟩
set_option maxRecDepth 100000 in
theorem rmiss_any (v u : Value) (l m : List PL) (x a : Int) (w : World) (hp : PsAt w v l) (hq : PsAt w u m) (hl : l.length ≤ 100000) (hm : m.length ≤ 100000) (hx : -1000000 ≤ x ∧ x ≤ 1000000) (ha : -1000000 ≤ a ∧ a ≤ 1000000) :
    Calls Try.prog 15 #[v, .int .i64 x, .int .i64 a, u] w fun e w' => e = .returned (.bool (missB m.contains l x a)) ∧ Below w.heap.size w w' := by
  have HA := Lib.hid (ramong_any v u l m w hp hq hl hm)
  have hh := hits_small m.contains l hl
  have HB := Lib.hid (Below.refl w.heap.size w)
  unfold missB
  generalize hits m.contains l = n at HA hh
  clear hp hq
  by_cases h : x < a
  · go_enter Try.func15, Try.ntmps15
    go_wp2
    go_ret
    exact ⟨by simp [h], HB.out⟩
  · have hw : wrap64 (x - a) = x - a := by unfold wrap64; omega
    have hd : decide (x < a) = false := by simp; omega
    go_enter Try.func15, Try.ntmps15
    go_wp2_with fail
    refine HA.out.mono ?_
    rintro e w1 ⟨rfl, hb⟩
    have HB1 := Lib.hid hb
    clear hb
    go_wp2
    go_ret
    exact ⟨by simp [hd], HB1.out⟩
set_option maxRecDepth 100000 in
theorem miss_any (v : Value) (l : List PL) (x a : Int) (f : Nat) (c : Value) (p : PL → Bool) (w : World) (hp : PsAt w v l) (hl : l.length ≤ 100000) (hq : AsksAt w f c p) (hx : -1000000 ≤ x ∧ x ≤ 1000000) (ha : -1000000 ≤ a ∧ a ≤ 1000000) :
    Calls Try.prog 36 #[v, .int .i64 x, .int .i64 a, .func (.func f) #[] #[c]] w fun e w' => e = .returned (.bool (missB p l x a)) ∧ Below w.heap.size w w' := by
  have HA := Lib.hid (count_any v l f c p w hp hl hq)
  have hh := hits_small p l hl
  have HB := Lib.hid (Below.refl w.heap.size w)
  unfold missB
  generalize hits p l = n at HA hh
  clear hp hq
  by_cases h : x < a
  · go_enter Try.func36, Try.ntmps36
    go_wp2
    go_ret
    exact ⟨by simp [h], HB.out⟩
  · have hd : decide (x < a) = false := by simp; omega
    have hw : IntKind.u64.wrap (IntKind.u64.wrap x - IntKind.u64.wrap a) = x - a := by
      rw [wrapu, wrapu, wrapu]
      omega
    go_enter Try.func36, Try.ntmps36
    go_wp2_with fail
    refine HA.out.mono ?_
    rintro e w1 ⟨rfl, hb⟩
    have HB1 := Lib.hid hb
    clear hb
    go_wp2
    go_ret
    exact ⟨by simp [hd], HB1.out⟩
theorem AmongAt.of {w w' : World} {l : List PL} (h : w'.cell? ⟨w.heap.size + 1, 0, none⟩ = some (.map (some w.heap.size)) ∧ w.heap.size + 1 < w'.heap.size ∧ TimesAt w' w.heap.size l ∧ Below w.heap.size w w') : AmongAt w' (w.heap.size + 1) w.heap.size l :=
  ⟨h.2.1, h.1, h.2.2.1⟩
set_option maxRecDepth 100000 in
theorem missing_any (v u : Value) (l m : List PL) (x a : Int) (w : World) (hp : PsAt w v l) (hq : PsAt w u m) (hl : l.length ≤ 100000) (hm : m.length ≤ 100000) (hx : -1000000 ≤ x ∧ x ≤ 1000000) (ha : -1000000 ≤ a ∧ a ≤ 1000000) :
    Calls Try.prog 14 #[v, .int .i64 x, .int .i64 a, u] w fun e w' => e = .returned (.bool (missB m.contains l x a)) ∧ Below w.heap.size w w' := by
  have HA := Lib.hid (among_any u m w hq hm)
  have HX := Lib.hid (fun w1 (hb : Below w.heap.size w w1) (h1 : AmongAt w1 (w.heap.size + 1) w.heap.size m) => miss_any v l x a 53 (.pointer (some ⟨w.heap.size + 1, 0, none⟩)) m.contains w1 (hp.below hb) hl h1.asks hx ha)
  clear hp hq hx ha
  go_enter Try.func14, Try.ntmps14
  go_wp2_with fail
  refine HA.out.mono ?_
  rintro e w1 ⟨rfl, hr⟩
  have HM := Lib.hid (HX.out w1 hr.2.2.2 (AmongAt.of hr))
  have HB := Lib.hid hr.2.2.2
  clear hr
  go_wp2_with fail
  refine HM.out.mono ?_
  rintro e w2 ⟨rfl, hb⟩
  have HB2 := Lib.hid (HB.out.trans (hb.mono HB.out.size))
  clear hb
  go_wp2
  go_ret
  exact ⟨rfl, HB2.out⟩
set_option maxRecDepth 100000 in
theorem acked_any (v u : Value) (l m : List PL) (a : Int) (w : World) (hp : PsAt w v l) (hq : PsAt w u m) (hl : l.length ≤ 100000) (hm : m.length ≤ 100000) :
    Calls Try.prog 12 #[v, .int .i64 a, u] w fun e w' => e = .returned (.bool (ackedB m.contains l a)) ∧ Below w.heap.size w w' := by
  have HA := Lib.hid (among_any u m w hq hm)
  have HX := Lib.hid (fun w1 (hb : Below w.heap.size w w1) (h1 : AmongAt w1 (w.heap.size + 1) w.heap.size m) => count_any v l 53 (.pointer (some ⟨w.heap.size + 1, 0, none⟩)) m.contains w1 (hp.below hb) hl h1.asks)
  have hh := hits_small m.contains l hl
  unfold ackedB
  generalize hits m.contains l = n at HX hh
  clear hp hq
  by_cases h : 1 ≤ a
  · rw [decide_eq_true h]
    go_enter Try.func12, Try.ntmps12
    go_wp2_with fail
    refine HA.out.mono ?_
    rintro e w1 ⟨rfl, hr⟩
    have HM := Lib.hid (HX.out w1 hr.2.2.2 (AmongAt.of hr))
    have HB := Lib.hid hr.2.2.2
    clear hr
    go_wp2_with fail
    refine HM.out.mono ?_
    rintro e w2 ⟨rfl, hb⟩
    have HB2 := Lib.hid (HB.out.trans (hb.mono HB.out.size))
    clear hb
    go_wp2
    go_ret
    exact ⟨by simp, HB2.out⟩
  · rw [decide_eq_false h]
    have HB := Lib.hid (Below.refl w.heap.size w)
    go_enter Try.func12, Try.ntmps12
    go_wp2
    go_ret
    exact ⟨by simp, HB.out⟩
end Go.Proofs.Ytnfjhpdpeihheaa
