/- U32 and Uint of any reader. -/
import Derived.Test.YtniogemgkcoimaaGet2
namespace Go.Proofs.Ytniogemgkcoimaa
open Go.RowKit
/-- a box of what is no octet is written: the reader stands as it did -/
theorem rd_box {w w1 : World} {g px : Nat} {s : RS} {x y : Value} {t : TypeId} (hr : RdAt w1 g s) (hx : w1.heap[px]? = some (.cells #[x] t (0, 0))) (hne : g ≠ px) (hv : ∀ n, x ≠ .int .u8 n) (hc : Chg [g] w w1) :
    RdAt (w1.setCell ⟨px, 0, none⟩ y) g s ∧ (w1.setCell ⟨px, 0, none⟩ y).heap[px]? = some (.cells #[y] t (0, 0)) ∧ Chg [g, px] w (w1.setCell ⟨px, 0, none⟩ y) :=
  ⟨hr.chg ((Chg.refl [px] _).setCell (.inl (by simp)) _) (by simpa using hne) (fun k hk => by rw [List.mem_singleton.1 hk]; exact nb_one hx hv), one_setCell hx, (hc.mono (by simp)).setCell (.inl (by simp)) _⟩
theorem u32c_yes (g pr px : Nat) (x0 : Value) (b0 b1 b2 b3 : UInt8) (t : List UInt8) (w : World) (hr : RdAt w g ⟨b0 :: b1 :: b2 :: b3 :: t, false⟩) (hp : w.heap[pr]? = some (.cells #[.pointer (some ⟨g, 0, none⟩)] 37 (0, 0))) (hx : w.heap[px]? = some (.cells #[x0] 63 (0, 0))) (hgp : g ≠ px) (hv : ∀ n, x0 ≠ .int .u8 n) :
    Calls Try.prog 57 #[.pointer (some ⟨pr, 0, none⟩), .pointer (some ⟨px, 0, none⟩)] w fun e w' => e = .returned (.tuple #[]) ∧ RdAt w' g ⟨t, false⟩ ∧ w'.heap[px]? = some (.cells #[.int .u32 (ofLe [b0, b1, b2, b3] : Nat)] 63 (0, 0)) ∧ Chg [g, px] w w' := by
  have c0 := cell_of_one hp
  have HR := Lib.hid hr
  have HX := Lib.hid hx
  have HV := Lib.hid hv
  clear hp hr hx hv
  go_enter Try.func57, Try.ntmps57
  go_wp2_with fail
  refine (wide_yes g b0 b1 b2 b3 t false _ HR.out).mono ?_
  rintro e w1 ⟨rfl, hr, hc⟩
  have hx1 : w1.heap[px]? = some (.cells #[x0] 63 (0, 0)) := hc.heap HX.out (by simp; omega)
  have c1 := cell_of_one hx1
  have f1 := free_of_one hx1
  have HF : Hid (∀ y, RdAt (w1.setCell ⟨px, 0, none⟩ y) g ⟨t, false⟩ ∧ (w1.setCell ⟨px, 0, none⟩ y).heap[px]? = some (.cells #[y] 63 (0, 0)) ∧ Chg [g, px] w (w1.setCell ⟨px, 0, none⟩ y)) := fun y => rd_box hr hx1 hgp HV.out hc
  clear hr hc hx1
  go_wp2
  go_end0
  exact ⟨rfl, HF.out _⟩
theorem u32c_no (g pr px : Nat) (l : List UInt8) (w : World) (hr : RdAt w g ⟨l, false⟩) (hl : l.length < 4) (hp : w.heap[pr]? = some (.cells #[.pointer (some ⟨g, 0, none⟩)] 37 (0, 0))) :
    Calls Try.prog 57 #[.pointer (some ⟨pr, 0, none⟩), .pointer (some ⟨px, 0, none⟩)] w (GaveUp g false w) := by
  have c0 := cell_of_one hp
  have HR := Lib.hid hr
  clear hp hr
  go_enter Try.func57, Try.ntmps57
  go_wp2_with fail
  refine (wide_no g l false _ HR.out hl).mono ?_
  rintro e w1 ⟨rfl, hs, hc⟩
  exact ⟨rfl, rfl, hs, hc⟩
theorem uintc_yes (g pr px : Nat) (x0 : Value) (l t : List UInt8) (y : Nat) (w : World) (hr : RdAt w g ⟨l, false⟩) (hl : readShort l = some (y, t)) (hp : w.heap[pr]? = some (.cells #[.pointer (some ⟨g, 0, none⟩)] 37 (0, 0))) (hx : w.heap[px]? = some (.cells #[x0] 30 (0, 0))) (hgp : g ≠ px) (hv : ∀ n, x0 ≠ .int .u8 n) :
    Calls Try.prog 48 #[.pointer (some ⟨pr, 0, none⟩), .pointer (some ⟨px, 0, none⟩)] w fun e w' => e = .returned (.tuple #[]) ∧ RdAt w' g ⟨t, false⟩ ∧ w'.heap[px]? = some (.cells #[.int .u64 (y : Nat)] 30 (0, 0)) ∧ Chg [g, px] w w' := by
  have c0 := cell_of_one hp
  have HR := Lib.hid hr
  have HX := Lib.hid hx
  have HV := Lib.hid hv
  have HL := Lib.hid hl
  clear hp hr hx hv hl
  go_enter Try.func48, Try.ntmps48
  go_wp2_with fail
  refine (short_any g l false _ HR.out).mono ?_
  rintro e w1 ⟨-, hpost⟩
  obtain ⟨rfl, hr, hc⟩ := hpost _ _ HL.out
  have hx1 : w1.heap[px]? = some (.cells #[x0] 30 (0, 0)) := hc.heap HX.out (by simp; omega)
  have c1 := cell_of_one hx1
  have f1 := free_of_one hx1
  have HF : Hid (∀ y, RdAt (w1.setCell ⟨px, 0, none⟩ y) g ⟨t, false⟩ ∧ (w1.setCell ⟨px, 0, none⟩ y).heap[px]? = some (.cells #[y] 30 (0, 0)) ∧ Chg [g, px] w (w1.setCell ⟨px, 0, none⟩ y)) := fun y => rd_box hr hx1 hgp HV.out hc
  clear hr hc hx1 hpost
  go_wp2
  go_end0
  exact ⟨rfl, HF.out _⟩
theorem uintc_no (g pr px : Nat) (l : List UInt8) (w : World) (hr : RdAt w g ⟨l, false⟩) (hl : readShort l = none) (hp : w.heap[pr]? = some (.cells #[.pointer (some ⟨g, 0, none⟩)] 37 (0, 0))) :
    Calls Try.prog 48 #[.pointer (some ⟨pr, 0, none⟩), .pointer (some ⟨px, 0, none⟩)] w (GaveUp g false w) := by
  have c0 := cell_of_one hp
  have HR := Lib.hid hr
  have HL := Lib.hid hl
  clear hp hr hl
  go_enter Try.func48, Try.ntmps48
  go_wp2_with fail
  refine (short_any g l false _ HR.out).mono ?_
  rintro e w1 ⟨hpost, -⟩
  obtain ⟨rfl, hs, hc⟩ := hpost HL.out
  exact ⟨rfl, rfl, hs, hc⟩
/-- a part of one sort, out of its two ways -/
theorem part_box (F k : Nat) (most : Int) (x0 : Value) (t : TypeId) (p : Option Addr) (s : RS) (w : World) (val : Nat × List UInt8 → Value) (hen : ∀ caps w, (callFunc F caps).run Try.prog w = .ok (.enter F caps) w) (h : Rd w p s) (hx0 : val (0, []) = x0)
    (hno : ∀ g w1, readPart k most s.l = none → RdAt w1 g ⟨s.l, false⟩ → w1.heap[w.heap.size]? = some (.cells #[.pointer (some ⟨g, 0, none⟩)] 37 (0, 0)) → Calls Try.prog F #[.pointer (some ⟨w.heap.size, 0, none⟩), .pointer (some ⟨w.heap.size + 1, 0, none⟩)] w1 (GaveUp g false w1))
    (hyes : ∀ g w1 a u, readPart k most s.l = some (a, u) → RdAt w1 g ⟨s.l, false⟩ → g < w.heap.size → w1.heap[w.heap.size]? = some (.cells #[.pointer (some ⟨g, 0, none⟩)] 37 (0, 0)) → w1.heap[w.heap.size + 1]? = some (.cells #[x0] t (0, 0)) →
      Calls Try.prog F #[.pointer (some ⟨w.heap.size, 0, none⟩), .pointer (some ⟨w.heap.size + 1, 0, none⟩)] w1 fun e w' => e = .returned (.tuple #[]) ∧ RdAt w' g ⟨u, false⟩ ∧ w'.heap[w.heap.size + 1]? = some (.cells #[val a] t (0, 0)) ∧ Chg [g, w.heap.size + 1] w1 w') :
    Calls Try.prog 47 #[.pointer p, .func (.func F) #[] #[.pointer (some ⟨w.heap.size, 0, none⟩), .pointer (some ⟨w.heap.size + 1, 0, none⟩)]] (box2 w p x0 t)
      (BoxPost w p (s.get k most).2 t (val (s.get k most).1)) := by
  have h0 := h
  rcases h with ⟨rfl, rfl⟩ | ⟨g, rfl, hr⟩
  · refine (part_nil _ _).mono ?_
    rintro e w' ⟨rfl, hc⟩
    have := box_none h0 rfl hc
    rw [RS.get_bad]; rw [hx0]; exact this
  · obtain ⟨l, bad⟩ := s
    have hlt := hr.lt
    cases bad with
    | true =>
      refine (part_fault g l _ _ (hr.below (box2_below _ _ _ _) (Nat.le_refl _))).mono ?_
      rintro e w' ⟨rfl, hc⟩
      have := box_none h0 rfl hc
      rw [RS.get_bad]; rw [hx0]; exact this
    | false =>
      cases hpart : readPart k most l with
      | none =>
        rw [RS.get_none hpart, hx0]
        refine (part_up g l F _ _ (hen _) (hr.below (box2_below _ _ _ _) (Nat.le_refl _)) fun w1 hc1 _ => ?_).mono ?_
        · exact hno g w1 hpart (hr.chg ((box2_chg _ _ _ _).trans hc1) (by simp) (by simp)) (hc1.heap (box2_p _ _ _ _) (by simp))
        · rintro e w' ⟨rfl, hr', hc⟩
          exact ⟨rfl, .inr ⟨g, rfl, hr'⟩, hc.heap (box2_x _ _ _ _) (by simp; omega), ((box2_chg _ _ _ _).mono (by simp)).trans hc⟩
      | some q =>
        obtain ⟨a, u⟩ := q
        rw [RS.get_some hpart]
        refine (part_ok g l F _ _ (fun w' => Rd w' (some ⟨g, 0, none⟩) ⟨u, false⟩ ∧ w'.heap[w.heap.size + 1]? = some (.cells #[val a] t (0, 0)) ∧ Chg [g] w w') (hen _) (hr.below (box2_below _ _ _ _) (Nat.le_refl _)) fun w1 hc1 _ => ?_).mono ?_
        · have hc := (box2_chg w (some ⟨g, 0, none⟩) x0 t).trans hc1
          refine (hyes g w1 a u hpart (hr.chg hc (by simp) (by simp)) hlt (hc1.heap (box2_p _ _ _ _) (by simp)) (hc1.heap (box2_x _ _ _ _) (by simp))).mono ?_
          rintro e w' ⟨rfl, hr', hx, hc2⟩
          exact ⟨rfl, .inr ⟨g, rfl, hr'⟩, hx, (hc.mono (by simp)).then hc2 (by simp)⟩
        · rintro e w' ⟨rfl, hr', hx, hc⟩
          exact ⟨rfl, hr', hx, hc⟩
theorem part_u32 (p : Option Addr) (s : RS) (w : World) (h : Rd w p s) :
    Calls Try.prog 47 #[.pointer p, .func (.func 57) #[] #[.pointer (some ⟨w.heap.size, 0, none⟩), .pointer (some ⟨w.heap.size + 1, 0, none⟩)]] (box2 w p (.int .u32 0) 63)
      (BoxPost w p (s.get 1 0).2 63 (.int .u32 (((s.get 1 0).1.1 : Nat) : Int))) := by
  refine part_box 57 1 0 (.int .u32 0) 63 p s w (fun a => .int .u32 ((a.1 : Nat) : Int)) enter57 h rfl ?_ ?_
  · intro g w1 hn hr hp
    refine u32c_no g _ _ s.l w1 hr ?_ hp
    rcases Nat.lt_or_ge s.l.length 4 with h | h
    · exact h
    · simp only [readPart] at hn; rw [if_pos h] at hn; cases hn
  · intro g w1 a u hs hr hg hp hx
    simp only [readPart] at hs
    split at hs
    · rename_i h4
      match hl : s.l, h4 with
      | b0 :: b1 :: b2 :: b3 :: t, _ =>
        rw [hl] at hs hr
        cases hs
        exact u32c_yes g _ _ _ b0 b1 b2 b3 t w1 hr hp hx (by omega) (by simp)
    · cases hs
theorem part_uint (p : Option Addr) (s : RS) (w : World) (h : Rd w p s) :
    Calls Try.prog 47 #[.pointer p, .func (.func 48) #[] #[.pointer (some ⟨w.heap.size, 0, none⟩), .pointer (some ⟨w.heap.size + 1, 0, none⟩)]] (box2 w p (.int .u64 0) 30)
      (BoxPost w p (s.get 2 0).2 30 (.int .u64 (((s.get 2 0).1.1 : Nat) : Int))) := by
  refine part_box 48 2 0 (.int .u64 0) 30 p s w (fun a => .int .u64 ((a.1 : Nat) : Int)) enter48 h rfl ?_ ?_
  · intro g w1 hn hr hp
    refine uintc_no g _ _ s.l w1 hr ?_ hp
    simp only [readPart, Option.map_eq_none_iff] at hn
    exact hn
  · intro g w1 a u hs hr hg hp hx
    simp only [readPart, Option.map_eq_some_iff] at hs
    obtain ⟨⟨y, t⟩, hs, he⟩ := hs
    cases he
    exact uintc_yes g _ _ _ s.l t y w1 hr hs hp hx (by omega) (by simp)
theorem u32_any (p : Option Addr) (s : RS) (w : World) (h : Rd w p s) :
    Calls Try.prog 45 #[.pointer p] w fun e w' => e = .returned (.int .u32 (((s.get 1 0).1.1 : Nat) : Int)) ∧ Rd w' p (s.get 1 0).2 ∧ Chg (at' p) w w' := by
  have H := Lib.hid h
  have hmf : ∀ (fn : Fn) (first cap : Array Value) (w : World), (Instr.makeFunc fn first cap).run Try.prog w = .ok (.func fn first cap) w := fun _ _ _ _ => rfl
  clear h
  go_enter Try.func45, Try.ntmps45
  go_wp2_with fail
  refine (part_u32 p s w H.out).mono ?_
  rintro e w1 ⟨rfl, hr, hx, hc⟩
  have c1 := cell_of_one hx
  have f1 := free_of_one hx
  have HE := Lib.hid (setCell_same hx)
  have HF := Lib.hid (And.intro hr hc)
  clear hr hc hx
  go_wp2
  rw [HE.out]
  refine ⟨rfl, _, ?_, rfl, HF.out⟩
  simp [results, Try.results45, go_sem, c1]
theorem uint_any (p : Option Addr) (s : RS) (w : World) (h : Rd w p s) :
    Calls Try.prog 31 #[.pointer p] w fun e w' => e = .returned (.int .u64 (((s.get 2 0).1.1 : Nat) : Int)) ∧ Rd w' p (s.get 2 0).2 ∧ Chg (at' p) w w' := by
  have H := Lib.hid h
  have hmf : ∀ (fn : Fn) (first cap : Array Value) (w : World), (Instr.makeFunc fn first cap).run Try.prog w = .ok (.func fn first cap) w := fun _ _ _ _ => rfl
  clear h
  go_enter Try.func31, Try.ntmps31
  go_wp2_with fail
  refine (part_uint p s w H.out).mono ?_
  rintro e w1 ⟨rfl, hr, hx, hc⟩
  have c1 := cell_of_one hx
  have f1 := free_of_one hx
  have HE := Lib.hid (setCell_same hx)
  have HF := Lib.hid (And.intro hr hc)
  clear hr hc hx
  go_wp2
  rw [HE.out]
  refine ⟨rfl, _, ?_, rfl, HF.out⟩
  simp [results, Try.results31, go_sem, c1]
end Go.Proofs.Ytniogemgkcoimaa
