/- Text and Raw of any reader. -/
import Derived.Test.YtniogemgkcoimaaGet3
import Derived.StillTailTactics
namespace Go.Proofs.Ytniogemgkcoimaa
open Go.RowKit
theorem textc_any (g pr pm px : Nat) (most : Int) (x0 : Value) (l : List UInt8) (w : World) (hm : -9223372036854775808 ≤ most ∧ most ≤ 9223372036854775807) (hr : RdAt w g ⟨l, false⟩) (hp : w.heap[pr]? = some (.cells #[.pointer (some ⟨g, 0, none⟩)] 37 (0, 0)))
    (hmo : w.heap[pm]? = some (.cells #[.int .i64 most] 3 (0, 0))) (hx : w.heap[px]? = some (.cells #[x0] 9 (0, 0))) (hgp : g ≠ px) (hv : ∀ n, x0 ≠ .int .u8 n) :
    Calls Try.prog 50 #[.pointer (some ⟨pr, 0, none⟩), .pointer (some ⟨pm, 0, none⟩), .pointer (some ⟨px, 0, none⟩)] w fun e w' =>
      (readPart 3 most l = none → GaveUp g false w e w') ∧ ∀ a t, readPart 3 most l = some (a, t) → e = .returned (.tuple #[]) ∧ RdAt w' g ⟨t, false⟩ ∧ w'.heap[px]? = some (.cells #[.string ⟨a.2.toArray⟩] 9 (0, 0)) ∧ Chg [g, px] w w' := by
  have c0 := cell_of_one hp
  have c1 := cell_of_one hmo
  have HR := Lib.hid hr
  have HX := Lib.hid hx
  have HV := Lib.hid hv
  have HM := Lib.hid hm
  clear hp hr hx hv hmo hm
  go_enter Try.func50, Try.ntmps50
  go_still_tail 4, (by kernel_rfl)
  change wpList _ _ _ _ _ w.drew
  have HR2 : Hid (RdAt w.drew g ⟨l, false⟩) := HR.out.below (Below.refl _ _).drew (Nat.le_refl _)
  have HC2 : Hid (Chg [g] w w.drew) := (Chg.refl _ _).drew
  have HX2 : Hid (w.drew.heap[px]? = some (.cells #[x0] 9 (0, 0))) := HX.out
  generalize w.drew = w2 at HR2 HC2 HX2 ⊢
  go_wp2_with fail
  refine (text_any g most l false _ HM.out HR2.out).mono ?_
  rintro e w1 ⟨hno, hyes⟩
  obtain ⟨q, hq⟩ : ∃ q, readPart 3 most l = q := ⟨_, rfl⟩
  have HQ := Lib.hid hq
  rw [hq] at hno hyes
  clear hq
  cases q with
  | none =>
    obtain ⟨rfl, hs, hc⟩ := hno rfl
    exact ⟨rfl, fun _ => ⟨rfl, hs, HC2.out.trans hc⟩, fun a s t h => by rw [HQ.out] at h; cases h⟩
  | some q =>
    obtain ⟨⟨n, s⟩, t⟩ := q
    obtain ⟨rfl, hr, hc⟩ := hyes n s t rfl
    have hx1 : w1.heap[px]? = some (.cells #[x0] 9 (0, 0)) := hc.heap HX2.out (by simp; omega)
    have c1 := cell_of_one hx1
    have f1 := free_of_one hx1
    have HF : Hid (∀ y, RdAt (w1.setCell ⟨px, 0, none⟩ y) g ⟨t, false⟩ ∧ (w1.setCell ⟨px, 0, none⟩ y).heap[px]? = some (.cells #[y] 9 (0, 0)) ∧ Chg [g, px] w (w1.setCell ⟨px, 0, none⟩ y)) := fun y => rd_box hr hx1 hgp HV.out (HC2.out.trans hc)
    clear hr hc hx1 hno hyes
    go_wp2
    go_end0
    exact ⟨(fun h => by rw [HQ.out] at h; cases h), fun a' t' h => by rw [HQ.out] at h; cases h; exact ⟨rfl, HF.out _⟩⟩
theorem clone_give {w : World} {l : List UInt8} {e : Ending} {w' : World} (h : Gives w l e w') : ∃ v, e = .returned v ∧ BytesAt w' v l ∧ Below w.heap.size w w' := by
  obtain ⟨v, rfl, ho, hb⟩ := h
  exact ⟨v, rfl, ho.bytesAt, hb⟩
theorem raw4_no {most : Int} {l : List UInt8} (h : most < 0 ∨ (l.length : Int) < most) : readPart 4 most l = none := by
  simp only [readPart]; rw [if_neg (by omega)]
theorem raw4_yes {n : Nat} {l : List UInt8} (h : n ≤ l.length) : readPart 4 (n : Int) l = some ((0, l.take n), l.drop n) := by
  simp only [readPart]; rw [if_pos (by omega)]; simp
/-- what Raw's box holds: bytes of the call's own -/
def RawBox (base : Nat) (w : World) (px : Nat) (l : List UInt8) : Prop := ∃ v, w.heap[px]? = some (.cells #[v] 27 (0, 0)) ∧ OwnBytes base w v l
set_option maxHeartbeats 400000 in
theorem rawc_no (g pr pm px : Nat) (most : Int) (l : List UInt8) (w : World) (hm : most < 0 ∨ (l.length : Int) < most) (hr : RdAt w g ⟨l, false⟩) (hp : w.heap[pr]? = some (.cells #[.pointer (some ⟨g, 0, none⟩)] 37 (0, 0)))
    (hmo : w.heap[pm]? = some (.cells #[.int .i64 most] 3 (0, 0))) :
    Calls Try.prog 53 #[.pointer (some ⟨pr, 0, none⟩), .pointer (some ⟨pm, 0, none⟩), .pointer (some ⟨px, 0, none⟩)] w (GaveUp g false w) := by
  have c0 := cell_of_one hp
  have c1 := cell_of_one hmo
  have HR := Lib.hid hr
  have HM := Lib.hid hm
  clear hp hr hmo hm
  go_enter Try.func53, Try.ntmps53
  go_still_tail 4, (by kernel_rfl)
  change wpList _ _ _ _ _ w.drew
  have HR2 : Hid (RdAt w.drew g ⟨l, false⟩) := HR.out.below (Below.refl _ _).drew (Nat.le_refl _)
  have HC2 : Hid (Chg [g] w w.drew) := (Chg.refl _ _).drew
  generalize w.drew = w2 at HR2 HC2 ⊢
  go_wp2_with fail
  refine (take_no g most ⟨l, false⟩ _ HR2.out HM.out).mono ?_
  rintro e w1 ⟨rfl, rfl⟩
  exact ⟨rfl, rfl, ⟨l, HR2.out⟩, HC2.out⟩
set_option maxHeartbeats 400000 in
theorem rawc_yes (g pr pm px n : Nat) (l : List UInt8) (x0 : Value) (w : World) (hn : n ≤ l.length) (hn2 : n ≤ 1000000) (hr : RdAt w g ⟨l, false⟩) (hp : w.heap[pr]? = some (.cells #[.pointer (some ⟨g, 0, none⟩)] 37 (0, 0)))
    (hmo : w.heap[pm]? = some (.cells #[.int .i64 (n : Nat)] 3 (0, 0))) (hx : w.heap[px]? = some (.cells #[x0] 27 (0, 0))) (hgp : g ≠ px) (hv : ∀ n, x0 ≠ .int .u8 n) :
    Calls Try.prog 53 #[.pointer (some ⟨pr, 0, none⟩), .pointer (some ⟨pm, 0, none⟩), .pointer (some ⟨px, 0, none⟩)] w fun e w' => e = .returned (.tuple #[]) ∧ RdAt w' g ⟨l.drop n, false⟩ ∧ RawBox w.heap.size w' px (l.take n) ∧ Chg [g, px] w w' := by
  have c0 := cell_of_one hp
  have c1 := cell_of_one hmo
  have HR := Lib.hid hr
  have HX := Lib.hid hx
  have HV := Lib.hid hv
  clear hp hr hmo hx hv
  go_enter Try.func53, Try.ntmps53
  go_still_tail 4, (by kernel_rfl)
  change wpList _ _ _ _ _ w.drew
  have HR2 : Hid (RdAt w.drew g ⟨l, false⟩) := HR.out.below (Below.refl _ _).drew (Nat.le_refl _)
  have HC2 : Hid (Chg [g] w w.drew) := (Chg.refl _ _).drew
  generalize w.drew = w2 at HR2 HC2 ⊢
  go_wp2_with fail
  refine (take_yes g n l false _ HR2.out hn).mono ?_
  rintro e w1 ⟨a, rfl, hb, hr, hc⟩
  have HR3 := Lib.hid hr
  have HC3 := Lib.hid (HC2.out.trans hc)
  have HB3 := Lib.hid hb
  clear hr hc hb
  go_wp2_with fail
  refine (clone_any _ (l.take n) _ HB3.out (by simp; omega)).mono ?_
  rintro e w3 ⟨v, rfl, hown, hbel⟩
  have hc4 : Chg [g] w w3 := HC3.out.trans (Chg.of_below hbel (Nat.le_refl _))
  have hx1 : w3.heap[px]? = some (.cells #[x0] 27 (0, 0)) := hc4.heap HX.out (by simp; omega)
  have c1 := cell_of_one hx1
  have f1 := free_of_one hx1
  have hr4 : RdAt w3 g ⟨l.drop n, false⟩ := HR3.out.below hbel (Nat.le_refl _)
  have hlt : px < w1.heap.size := Nat.lt_of_lt_of_le (lt_of_block HX.out) HC3.out.size
  have HF : Hid (RdAt (w3.setCell ⟨px, 0, none⟩ v) g ⟨l.drop n, false⟩ ∧ RawBox w.heap.size (w3.setCell ⟨px, 0, none⟩ v) px (l.take n) ∧ Chg [g, px] w (w3.setCell ⟨px, 0, none⟩ v)) := by
    obtain ⟨h1, h2, h3⟩ := rd_box (y := v) hr4 hx1 hgp HV.out hc4
    exact ⟨h1, ⟨v, h2, (hown.chg (Chg.setCell (S := [px]) (Chg.refl _ _) (.inl (by simp)) _) (fun k hk => by have := hown.own k hk; simp; omega)).base_le HC3.out.size⟩, h3⟩
  obtain ⟨a4, c4, hv4⟩ := hown.form
  have hln : (l.take n).length = n := by simp; omega
  rw [hln] at hv4
  clear hln
  rw [hv4] at HF ⊢
  clear hown hc4 hx1 hr4 hbel
  go_wp2
  go_end0
  exact ⟨rfl, HF.out⟩
/-- the three boxes: of the reader, of the number asked for, of the answer -/
abbrev box3 (w : World) (p : Option Addr) (most : Int) (x : Value) (t : TypeId) : World := ((w.alloc (.cells #[.pointer p] 37)).alloc (.cells #[.int .i64 most] 3)).alloc (.cells #[x] t)
theorem box3_p (w : World) (p : Option Addr) (most : Int) (x : Value) (t : TypeId) : (box3 w p most x t).heap[w.heap.size]? = some (.cells #[.pointer p] 37 (0, 0)) := by
  rw [Below.heap_alloc _ _ _ (by simp; omega), Below.heap_alloc _ _ _ (by simp)]; exact heap_alloc_new w _
theorem box3_m (w : World) (p : Option Addr) (most : Int) (x : Value) (t : TypeId) : (box3 w p most x t).heap[w.heap.size + 1]? = some (.cells #[.int .i64 most] 3 (0, 0)) := by
  rw [Below.heap_alloc _ _ _ (by simp)]
  have h := heap_alloc_new (w.alloc (.cells #[.pointer p] 37)) (.cells #[.int .i64 most] 3)
  simpa using h
theorem box3_x (w : World) (p : Option Addr) (most : Int) (x : Value) (t : TypeId) : (box3 w p most x t).heap[w.heap.size + 1 + 1]? = some (.cells #[x] t (0, 0)) := by
  have h := heap_alloc_new ((w.alloc (.cells #[.pointer p] 37)).alloc (.cells #[.int .i64 most] 3)) (.cells #[x] t)
  simpa using h
theorem box3_chg (w : World) (p : Option Addr) (most : Int) (x : Value) (t : TypeId) : Chg [] w (box3 w p most x t) := (((Chg.refl _ _).alloc _).alloc _).alloc _
theorem box3_below (w : World) (p : Option Addr) (most : Int) (x : Value) (t : TypeId) : Below w.heap.size w (box3 w p most x t) := Go.Joins.below_alloc3 w _ _ _
/-- what a method leaves that answers out of the third box, which holds what X says -/
def Box3Post (w : World) (p : Option Addr) (s' : RS) (X : World → Prop) (e : Ending) (w' : World) : Prop := e = .returned (.tuple #[]) ∧ Rd w' p s' ∧ X w' ∧ Chg (at' p) w w'
/-- a part of one sort, with a number that is asked for, out of its two ways -/
theorem part_box3 (F k : Nat) (most : Int) (x0 : Value) (t : TypeId) (p : Option Addr) (s : RS) (w : World) (X : Nat × List UInt8 → World → Prop) (hen : ∀ caps w, (callFunc F caps).run Try.prog w = .ok (.enter F caps) w) (h : Rd w p s)
    (hx0 : ∀ w', w'.heap[w.heap.size + 1 + 1]? = some (.cells #[x0] t (0, 0)) → X (0, []) w')
    (hno : ∀ g w1, readPart k most s.l = none → RdAt w1 g ⟨s.l, false⟩ → w1.heap[w.heap.size]? = some (.cells #[.pointer (some ⟨g, 0, none⟩)] 37 (0, 0)) → w1.heap[w.heap.size + 1]? = some (.cells #[.int .i64 most] 3 (0, 0)) → w1.heap[w.heap.size + 1 + 1]? = some (.cells #[x0] t (0, 0)) → g < w.heap.size →
      Calls Try.prog F #[.pointer (some ⟨w.heap.size, 0, none⟩), .pointer (some ⟨w.heap.size + 1, 0, none⟩), .pointer (some ⟨w.heap.size + 1 + 1, 0, none⟩)] w1 (GaveUp g false w1))
    (hyes : ∀ g w1 a u, readPart k most s.l = some (a, u) → RdAt w1 g ⟨s.l, false⟩ → g < w.heap.size → w1.heap[w.heap.size]? = some (.cells #[.pointer (some ⟨g, 0, none⟩)] 37 (0, 0)) → w1.heap[w.heap.size + 1]? = some (.cells #[.int .i64 most] 3 (0, 0)) → w1.heap[w.heap.size + 1 + 1]? = some (.cells #[x0] t (0, 0)) → w.heap.size + 3 ≤ w1.heap.size →
      Calls Try.prog F #[.pointer (some ⟨w.heap.size, 0, none⟩), .pointer (some ⟨w.heap.size + 1, 0, none⟩), .pointer (some ⟨w.heap.size + 1 + 1, 0, none⟩)] w1 fun e w' => e = .returned (.tuple #[]) ∧ RdAt w' g ⟨u, false⟩ ∧ X a w' ∧ Chg [g, w.heap.size + 1 + 1] w1 w') :
    Calls Try.prog 47 #[.pointer p, .func (.func F) #[] #[.pointer (some ⟨w.heap.size, 0, none⟩), .pointer (some ⟨w.heap.size + 1, 0, none⟩), .pointer (some ⟨w.heap.size + 1 + 1, 0, none⟩)]] (box3 w p most x0 t)
      (Box3Post w p (s.get k most).2 (X (s.get k most).1)) := by
  have hbox : ∀ W' e, e = .returned (.tuple #[]) → Chg [] (box3 w p most x0 t) W' → Box3Post w p s (X (0, [])) e W' := fun W' e he hc => by
    have hc0 := (box3_chg w p most x0 t).trans hc
    exact ⟨he, h.chg hc0 (by simp) (by simp), hx0 _ (hc.heap (box3_x w p most x0 t) (by simp)), hc0.mono (by simp)⟩
  rcases h with ⟨rfl, rfl⟩ | ⟨g, rfl, hr⟩
  · refine (part_nil _ _).mono ?_
    rintro e w' ⟨rfl, hc⟩
    rw [RS.get_bad]; exact hbox _ _ rfl hc
  · obtain ⟨l, bad⟩ := s
    have hlt := hr.lt
    cases bad with
    | true =>
      refine (part_fault g l _ _ (hr.below (box3_below _ _ _ _ _) (Nat.le_refl _))).mono ?_
      rintro e w' ⟨rfl, hc⟩
      rw [RS.get_bad]; exact hbox _ _ rfl hc
    | false =>
      cases hpart : readPart k most l with
      | none =>
        rw [RS.get_none hpart]
        refine (part_up g l F _ _ (hen _) (hr.below (box3_below _ _ _ _ _) (Nat.le_refl _)) fun w1 hc1 _ => ?_).mono ?_
        · exact hno g w1 hpart (hr.chg ((box3_chg _ _ _ _ _).trans hc1) (by simp) (by simp)) (hc1.heap (box3_p _ _ _ _ _) (by simp)) (hc1.heap (box3_m _ _ _ _ _) (by simp)) (hc1.heap (box3_x _ _ _ _ _) (by simp)) hlt
        · rintro e w' ⟨rfl, hr', hc⟩
          exact ⟨rfl, .inr ⟨g, rfl, hr'⟩, hx0 _ (hc.heap (box3_x _ _ _ _ _) (by simp; omega)), ((box3_chg _ _ _ _ _).mono (by simp)).trans hc⟩
      | some q =>
        obtain ⟨a, u⟩ := q
        rw [RS.get_some hpart]
        refine (part_ok g l F _ _ (fun w' => Rd w' (some ⟨g, 0, none⟩) ⟨u, false⟩ ∧ X a w' ∧ Chg [g] w w') (hen _) (hr.below (box3_below _ _ _ _ _) (Nat.le_refl _)) fun w1 hc1 hsz => ?_).mono ?_
        · have hc := (box3_chg w (some ⟨g, 0, none⟩) most x0 t).trans hc1
          refine (hyes g w1 a u hpart (hr.chg hc (by simp) (by simp)) hlt (hc1.heap (box3_p _ _ _ _ _) (by simp)) (hc1.heap (box3_m _ _ _ _ _) (by simp)) (hc1.heap (box3_x _ _ _ _ _) (by simp)) (by have := hc1.size; simp at this; omega)).mono ?_
          rintro e w' ⟨rfl, hr', hx, hc2⟩
          exact ⟨rfl, .inr ⟨g, rfl, hr'⟩, hx, (hc.mono (by simp)).then hc2 (by simp; omega)⟩
        · rintro e w' ⟨rfl, hr', hx, hc⟩
          exact ⟨rfl, hr', hx, hc⟩
theorem part_text (p : Option Addr) (s : RS) (most : Int) (w : World) (hm : -9223372036854775808 ≤ most ∧ most ≤ 9223372036854775807) (h : Rd w p s) :
    Calls Try.prog 47 #[.pointer p, .func (.func 50) #[] #[.pointer (some ⟨w.heap.size, 0, none⟩), .pointer (some ⟨w.heap.size + 1, 0, none⟩), .pointer (some ⟨w.heap.size + 1 + 1, 0, none⟩)]] (box3 w p most (.string ⟨#[]⟩) 9)
      (Box3Post w p (s.get 3 most).2 fun w' => w'.heap[w.heap.size + 1 + 1]? = some (.cells #[.string ⟨(s.get 3 most).1.2.toArray⟩] 9 (0, 0))) := by
  refine part_box3 50 3 most (.string ⟨#[]⟩) 9 p s w (fun a w' => w'.heap[w.heap.size + 1 + 1]? = some (.cells #[.string ⟨a.2.toArray⟩] 9 (0, 0))) enter50 h (fun w' h => h) ?_ ?_
  · intro g w1 hn hr hp hmo hx hlt
    exact (textc_any g _ _ _ most _ s.l w1 hm hr hp hmo hx (by omega) (by simp)).mono fun e w' h => h.1 hn
  · intro g w1 a u hs hr hg hp hmo hx _
    exact (textc_any g _ _ _ most _ s.l w1 hm hr hp hmo hx (by omega) (by simp)).mono fun e w' h => h.2 a u hs
theorem part_raw (p : Option Addr) (s : RS) (most : Int) (w : World) (hl : s.l.length ≤ 1000000) (h : Rd w p s) :
    Calls Try.prog 47 #[.pointer p, .func (.func 53) #[] #[.pointer (some ⟨w.heap.size, 0, none⟩), .pointer (some ⟨w.heap.size + 1, 0, none⟩), .pointer (some ⟨w.heap.size + 1 + 1, 0, none⟩)]] (box3 w p most (.slice none 0 0) 27)
      (Box3Post w p (s.get 4 most).2 fun w' => RawBox (w.heap.size + 3) w' (w.heap.size + 1 + 1) (s.get 4 most).1.2) := by
  refine part_box3 53 4 most (.slice none 0 0) 27 p s w (fun a w' => RawBox (w.heap.size + 3) w' (w.heap.size + 1 + 1) a.2) enter53 h (fun w' h => ⟨_, h, OwnBytes.nil _ _⟩) ?_ ?_
  · intro g w1 hn hr hp hmo hx hlt
    refine rawc_no g _ _ _ most s.l w1 ?_ hr hp hmo
    simp only [readPart] at hn
    split at hn
    · cases hn
    · omega
  · intro g w1 a u hs hr hg hp hmo hx hsz
    simp only [readPart] at hs
    split at hs
    · rename_i hc
      cases hs
      obtain ⟨n, rfl⟩ : ∃ n : Nat, most = n := ⟨most.toNat, by omega⟩
      refine (rawc_yes g _ _ _ n s.l _ w1 (by omega) (by omega) hr hp hmo hx (by omega) (by simp)).mono ?_
      rintro e w' ⟨rfl, h1, ⟨v, h2, h3⟩, h4⟩
      exact ⟨rfl, h1, ⟨v, h2, h3.base_le hsz⟩, h4⟩
    · cases hs
theorem text_m (p : Option Addr) (s : RS) (most : Int) (w : World) (hm : -9223372036854775808 ≤ most ∧ most ≤ 9223372036854775807) (h : Rd w p s) :
    Calls Try.prog 32 #[.pointer p, .int .i64 most] w fun e w' => e = .returned (.string ⟨(s.get 3 most).1.2.toArray⟩) ∧ Rd w' p (s.get 3 most).2 ∧ Chg (at' p) w w' := by
  have H := Lib.hid h
  have HM := Lib.hid hm
  have hmf : ∀ (fn : Fn) (first cap : Array Value) (w : World), (Instr.makeFunc fn first cap).run Try.prog w = .ok (.func fn first cap) w := fun _ _ _ _ => rfl
  clear h hm
  go_enter Try.func32, Try.ntmps32
  go_wp2_with fail
  refine (part_text p s most w HM.out H.out).mono ?_
  rintro e w1 ⟨rfl, hr, hx, hc⟩
  have c1 := cell_of_one hx
  have f1 := free_of_one hx
  have HE := Lib.hid (setCell_same hx)
  have HF := Lib.hid (And.intro hr hc)
  clear hr hc hx
  go_wp2
  rw [HE.out]
  refine ⟨rfl, _, ?_, rfl, HF.out⟩
  simp [results, Try.results32, go_sem, c1]
theorem raw_m (p : Option Addr) (s : RS) (most : Int) (w : World) (hl : s.l.length ≤ 1000000) (h : Rd w p s) :
    Calls Try.prog 38 #[.pointer p, .int .i64 most] w fun e w' => (∃ v, e = .returned v ∧ OwnBytes (w.heap.size + 3) w' v (s.get 4 most).1.2) ∧ Rd w' p (s.get 4 most).2 ∧ Chg (at' p) w w' := by
  have H := Lib.hid h
  have hmf : ∀ (fn : Fn) (first cap : Array Value) (w : World), (Instr.makeFunc fn first cap).run Try.prog w = .ok (.func fn first cap) w := fun _ _ _ _ => rfl
  clear h
  go_enter Try.func38, Try.ntmps38
  go_wp2_with fail
  refine (part_raw p s most w hl H.out).mono ?_
  rintro e w1 ⟨rfl, hr, ⟨v, hx, hown⟩, hc⟩
  have c1 := cell_of_one hx
  have f1 := free_of_one hx
  have HE := Lib.hid (setCell_same hx)
  have HF := Lib.hid (And.intro (And.intro hr hc) hown)
  obtain ⟨a4, c4, rfl⟩ := hown.form
  clear hr hc hx hown
  go_wp2
  rw [HE.out]
  refine ⟨rfl, _, ?_, ⟨_, rfl, HF.out.2⟩, HF.out.1⟩
  simp [results, Try.results38, go_sem, c1]
end Go.Proofs.Ytniogemgkcoimaa
