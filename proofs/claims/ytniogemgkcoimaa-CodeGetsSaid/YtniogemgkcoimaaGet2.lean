/- U8 of any reader. -/
import Derived.Test.YtniogemgkcoimaaGet1
namespace Go.Proofs.Ytniogemgkcoimaa
open Go.RowKit
/-- the two boxes: of the reader, of the answer -/
abbrev box2 (w : World) (p : Option Addr) (x : Value) (t : TypeId) : World := (w.alloc (.cells #[.pointer p] 37)).alloc (.cells #[x] t)
theorem box2_p (w : World) (p : Option Addr) (x : Value) (t : TypeId) : (box2 w p x t).heap[w.heap.size]? = some (.cells #[.pointer p] 37 (0, 0)) := by
  rw [Below.heap_alloc _ _ _ (by simp)]; exact heap_alloc_new w _
theorem box2_x (w : World) (p : Option Addr) (x : Value) (t : TypeId) : (box2 w p x t).heap[w.heap.size + 1]? = some (.cells #[x] t (0, 0)) := by
  have h := heap_alloc_new (w.alloc (.cells #[.pointer p] 37)) (.cells #[x] t)
  simpa using h
theorem box2_chg (w : World) (p : Option Addr) (x : Value) (t : TypeId) : Chg [] w (box2 w p x t) := ((Chg.refl _ _).alloc _).alloc _
theorem box2_below (w : World) (p : Option Addr) (x : Value) (t : TypeId) : Below w.heap.size w (box2 w p x t) := Go.Joins.below_alloc2 w _ _
/-- what a method leaves that answers out of a box -/
def BoxPost (w : World) (p : Option Addr) (s' : RS) (t : TypeId) (x : Value) (e : Ending) (w' : World) : Prop := e = .returned (.tuple #[]) ∧ Rd w' p s' ∧ w'.heap[w.heap.size + 1]? = some (.cells #[x] t (0, 0)) ∧ Chg (at' p) w w'
theorem box_none {w W' : World} {p : Option Addr} {s : RS} {t : TypeId} {x : Value} {e : Ending} (h : Rd w p s) (he : e = .returned (.tuple #[])) (hc : Chg [] (box2 w p x t) W') : BoxPost w p s t x e W' := by
  have hc0 := (box2_chg w p x t).trans hc
  exact ⟨he, h.chg hc0 (by simp) (by simp), hc.heap (box2_x w p x t) (by simp), hc0.mono (by simp)⟩
theorem part_u8 (p : Option Addr) (s : RS) (w : World) (h : Rd w p s) :
    Calls Try.prog 47 #[.pointer p, .func (.func 55) #[] #[.pointer (some ⟨w.heap.size, 0, none⟩), .pointer (some ⟨w.heap.size + 1, 0, none⟩)]] (box2 w p (.int .u8 0) 5)
      (BoxPost w p (s.get 0 0).2 5 (.int .u8 (((s.get 0 0).1.1 : Nat) : Int))) := by
  have h0 := h
  rcases h with ⟨rfl, rfl⟩ | ⟨g, rfl, hr⟩
  · refine (part_nil _ _).mono ?_
    rintro e w' ⟨rfl, hc⟩
    exact box_none h0 rfl hc
  · obtain ⟨l, bad⟩ := s
    have hlt := hr.lt
    cases bad with
    | true =>
      refine (part_fault g l _ _ (hr.below (box2_below _ _ _ _) (Nat.le_refl _))).mono ?_
      rintro e w' ⟨rfl, hc⟩
      exact box_none h0 rfl hc
    | false =>
      cases l with
      | nil =>
        refine (part_up g [] 55 _ _ (enter55 _) (hr.below (box2_below _ _ _ _) (Nat.le_refl _)) fun w1 hc1 _ => ?_).mono ?_
        · exact u8c_no g _ _ _ (hr.chg ((box2_chg _ _ _ _).trans hc1) (by simp) (by simp)) (hc1.heap (box2_p _ _ _ _) (by simp))
        · rintro e w' ⟨rfl, hr', hc⟩
          exact ⟨rfl, .inr ⟨g, rfl, hr'⟩, hc.heap (box2_x _ _ _ _) (by simp; omega), ((box2_chg _ _ _ _).mono (by simp)).trans hc⟩
      | cons b t =>
        obtain ⟨v, hi, hb⟩ := hr
        refine (part_ok g (b :: t) 55 _ _ (fun w' => Rd w' (some ⟨g, 0, none⟩) ⟨t, false⟩ ∧ w'.heap[w.heap.size + 1]? = some (.cells #[.int .u8 (b.toNat : Int)] 5 (0, 0)) ∧ Chg [g] w w') (enter55 _) ((show RdAt w g ⟨b :: t, false⟩ from ⟨v, hi, hb⟩).below (box2_below _ _ _ _) (Nat.le_refl _)) fun w1 hc1 _ => ?_).mono ?_
        · have hc := (box2_chg w (some ⟨g, 0, none⟩) (.int .u8 0) 5).trans hc1
          refine (u8c_yes g _ (w.heap.size + 1) v _ b t _ (hc.heap hi (by simp)) (hb.chg hc (by simp)) (hc1.heap (box2_p _ _ _ _) (by simp)) (hc1.heap (box2_x _ _ _ _) (by simp)) (by omega)).mono ?_
          rintro e w' ⟨rfl, ⟨u, hu, hbs⟩, hx, hc2⟩
          have hc3 : Chg [g] w w' := (hc.mono (by simp)).then hc2 (by simp)
          exact ⟨rfl, .inr ⟨g, rfl, u, hu, hbs w' (hb.chg hc3 fun k hk => by rw [List.mem_singleton.1 hk]; exact RdAt.nb (s := ⟨b :: t, false⟩) ⟨v, hi, hb⟩)⟩, hx, hc3⟩
        · rintro e w' ⟨rfl, hr', hx, hc⟩
          exact ⟨rfl, hr', hx, hc⟩
theorem setCell_same {w : World} {k : Nat} {x : Value} {t : TypeId} {fr : Nat × Nat} (h : w.heap[k]? = some (.cells #[x] t fr)) : w.setCell ⟨k, 0, none⟩ x = w := by
  have e : (w.setCell ⟨k, 0, none⟩ x).heap = w.heap := by
    apply Array.ext_getElem?
    intro i
    by_cases hi : i = k
    · subst hi
      have := Go.Joins.block_setCell (i := 0) h x
      rw [this, h]; rfl
    · exact Below.heap_setCell _ _ _ _ hi
  cases w
  simp only [World.setCell] at e ⊢
  rw [e]
theorem u8_any (p : Option Addr) (s : RS) (w : World) (h : Rd w p s) :
    Calls Try.prog 44 #[.pointer p] w fun e w' => e = .returned (.int .u8 (((s.get 0 0).1.1 : Nat) : Int)) ∧ Rd w' p (s.get 0 0).2 ∧ Chg (at' p) w w' := by
  have H := Lib.hid h
  have hmf : ∀ (fn : Fn) (first cap : Array Value) (w : World), (Instr.makeFunc fn first cap).run Try.prog w = .ok (.func fn first cap) w := fun _ _ _ _ => rfl
  clear h
  go_enter Try.func44, Try.ntmps44
  go_wp2_with fail
  refine (part_u8 p s w H.out).mono ?_
  rintro e w1 ⟨rfl, hr, hx, hc⟩
  have c1 := cell_of_one hx
  have f1 := free_of_one hx
  have HE := Lib.hid (setCell_same hx)
  have HF := Lib.hid (And.intro hr hc)
  clear hr hc hx
  go_wp2
  rw [HE.out]
  refine ⟨rfl, _, ?_, rfl, HF.out⟩
  simp [results, Try.results44, go_sem, c1]
end Go.Proofs.Ytniogemgkcoimaa
