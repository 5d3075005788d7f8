/- A part is read, or given up: the panic, and who recovers from it. -/
import Derived.Test.YtniogemgkcoimaaRead3
namespace Go.Proofs.Ytniogemgkcoimaa
open Go.RowKit
/-- Err of a reader that has had no fault -/
theorem err_good (g : Nat) (l : List UInt8) (w : World) (hr : RdAt w g ⟨l, false⟩) :
    Calls Try.prog 25 #[.pointer (some ⟨g, 0, none⟩)] w fun e w' => e = .returned (.int .i64 0) ∧ w = w' := by
  obtain ⟨v, hi, _⟩ := hr
  have c1 := hi.cell1
  clear hi
  go_enter Try.func25, Try.ntmps25
  go_wp2
  go_ret
  exact ⟨rfl, rfl⟩
theorem err_bad (g : Nat) (l : List UInt8) (w : World) (hr : RdAt w g ⟨l, true⟩) :
    Calls Try.prog 25 #[.pointer (some ⟨g, 0, none⟩)] w fun e w' => e = .returned (.int .i64 2) ∧ w = w' := by
  obtain ⟨v, hi, _⟩ := hr
  have c1 := hi.cell1
  clear hi
  go_enter Try.func25, Try.ntmps25
  go_wp2
  go_ret
  exact ⟨rfl, rfl⟩
theorem err_nil (w : World) :
    Calls Try.prog 25 #[.pointer none] w fun e w' => e = .returned (.int .i64 2) ∧ w = w' := by
  go_enter Try.func25, Try.ntmps25
  go_wp2
  go_ret
  exact ⟨rfl, rfl⟩
/-- the deferred function, where nothing was given up -/
theorem deferred_idle (pa pr : Addr) (w : World) :
    CallsD Try.prog 60 #[.pointer (some pa), .pointer (some pr)] .returning w fun e u' w' => e = .returned (.tuple #[]) ∧ u' = .returning ∧ w = w' := by
  refine callsD_of_wpS Try.func60 rfl fun c₀ cs hu => ?_
  apply wpS_seq
  apply wpS_region
  simp [wpOpsS, go_sem, recoverD, hu, Try.ntmps60, Exit.thenS]
  refine wpS_cond (t := false) (by simp [Act.eval, Array.replicate]) ?_
  simp only [Bool.false_eq_true, if_false]
  refine wpS_of_wp (wp_skip ?_)
  cases c₀
  simp_all [bodyPostS, results, Try.results60]
theorem deferred_caught (g : Nat) (a : Option Addr) (n c : Nat) (pa pr : Addr) (w : World) (hr : ∃ s, RdAt w g ⟨s, false⟩) (ha : w.cell? pa = some (.slice a n c)) (hp : w.cell? pr = some (.pointer (some ⟨g, 0, none⟩))) :
    CallsD Try.prog 60 #[.pointer (some pa), .pointer (some pr)] (.panicking boom) w fun e u' w' => e = .returned (.tuple #[]) ∧ settle u' = .returning ∧ Chg [g] w w' ∧ RdIn w' g (.slice a n c) true := by
  refine callsD_of_wpS Try.func60 rfl fun c₀ cs hu => ?_
  apply wpS_seq
  apply wpS_region
  simp [wpOpsS, go_sem, recoverD, hu, Try.ntmps60, Exit.thenS]
  refine wpS_cond (t := true) (by simp [Act.eval, Array.replicate]) ?_
  simp only [if_true]
  obtain ⟨s, v0, hi, _⟩ := hr
  have f0 := hi.free 0
  have f1 := hi.free 1
  have c0 := hi.cell0
  have c1 := hi.cell1
  have HI := Lib.hid hi
  clear hi
  refine wpS_of_wp ?_
  go_wp2
  cases c₀
  subst hu
  refine ⟨rfl, _, rfl, .tuple #[], ?_, rfl, rfl, ?_, ?_⟩
  · simp [results, Try.results60]
  · exact ((Chg.refl _ _).setCell (.inl (by simp)) _).setCell (.inl (by simp)) _
  · exact (HI.out.set0 _).set1 true
theorem part_nil (f : Value) (w : World) :
    Calls Try.prog 47 #[.pointer none, f] w fun e w' => e = .returned (.tuple #[]) ∧ Chg [] w w' := by
  have HA : Hid (Chg [] w (w.alloc (.cells #[.pointer none] 37))) := (Chg.refl _ _).alloc _
  go_enter_defers Try.func47, Try.ntmps47
  go_wp2_with (go_at_call 25; refine (err_nil _).mono ?_; rintro e w1 ⟨rfl, rfl⟩)
  refine ⟨_, results_none rfl _ _ _, rfl, HA.out⟩
theorem part_fault (g : Nat) (l : List UInt8) (f : Value) (w : World) (hr : RdAt w g ⟨l, true⟩) :
    Calls Try.prog 47 #[.pointer (some ⟨g, 0, none⟩), f] w fun e w' => e = .returned (.tuple #[]) ∧ Chg [] w w' := by
  have HR := Lib.hid hr
  clear hr
  have HA : Hid (Chg [] w (w.alloc (.cells #[.pointer (some ⟨g, 0, none⟩)] 37))) := (Chg.refl _ _).alloc _
  go_enter_defers Try.func47, Try.ntmps47
  go_wp2_with (go_at_call 25; refine (err_bad g l _ (chg_alloc_rd HR.out _)).mono ?_; rintro e w1 ⟨rfl, rfl⟩)
  refine ⟨_, results_none rfl _ _ _, rfl, HA.out⟩
theorem part_ok (g : Nat) (l : List UInt8) (F : Nat) (caps : Array Value) (w : World) (R : World → Prop) (hen : ∀ w, (callFunc F caps).run Try.prog w = .ok (.enter F caps) w) (hr : RdAt w g ⟨l, false⟩)
    (hF : ∀ w1, Chg [] w w1 → w1.heap.size = w.heap.size + 2 → Calls Try.prog F caps w1 fun e w' => e = .returned (.tuple #[]) ∧ R w') :
    Calls Try.prog 47 #[.pointer (some ⟨g, 0, none⟩), .func (.func F) #[] caps] w fun e w' => e = .returned (.tuple #[]) ∧ R w' := by
  have HR := Lib.hid hr
  obtain ⟨v, hi, hb⟩ := hr
  obtain ⟨a, c, rfl, _⟩ := hb.form
  have hlt := hi.lt
  have HI := Lib.hid hi
  have HF := Lib.hid hF
  clear hb hF hi
  have c0 : (w.alloc (.cells #[.pointer (some ⟨g, 0, none⟩)] 37)).cell? ⟨g, 0, none⟩ = some (.slice a l.length c) := by
    rw [((Below.refl w.heap.size w).alloc (Nat.le_refl _) _).cell (p := ⟨g, 0, none⟩) hlt]; exact HI.out.cell0
  have hmf : ∀ (fn : Fn) (first cap : Array Value) (w : World), (Instr.makeFunc fn first cap).run Try.prog w = .ok (.func fn first cap) w := fun _ _ _ _ => rfl
  go_enter_defers Try.func47, Try.ntmps47
  go_wp2_with (go_at_call 25; refine (err_good g l _ (chg_alloc_rd HR.out _)).mono ?_; rintro e w1 ⟨rfl, rfl⟩)
  refine (HF.out _ (((Chg.refl _ _).alloc _).alloc _) (by simp)).mono ?_
  rintro e w1 ⟨rfl, hR⟩
  have HR1 := Lib.hid hR
  clear hR
  go_wp2
  refine leaves_cons (f := 60) (args := #[.pointer (some ⟨w.heap.size + 1, 0, none⟩), .pointer (some ⟨w.heap.size, 0, none⟩)]) (by simp) (by simp [go_sem]) ?_
  refine (deferred_idle ⟨w.heap.size + 1, 0, none⟩ ⟨w.heap.size, 0, none⟩ _).mono ?_
  rintro e u' w'' ⟨rfl, rfl, rfl⟩
  exact ⟨_, results_none rfl _ _ _, rfl, HR1.out⟩
/-- given up within a part: the place is the one ahead of it, and there was a fault -/
theorem part_up (g : Nat) (l : List UInt8) (F : Nat) (caps : Array Value) (w : World) (hen : ∀ w, (callFunc F caps).run Try.prog w = .ok (.enter F caps) w) (hr : RdAt w g ⟨l, false⟩)
    (hF : ∀ w1, Chg [] w w1 → w1.heap.size = w.heap.size + 2 → Calls Try.prog F caps w1 (GaveUp g false w1)) :
    Calls Try.prog 47 #[.pointer (some ⟨g, 0, none⟩), .func (.func F) #[] caps] w fun e w' => e = .returned (.tuple #[]) ∧ RdAt w' g ⟨l, true⟩ ∧ Chg [g] w w' := by
  have HR := Lib.hid hr
  have HN := Lib.hid hr.nb
  obtain ⟨v, hi, hb⟩ := hr
  obtain ⟨a, c, rfl, _⟩ := hb.form
  have HB := Lib.hid hb
  have hlt := hi.lt
  have HI := Lib.hid hi
  have HF := Lib.hid hF
  clear hb hF hi
  have c0 : (w.alloc (.cells #[.pointer (some ⟨g, 0, none⟩)] 37)).cell? ⟨g, 0, none⟩ = some (.slice a l.length c) := by
    rw [((Below.refl w.heap.size w).alloc (Nat.le_refl _) _).cell (p := ⟨g, 0, none⟩) hlt]; exact HI.out.cell0
  have hmf : ∀ (fn : Fn) (first cap : Array Value) (w : World), (Instr.makeFunc fn first cap).run Try.prog w = .ok (.func fn first cap) w := fun _ _ _ _ => rfl
  go_enter_defers Try.func47, Try.ntmps47
  go_wp2_with (go_at_call 25; refine (err_good g l _ (chg_alloc_rd HR.out _)).mono ?_; rintro e w1 ⟨rfl, rfl⟩)
  refine (HF.out _ (((Chg.refl _ _).alloc _).alloc _) (by simp)).mono ?_
  rintro e w1 ⟨rfl, hs, hc⟩
  have hcw : Chg [g] w w1 := (((Chg.refl _ _).alloc _).alloc _).trans hc
  have b0 : w1.heap[w.heap.size]? = some (.cells #[.pointer (some ⟨g, 0, none⟩)] 37) := hc.heap (by rw [Below.heap_alloc _ _ _ (by simp)]; exact heap_alloc_new w _) (by simp; omega)
  have b1 : w1.heap[w.heap.size + 1]? = some (.cells #[.slice a l.length c] 27) := hc.heap (by have h := heap_alloc_new (w.alloc (.cells #[.pointer (some ⟨g, 0, none⟩)] 37)) (.cells #[.slice a l.length c] 27); simpa using h) (by simp; omega)
  refine leaves_cons (f := 60) (args := #[.pointer (some ⟨w.heap.size + 1, 0, none⟩), .pointer (some ⟨w.heap.size, 0, none⟩)]) (by simp) (by simp [go_sem]) ?_
  refine (deferred_caught g a l.length c ⟨w.heap.size + 1, 0, none⟩ ⟨w.heap.size, 0, none⟩ _ hs (cell_of_one b1) (cell_of_one b0)).mono ?_
  rintro e u' w2 ⟨rfl, hu, hc2, hin⟩
  have hc3 := hcw.trans hc2
  simp only [hu]
  refine ⟨_, results_none rfl _ _ _, rfl, ⟨_, hin, HB.out.chg hc3 (fun k hk => by rw [List.mem_singleton.1 hk]; exact HN.out)⟩, hc3⟩
end Go.Proofs.Ytniogemgkcoimaa
