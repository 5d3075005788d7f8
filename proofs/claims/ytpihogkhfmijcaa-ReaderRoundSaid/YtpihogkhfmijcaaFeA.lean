/- The place that is asked; to ask; to go on. -/
import Derived.Test.YtpihogkhfmijcaaFe
namespace Go.Proofs.Ytpihogkhfmijcaa
open Go.RowKit Go.Maps Go.Shelf
set_option linter.unusedSimpArgs false
set_option maxRecDepth 100000 in
/-- round's at, where there is a place -/
theorem at_any (a : Option Addr) (c : Nat) (l : List PL) (i : Int) (x : PL) (w : World) (hp : PsAt w (.slice a l.length c) l) (h0 : 0 ≤ i) (hx : l[i.toNat]? = some x) :
    Calls Try.prog 63 #[.slice a l.length c, .int .i64 i] w fun e w' => e = .returned (.tuple #[x.val, .bool true]) ∧ Below w.heap.size w w' := by
  obtain ⟨k, rfl⟩ : ∃ k : Nat, i = k := ⟨i.toNat, by omega⟩
  rw [Int.toNat_natCast] at hx
  obtain ⟨N, hN⟩ : ∃ N, l.length = N := ⟨_, rfl⟩
  have hk : k < N := by rw [← hN]; exact (List.getElem?_eq_some_iff.1 hx).1
  obtain ⟨b, off, rfl, hbl, hc⟩ := hp.cell hx
  rw [hN]
  obtain ⟨c0, c1⟩ := hc (w.alloc (.cells #[.int .i64 0, .int .u64 0] 38)) (Go.Joins.below_alloc1 w _)
  have HX := Lib.hid (BoxC.new w 38 #[.int .i64 0, .int .u64 0])
  have HB := Lib.hid (Go.Joins.below_alloc1 w (.cells #[.int .i64 0, .int .u64 0] 38))
  have d0 : ¬ ((k : Int) < 0) := by omega
  have d1 : ¬ ((N : Int) ≤ (k : Int)) := by omega
  have d2 : (k : Int) < (N : Int) := by omega
  have z0 := HX.out.cell 0
  have z1 := HX.out.cell 1
  have f0 := HX.out.fz
  simp only [List.getElem?_toArray, List.getElem?_cons_succ, List.getElem?_cons_zero] at z0 z1
  clear hc hN hx hp
  go_enter Try.func63, Try.ntmps63
  go_wp2
  refine bodyPost_ret (results_p2 rfl _ _ w.heap.size x rfl (BoxC.new w 38 _)) rfl ?_
  exact ⟨rfl, Go.Joins.below_alloc1 w _⟩
theorem behind_any (a : Option Addr) (c : Nat) (N : Nat) (i : Int) (w : World) (h0 : 0 ≤ i) (hN : i < (N : Int)) (hl : N ≤ 1000) :
    Calls Try.prog 55 #[.slice a N c, .int .i64 i] w fun e w' => e = .returned (.int .i64 ((i + 1) % (N : Int))) ∧ w' = w := by
  have e1 : IntKind.i64.wrap (i + 1) = i + 1 := by exact wrap_small _ (by omega) (by omega)
  have e2 : (i + 1).tmod (N : Int) = (i + 1) % (N : Int) := Int.tmod_eq_emod_of_nonneg (by omega)
  have e3 : ((N : Int) == 0) = false := by simp; omega
  have hN0 : (N : Int) ≠ 0 := by omega
  have e4 : max (i + 1) 0 = i + 1 := by omega
  go_enter Try.func55, Try.ntmps55
  go_wp2
  go_ret
  exact ⟨rfl, rfl⟩
abbrev cells38 : Obj := .cells #[.int .i64 0, .int .u64 0] 38
set_option maxRecDepth 100000 in
theorem asked_any {g : Nat} {x : FeV} {now : Int} {ra : Option Addr} {rc : Nat} {qs : List RqM} {w : World} (h : Wo w g x now ra rc qs) {p : PL} (h0 : 0 ≤ x.at') (hp : x.set[x.at'.toNat]? = some p) :
    Calls Try.prog 51 #[pg g] w fun e w' => e = .returned (.tuple #[p.val, .bool true]) ∧ Below w.heap.size w w' := by
  have HB := Lib.hid (Go.Joins.below_alloc1 w cells38)
  obtain ⟨-, -, c2, c3, -⟩ := (h.below HB.out).cells
  have HA := Lib.hid (fun Y (hY : Below (w.alloc cells38).heap.size (w.alloc cells38) Y) => at_any x.sa x.sc x.set x.at' p Y ((h.below HB.out).below hY).ok.st h0 hp)
  have HX := Lib.hid (fun Y w1 (hY : Below (w.alloc cells38).heap.size (w.alloc cells38) Y) (hb : Below Y.heap.size Y w1) => And.intro ((BoxC.new w 38 #[.int .i64 0, .int .u64 0]).below (hY.trans (hb.mono hY.size))) (HB.out.trans ((hY.trans (hb.mono hY.size)).mono HB.out.size)))
  generalize x.set.length = N at c2 HA
  clear h hp h0
  go_enter Try.func51, Try.ntmps51
  go_wp2_with fail
  go_region_law (go_simp; (with_reducible refine Calls.mono (HA.out _ (by first | exact Below.refl _ _ | exact Below.drew (Below.refl _ _) | exact below_drewN (Below.refl _ _) _)) ?_); rintro e w1 ⟨rfl, hb1⟩; have HX1 := Lib.hid (HX.out _ w1 (by first | exact Below.refl _ _ | exact Below.drew (Below.refl _ _) | exact below_drewN (Below.refl _ _) _) hb1); have f0 := HX1.out.1.fz; have z0 := HX1.out.1.cell 0; have z1 := HX1.out.1.cell 1; clear hb1)
  all_goals go_wp2
  all_goals refine bodyPost_ret (results_p2 rfl _ _ w.heap.size p rfl (HX1.out.1.full [.int .i64 p.n, .int .u64 p.s] rfl)) rfl ?_
  all_goals exact ⟨rfl, (HX1.out.2.setCell (p := ⟨w.heap.size, 0, none⟩) (Nat.le_refl _) _).setCell (p := ⟨w.heap.size, 1, none⟩) (Nat.le_refl _) _⟩
theorem info49 : (Try.prog.info? 49).map (fun i => (i.zero, i.size, i.bytes)) = some (some (.agg #[.int .i64 0, .int .u64 0, .int .i64 0, .int .u64 0, .int .u64 0, .int .u64 0, .int .u64 0, .int .i64 0, .slice none 0 0, .slice none 0 0]), 10, 112) := by kernel_rfl
theorem Wo.place {g : Nat} {x : FeV} {now : Int} {ra : Option Addr} {rc : Nat} {qs : List RqM} {w : World} (h : Wo w g x now ra rc qs) {p : PL} (hp : x.set[x.at'.toNat]? = some p) : p.ok := h.ok.st.ok p (List.mem_of_getElem? hp)
theorem rq_one (x : RqM) : ∀ u ∈ RqM.cells x, u.oneCell' = true := by
  intro u hu
  simp only [RqM.cells, List.mem_cons, List.not_mem_nil, or_false] at hu
  rcases hu with rfl | rfl | rfl | rfl | rfl | rfl | rfl | rfl | rfl | rfl <;> rfl
/-- behind the one that is put last -/
theorem ask_end {g : Nat} {y : FeV} {now : Int} {W Z w5 : World} (h : Wo W g y now none 0 []) (hZ : Below W.heap.size W Z) {q : RqM} (hq : q.ok) {g5 cap5 : Nat} (hG : Grown 49 10 RqM.cells W.heap.size Z (.slice none 0 0) [] q g5 cap5 w5) :
    Wo w5 g y now none 0 [] ∧ QsAt w5 (.slice (some ⟨g5, 0, none⟩) [q].length cap5) [q] ∧ (∀ b, ab (some (⟨g5, 0, none⟩ : Addr)) = some b → b ≠ g) ∧ Below W.heap.size W w5 ∧ W.heap.size ≤ g5 := by
  obtain ⟨hr, hgr, -, -⟩ := hG
  have hb : Below W.heap.size W w5 := hZ.grown hgr hZ.size (fun k e => by simp [Value.ownBlock] at e)
  refine ⟨h.below hb, ⟨OwnRow.base_le hr (Nat.zero_le _), (fun x hx => by rw [List.mem_singleton] at hx; rw [hx]; exact hq)⟩, fun b hb' => ?_, hb, (OwnRow.ab hr g5 rfl).1⟩
  have := (OwnRow.ab hr b hb').1
  have := h.box.lt
  omega
end Go.Proofs.Ytpihogkhfmijcaa
