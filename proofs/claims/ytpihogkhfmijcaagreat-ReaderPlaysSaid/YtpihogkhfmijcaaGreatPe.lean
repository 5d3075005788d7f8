/- The place that is asked; to ask; to go on. To ask. To go on; tick; to begin. -/
import Derived.Test.YtpihogkhfmijcaaGreatFe
import Derived.Deep.RegionHeldLaw
namespace Go.Proofs.YtpihogkhfmijcaaGreat
open Go.RowKit Go.Maps Go.Shelf
set_option linter.unusedSimpArgs false
set_option maxRecDepth 100000 in
/-- round's at, where there is a place -/
theorem at_any (a : Option Addr) (c : Nat) (l : List PL) (i : Int) (x : PL) (w : World) (hp : PsAt w (.slice a l.length c) l) (h0 : 0 ≤ i) (hx : l[i.toNat]? = some x) :
    Calls Tryz.prog 74 #[.slice a l.length c, .int .i64 i] w fun e w' => e = .returned (.tuple #[x.val, .bool true]) ∧ Below w.heap.size w w' := by
  obtain ⟨k, rfl⟩ : ∃ k : Nat, i = k := ⟨i.toNat, by omega⟩
  rw [Int.toNat_natCast] at hx
  obtain ⟨N, hN⟩ : ∃ N, l.length = N := ⟨_, rfl⟩
  have hk : k < N := by rw [← hN]; exact (List.getElem?_eq_some_iff.1 hx).1
  obtain ⟨b, off, rfl, hbl, hc⟩ := hp.cell hx
  rw [hN]
  obtain ⟨c0, c1⟩ := hc (w.alloc (.cells #[.int .i64 0, .int .u64 0] 40)) (Go.Joins.below_alloc1 w _)
  have HX := Lib.hid (BoxC.new w 40 #[.int .i64 0, .int .u64 0])
  have HB := Lib.hid (Go.Joins.below_alloc1 w (.cells #[.int .i64 0, .int .u64 0] 40))
  have d0 : ¬ ((k : Int) < 0) := by omega
  have d1 : ¬ ((N : Int) ≤ (k : Int)) := by omega
  have d2 : (k : Int) < (N : Int) := by omega
  have z0 := HX.out.cell 0
  have z1 := HX.out.cell 1
  have f0 := HX.out.fz
  simp only [List.getElem?_toArray, List.getElem?_cons_succ, List.getElem?_cons_zero] at z0 z1
  clear hc hN hx hp
  go_enter Tryz.func74, Tryz.ntmps74
  go_wp2
  refine bodyPost_ret (results_p2 rfl _ _ w.heap.size x rfl (BoxC.new w 40 _)) rfl ?_
  exact ⟨rfl, Go.Joins.below_alloc1 w _⟩
theorem behind_any (a : Option Addr) (c : Nat) (N : Nat) (i : Int) (w : World) (h0 : 0 ≤ i) (hN : i < (N : Int)) (hl : N ≤ 1000) :
    Calls Tryz.prog 66 #[.slice a N c, .int .i64 i] w fun e w' => e = .returned (.int .i64 ((i + 1) % (N : Int))) ∧ w' = w := by
  have e1 : IntKind.i64.wrap (i + 1) = i + 1 := by exact wrap_small _ (by omega) (by omega)
  have e2 : (i + 1).tmod (N : Int) = (i + 1) % (N : Int) := Int.tmod_eq_emod_of_nonneg (by omega)
  have e3 : ((N : Int) == 0) = false := by simp; omega
  have hN0 : (N : Int) ≠ 0 := by omega
  have e4 : max (i + 1) 0 = i + 1 := by omega
  go_enter Tryz.func66, Tryz.ntmps66
  go_wp2
  go_ret
  exact ⟨rfl, rfl⟩
abbrev cells38 : Obj := .cells #[.int .i64 0, .int .u64 0] 40
set_option maxRecDepth 100000 in
theorem asked_any {g : Nat} {x : FeV} {now : Int} {ra : Option Addr} {rc : Nat} {qs : List RqM} {w : World} (h : Wo w g x now ra rc qs) {p : PL} (h0 : 0 ≤ x.at') (hp : x.set[x.at'.toNat]? = some p) :
    Calls Tryz.prog 61 #[pg g] w fun e w' => e = .returned (.tuple #[p.val, .bool true]) ∧ Below w.heap.size w w' := by
  have HB := Lib.hid (Go.Joins.below_alloc1 w cells38)
  obtain ⟨-, -, c2, c3, -⟩ := (h.below HB.out).cells
  have HA := Lib.hid (fun Y (hY : Below (w.alloc cells38).heap.size (w.alloc cells38) Y) => at_any x.sa x.sc x.set x.at' p Y ((h.below HB.out).below hY).ok.st h0 hp)
  have HX := Lib.hid (fun Y w1 (hY : Below (w.alloc cells38).heap.size (w.alloc cells38) Y) (hb : Below Y.heap.size Y w1) => And.intro ((BoxC.new w 40 #[.int .i64 0, .int .u64 0]).below (hY.trans (hb.mono hY.size))) (HB.out.trans ((hY.trans (hb.mono hY.size)).mono HB.out.size)))
  generalize x.set.length = N at c2 HA
  clear h hp h0
  go_enter Tryz.func61, Tryz.ntmps61
  go_wp2_with fail
  go_region_law (go_simp; (with_reducible refine Calls.mono (HA.out _ (by first | exact Below.refl _ _ | exact Below.drew (Below.refl _ _) | exact below_drewN (Below.refl _ _) _)) ?_); rintro e w1 ⟨rfl, hb1⟩; have HX1 := Lib.hid (HX.out _ w1 (by first | exact Below.refl _ _ | exact Below.drew (Below.refl _ _) | exact below_drewN (Below.refl _ _) _) hb1); have f0 := HX1.out.1.fz; have z0 := HX1.out.1.cell 0; have z1 := HX1.out.1.cell 1; clear hb1)
  all_goals go_wp2
  all_goals refine bodyPost_ret (results_p2 rfl _ _ w.heap.size p rfl (HX1.out.1.full [.int .i64 p.n, .int .u64 p.s] rfl)) rfl ?_
  all_goals exact ⟨rfl, (HX1.out.2.setCell (p := ⟨w.heap.size, 0, none⟩) (Nat.le_refl _) _).setCell (p := ⟨w.heap.size, 1, none⟩) (Nat.le_refl _) _⟩
theorem info49 : (Tryz.prog.info? 56).map (fun i => (i.zero, i.size, i.bytes)) = some (some (.agg #[.int .i64 0, .int .u64 0, .int .i64 0, .int .u64 0, .int .u64 0, .int .u64 0, .int .u64 0, .int .i64 0, .slice none 0 0, .slice none 0 0]), 10, 112) := by kernel_rfl
theorem Wo.place {g : Nat} {x : FeV} {now : Int} {ra : Option Addr} {rc : Nat} {qs : List RqM} {w : World} (h : Wo w g x now ra rc qs) {p : PL} (hp : x.set[x.at'.toNat]? = some p) : p.ok := h.ok.st.ok p (List.mem_of_getElem? hp)
theorem rq_one (x : RqM) : ∀ u ∈ RqM.cells x, u.oneCell' = true := by
  intro u hu
  simp only [RqM.cells, List.mem_cons, List.not_mem_nil, or_false] at hu
  rcases hu with rfl | rfl | rfl | rfl | rfl | rfl | rfl | rfl | rfl | rfl <;> rfl
/-- behind the one that is put last -/
theorem ask_end {g : Nat} {y : FeV} {now : Int} {W Z w5 : World} (h : Wo W g y now none 0 []) (hZ : Below W.heap.size W Z) {q : RqM} (hq : q.ok) {g5 cap5 : Nat} (hG : Grown 56 10 RqM.cells W.heap.size Z (.slice none 0 0) [] q g5 cap5 w5) :
    Wo w5 g y now none 0 [] ∧ QsAt w5 (.slice (some ⟨g5, 0, none⟩) [q].length cap5) [q] ∧ (∀ b, ab (some (⟨g5, 0, none⟩ : Addr)) = some b → b ≠ g) ∧ Below W.heap.size W w5 ∧ W.heap.size ≤ g5 := by
  obtain ⟨hr, hgr, -, -⟩ := hG
  have hb : Below W.heap.size W w5 := hZ.grown hgr hZ.size (fun k e => by simp [Value.ownBlock] at e)
  refine ⟨h.below hb, ⟨OwnRow.base_le hr (Nat.zero_le _), (fun x hx => by rw [List.mem_singleton] at hx; rw [hx]; exact hq)⟩, fun b hb' => ?_, hb, (OwnRow.ab hr g5 rfl).1⟩
  have := (OwnRow.ab hr b hb').1
  have := h.box.lt
  omega
end Go.Proofs.YtpihogkhfmijcaaGreat
namespace Go.Proofs.YtpihogkhfmijcaaGreat
open Go.RowKit Go.Maps Go.Shelf
set_option linter.unusedSimpArgs false
/-- what asking reads -/
def AskS (g : Nat) (p : PL) (x : FeV) (B : Nat) (W : World) : Prop := (W.cell? ⟨B, 0, none⟩ = some (.int .i64 p.n) ∧ W.cell? ⟨B, 1, none⟩ = some (.int .u64 p.s)) ∧ W.cell? ⟨g, 0, none⟩ = some (.int .u64 x.id) ∧ W.cell? ⟨g, 1, none⟩ = some (.int .u64 x.n) ∧ W.cell? ⟨g, 5, none⟩ = some (.int .u64 x.tag)
theorem AskS.of {g : Nat} {p : PL} {x : FeV} {B : Nat} {W Z : World} (h : AskS g p x B W) (hb : Below W.heap.size W Z) : AskS g p x B Z := by
  obtain ⟨⟨a, b⟩, c, d, e⟩ := h
  have k : ∀ (q : Addr) (v : Value), W.cell? q = some v → Z.cell? q = some v := fun q v hq => (hb.cell (World.block_lt_of_cell? W q hq)).trans hq
  exact ⟨⟨k _ _ a, k _ _ b⟩, k _ _ c, k _ _ d, k _ _ e⟩
theorem AskS.put {g : Nat} {p : PL} {x : FeV} {B : Nat} {W : World} (h : AskS g p x B W) (hn : B ≠ g) (v : Value) : AskS g p x B (W.setCell ⟨g, 9, none⟩ v) := by
  obtain ⟨⟨a, b⟩, c, d, e⟩ := h
  have k : ∀ (q : Addr) (u : Value), W.cell? q = some u → q ≠ ⟨g, 9, none⟩ → (W.setCell ⟨g, 9, none⟩ v).cell? q = some u := fun q u hq hne => (World.cell?_setCell_other W ⟨g, 9, none⟩ q v (fun e => hne (by first | exact e | exact e.symm))).trans hq
  exact ⟨⟨k _ _ a (fun e => hn (congrArg Addr.block e)), k _ _ b (fun e => hn (congrArg Addr.block e))⟩, k _ _ c (fun e => by cases e), k _ _ d (fun e => by cases e), k _ _ e (fun e => by cases e)⟩
theorem ask_blk {x : FeV} {n s g5 : Nat} (h : n ≤ s) (h5 : s ≤ g5) : ∀ b, x.blk b ∨ ab (some (⟨g5, 0, none⟩ : Addr)) = some b → x.blk b ∨ n ≤ b := fun b hb => by
  rcases hb with hb | hb
  · exact .inl hb
  · cases hb; exact .inr (Nat.le_trans h h5)
/-- the fetch that has asked -/
def FeV.asks (x : FeV) (now : Int) : FeV := { x with since := now }
set_option maxRecDepth 100000 in
set_option maxHeartbeats 8000000 in
theorem ask_any {g : Nat} {x : FeV} {now : Int} {w : World} (h : Wo w g x now none 0 []) {p : PL} (h0 : 0 ≤ x.at') (hp : x.set[x.at'.toNat]? = some p) :
    Calls Tryz.prog 42 #[pg g] w fun e w' => WoPost g now x (x.asks now).m [⟨p, x.id, x.n, x.tag⟩] w e w' := by
  have HA := Lib.hid (asked_any h h0 hp)
  have HP := Lib.hid (And.intro (h.place hp) h)
  clear h hp h0
  go_enter Tryz.func42, Tryz.ntmps42
  go_wp2_with fail
  refine HA.out.mono ?_
  rintro e w1 ⟨rfl, hb1⟩
  have hw1 := HP.out.2.below (hb1.alloc hb1.size (.cells #[.int .i64 p.n, .int .u64 p.s] 40))
  obtain ⟨-, -, -, -, c4, -, -, -, c8, -⟩ := hw1.cells
  have f0 := hw1.fz
  have hB1 := hb1.alloc hb1.size (.cells #[.int .i64 p.n, .int .u64 p.s] 40)
  have hgw := HP.out.2.box.lt
  obtain ⟨W, hW⟩ : ∃ W, W = (w1.alloc (.cells #[.int .i64 p.n, .int .u64 p.s] 40)).setCell ⟨g, 4, none⟩ (.int .u64 now) := ⟨_, rfl⟩
  have hWo : Wo W g (x.asks now) now none 0 [] := by rw [hW]; exact hw1.set4 now hw1.nw
  have hC : Ch1 g w W := by rw [hW]; exact (Ch1.of hB1).trans (Ch1.set _ g 4 _)
  have hq := hb1.size
  have hPB : BoxC W w1.heap.size 40 #[.int .i64 p.n, .int .u64 p.s] := by rw [hW]; exact (BoxC.new w1 40 _).other (by omega) 4 _
  have HW := Lib.hid (And.intro hWo (And.intro hC hPB))
  have HNG := Lib.hid (show w1.heap.size ≠ g by omega)
  have HQ := Lib.hid (show RqM.ok ⟨p, x.id, x.n, x.tag⟩ from ⟨HP.out.1, HP.out.2.ok.nums.1.1, HP.out.2.ok.nums.1.2, HP.out.2.ok.nums.2.2.2.1⟩)
  have HSA := Lib.hid (fun Z (hZ : Below W.heap.size W Z) => AskS.of (W := W) (g := g) (p := p) (x := x) (B := w1.heap.size) ⟨⟨hPB.cell 0, hPB.cell 1⟩, hWo.cells.1, hWo.cells.2.1, hWo.cells.2.2.2.2.2.1⟩ hZ)
  have HLE := Lib.hid hC.size
  clear hb1 hw1 hB1 hgw hWo hC hPB hq
  go_wp2_with fail
  rw [← hW]
  have d9 := HW.out.1.cells.2.2.2.2.2.2.2.2.2
  have d9a : ∀ o, (W.alloc o).cell? ⟨g, 9, none⟩ = some (.slice none 0 0) := fun o => ((Go.Joins.below_alloc1 W o).cell (p := ⟨g, 9, none⟩) HW.out.1.box.lt).trans d9
  simp only [List.length_nil] at d9
  clear hW c4 c8 f0
  have HSD := Lib.hid (HSA.out W.drew (Below.drew (Below.refl _ _)))
  refine wp_region_held_drew (S := AskS g p x w1.heap.size) (by kernel_rfl) HSD.out (fun hHeld => ?_)
  refine wpAnyH_take (i := 0) (oi := _) (v := ?v1) rfl (by kernel_rfl) (by kernel_rfl) (by kernel_rfl) (fun _ _ _ h => h) (Or.inl ⟨by rfl, ?h1⟩) hHeld ?r1
  case h1 => (intro w hSw; (try unfold AskS at hSw); (try dsimp only at hSw); go_simp; try with_reducible rfl)
  try simp only [List.getElem_toArray, List.getElem_cons_succ, List.getElem_cons_zero, Act.put, List.setIfInBounds_toArray, List.set_cons_zero, List.set_cons_succ]
  refine wpAnyH_take (i := 1) (oi := _) (v := ?v2) rfl (by kernel_rfl) (by kernel_rfl) (by kernel_rfl) (fun _ _ _ h => h) (Or.inl ⟨by rfl, ?h2⟩) hHeld ?r2
  case h2 => (intro w hSw; (try unfold AskS at hSw); (try dsimp only at hSw); go_simp; try with_reducible rfl)
  try simp only [List.getElem_toArray, List.getElem_cons_succ, List.getElem_cons_zero, Act.put, List.setIfInBounds_toArray, List.set_cons_zero, List.set_cons_succ]
  refine wpAnyH_take (i := 2) (oi := _) (v := ?v3) rfl (by kernel_rfl) (by kernel_rfl) (by kernel_rfl) (fun _ _ _ h => h) (Or.inl ⟨by rfl, ?h3⟩) hHeld ?r3
  case h3 => (intro w hSw; (try unfold AskS at hSw); (try dsimp only at hSw); go_simp; try with_reducible rfl)
  try simp only [List.getElem_toArray, List.getElem_cons_succ, List.getElem_cons_zero, Act.put, List.setIfInBounds_toArray, List.set_cons_zero, List.set_cons_succ]
  refine wpAnyH_take (i := 3) (oi := _) (v := ?v4) rfl (by kernel_rfl) (by kernel_rfl) (by kernel_rfl) (fun _ _ _ h => h) (Or.inl ⟨by rfl, ?h4⟩) hHeld ?r4
  case h4 => (intro w hSw; (try unfold AskS at hSw); (try dsimp only at hSw); go_simp; try with_reducible rfl)
  try simp only [List.getElem_toArray, List.getElem_cons_succ, List.getElem_cons_zero, Act.put, List.setIfInBounds_toArray, List.set_cons_zero, List.set_cons_succ]
  refine wpAnyH_take (i := 5) (oi := _) (v := ?v5) rfl (by kernel_rfl) (by kernel_rfl) (by kernel_rfl) (fun _ _ _ h => h) (Or.inl ⟨by rfl, ?h5⟩) hHeld ?r5
  case h5 => (intro w hSw; (try unfold AskS at hSw); (try dsimp only at hSw); go_simp; try with_reducible rfl)
  try simp only [List.getElem_toArray, List.getElem_cons_succ, List.getElem_cons_zero, Act.put, List.setIfInBounds_toArray, List.set_cons_zero, List.set_cons_succ]
  refine wpAnyH_take (i := 6) (oi := _) (v := ?v6) rfl (by kernel_rfl) (by kernel_rfl) (by kernel_rfl) (fun _ _ _ h => h) (Or.inl ⟨by rfl, ?h6⟩) hHeld ?r6
  case h6 => (intro w hSw; (try unfold AskS at hSw); (try dsimp only at hSw); go_simp; try with_reducible rfl)
  try simp only [List.getElem_toArray, List.getElem_cons_succ, List.getElem_cons_zero, Act.put, List.setIfInBounds_toArray, List.set_cons_zero, List.set_cons_succ]
  refine wpAnyH_take (i := 7) (oi := _) (v := ?v7) rfl (by kernel_rfl) (by kernel_rfl) (by kernel_rfl) (fun _ _ _ h => h) (Or.inl ⟨by rfl, ?h7⟩) hHeld ?r7
  case h7 => (intro w hSw; (try unfold AskS at hSw); (try dsimp only at hSw); go_simp; try with_reducible rfl)
  try simp only [List.getElem_toArray, List.getElem_cons_succ, List.getElem_cons_zero, Act.put, List.setIfInBounds_toArray, List.set_cons_zero, List.set_cons_succ]
  refine wpAnyH_take (i := 8) (oi := _) (v := ?v8) rfl (by kernel_rfl) (by kernel_rfl) (by kernel_rfl) (fun _ _ _ h => h) (Or.inl ⟨by rfl, ?h8⟩) hHeld ?r8
  case h8 => (intro w hSw; (try unfold AskS at hSw); (try dsimp only at hSw); go_simp; try with_reducible rfl)
  try simp only [List.getElem_toArray, List.getElem_cons_succ, List.getElem_cons_zero, Act.put, List.setIfInBounds_toArray, List.set_cons_zero, List.set_cons_succ]
  refine wpAnyH_take (i := 9) (oi := _) (v := ?v9) rfl (by kernel_rfl) (by kernel_rfl) (by kernel_rfl) (fun _ _ _ h => h) (Or.inl ⟨by rfl, ?h9⟩) hHeld ?r9
  case h9 => (intro w hSw; (try unfold AskS at hSw); (try dsimp only at hSw); go_simp; try with_reducible rfl)
  try simp only [List.getElem_toArray, List.getElem_cons_succ, List.getElem_cons_zero, Act.put, List.setIfInBounds_toArray, List.set_cons_zero, List.set_cons_succ]
  refine wpAnyH_take (i := 10) (oi := _) (v := ?v10) rfl (by kernel_rfl) (by kernel_rfl) (by kernel_rfl) (fun _ _ _ h => h) (Or.inl ⟨by rfl, ?h10⟩) hHeld ?r10
  case h10 => (intro w hSw; (try unfold AskS at hSw); (try dsimp only at hSw); go_simp; try with_reducible rfl)
  try simp only [List.getElem_toArray, List.getElem_cons_succ, List.getElem_cons_zero, Act.put, List.setIfInBounds_toArray, List.set_cons_zero, List.set_cons_succ]
  refine wpAnyH_take (i := 11) (oi := _) (v := ?v11) rfl (by kernel_rfl) (by kernel_rfl) (by kernel_rfl) (fun _ _ _ h => h) (Or.inl ⟨by rfl, ?h11⟩) hHeld ?r11
  case h11 => (intro w hSw; (try unfold AskS at hSw); (try dsimp only at hSw); go_simp; try with_reducible rfl)
  try simp only [List.getElem_toArray, List.getElem_cons_succ, List.getElem_cons_zero, Act.put, List.setIfInBounds_toArray, List.set_cons_zero, List.set_cons_succ]
  refine wpAnyH_take (i := 12) (oi := _) (v := ?v12) rfl (by kernel_rfl) (by kernel_rfl) (by kernel_rfl) (fun _ _ _ h => h) (Or.inl ⟨by rfl, ?h12⟩) hHeld ?r12
  case h12 => (intro w hSw; (try unfold AskS at hSw); (try dsimp only at hSw); go_simp; try with_reducible rfl)
  try simp only [List.getElem_toArray, List.getElem_cons_succ, List.getElem_cons_zero, Act.put, List.setIfInBounds_toArray, List.set_cons_zero, List.set_cons_succ]
  refine wpAnyH_take (i := 13) (oi := _) (v := ?v13) rfl (by kernel_rfl) (by kernel_rfl) (by kernel_rfl) (fun _ _ _ h => h) (Or.inl ⟨by rfl, ?h13⟩) hHeld ?r13
  case h13 => (intro w hSw; (try unfold AskS at hSw); (try dsimp only at hSw); go_simp; try with_reducible rfl)
  try simp only [List.getElem_toArray, List.getElem_cons_succ, List.getElem_cons_zero, Act.put, List.setIfInBounds_toArray, List.set_cons_zero, List.set_cons_succ]
  refine wpAnyH_take (i := 14) (oi := _) (v := ?v14) rfl (by kernel_rfl) (by kernel_rfl) (by kernel_rfl) (fun _ _ _ h => h) (Or.inl ⟨by rfl, ?h14⟩) hHeld ?r14
  case h14 => (intro w hSw; (try unfold AskS at hSw); (try dsimp only at hSw); go_simp; try with_reducible rfl)
  try simp only [List.getElem_toArray, List.getElem_cons_succ, List.getElem_cons_zero, Act.put, List.setIfInBounds_toArray, List.set_cons_zero, List.set_cons_succ]
  refine wpAnyH_take (i := 15) (oi := _) (v := ?v15) rfl (by kernel_rfl) (by kernel_rfl) (by kernel_rfl) (fun _ _ _ h => h) (Or.inl ⟨by rfl, ?h15⟩) hHeld ?r15
  case h15 => (intro w hSw; (try unfold AskS at hSw); (try dsimp only at hSw); go_simp; try with_reducible rfl)
  try simp only [List.getElem_toArray, List.getElem_cons_succ, List.getElem_cons_zero, Act.put, List.setIfInBounds_toArray, List.set_cons_zero, List.set_cons_succ]
  refine wpAnyH_take (i := 16) (oi := _) (v := ?v16) rfl (by kernel_rfl) (by kernel_rfl) (by kernel_rfl) (fun _ _ _ h => h) (Or.inl ⟨by rfl, ?h16⟩) hHeld ?r16
  case h16 => (intro w hSw; (try unfold AskS at hSw); (try dsimp only at hSw); go_simp; try with_reducible rfl)
  try simp only [List.getElem_toArray, List.getElem_cons_succ, List.getElem_cons_zero, Act.put, List.setIfInBounds_toArray, List.set_cons_zero, List.set_cons_succ]
  refine wpAnyH_take (i := 17) (oi := _) (v := ?v17) rfl (by kernel_rfl) (by kernel_rfl) (by kernel_rfl) (fun _ _ _ h => h) (Or.inl ⟨by rfl, ?h17⟩) hHeld ?r17
  case h17 => (intro w hSw; (try unfold AskS at hSw); (try dsimp only at hSw); go_simp; try with_reducible rfl)
  try simp only [List.getElem_toArray, List.getElem_cons_succ, List.getElem_cons_zero, Act.put, List.setIfInBounds_toArray, List.set_cons_zero, List.set_cons_succ]
  refine wpAnyH_take (i := 18) (oi := _) (v := ?v18) rfl (by kernel_rfl) (by kernel_rfl) (by kernel_rfl) (fun _ _ _ h => h) (Or.inl ⟨by rfl, ?h18⟩) hHeld ?r18
  case h18 => (intro w hSw; (try unfold AskS at hSw); (try dsimp only at hSw); go_simp; try with_reducible rfl)
  try simp only [List.getElem_toArray, List.getElem_cons_succ, List.getElem_cons_zero, Act.put, List.setIfInBounds_toArray, List.set_cons_zero, List.set_cons_succ]
  refine wpAnyH_take (i := 19) (oi := _) (v := ?v19) rfl (by kernel_rfl) (by kernel_rfl) (by kernel_rfl) (fun _ _ _ h => h) (Or.inl ⟨by rfl, ?h19⟩) hHeld ?r19
  case h19 => (intro w hSw; (try unfold AskS at hSw); (try dsimp only at hSw); go_simp; try with_reducible rfl)
  try simp only [List.getElem_toArray, List.getElem_cons_succ, List.getElem_cons_zero, Act.put, List.setIfInBounds_toArray, List.set_cons_zero, List.set_cons_succ]
  refine wpAnyH_take (i := 20) (oi := _) (v := ?v20) rfl (by kernel_rfl) (by kernel_rfl) (by kernel_rfl) (fun _ _ _ h => h) (Or.inl ⟨by rfl, ?h20⟩) hHeld ?r20
  case h20 => (intro w hSw; (try unfold AskS at hSw); (try dsimp only at hSw); go_simp; try with_reducible rfl)
  try simp only [List.getElem_toArray, List.getElem_cons_succ, List.getElem_cons_zero, Act.put, List.setIfInBounds_toArray, List.set_cons_zero, List.set_cons_succ]
  refine wpAnyH_take (i := 21) (oi := _) (v := ?v21) rfl (by kernel_rfl) (by kernel_rfl) (by kernel_rfl) (fun _ _ _ h => h) (Or.inl ⟨by rfl, ?h21⟩) hHeld ?r21
  case h21 => (intro w hSw; (try unfold AskS at hSw); (try dsimp only at hSw); go_simp; try with_reducible rfl)
  try simp only [List.getElem_toArray, List.getElem_cons_succ, List.getElem_cons_zero, Act.put, List.setIfInBounds_toArray, List.set_cons_zero, List.set_cons_succ]
  refine wpAnyH_ready (rs := [4, 22]) (by kernel_rfl) (by simp) ?_
  refine AllReadyH.cons rfl (fun K hK => ?_) ?_
  · go_simp
    refine hK.out _ _ ?_ (fun hHeld => ?_)
    · exact hHeld
    clear hK K
    refine wpAnyH_ready (rs := [22]) (by kernel_rfl) (by simp) ?_
    refine AllReadyH.cons rfl (fun K hK => ?_) ?_
    · go_simp
      refine hK.out _ _ ?_ (fun hHeld => ?_)
      · exact HSA.out _ (by first | exact Below.refl _ _ | exact Below.drew (Below.refl _ _) | exact Below.drew (Go.Joins.below_alloc1 _ _) | exact Below.alloc (Below.drew (Below.refl _ _)) (Nat.le_refl _) _ | exact Go.Joins.below_alloc1 _ _)
      clear hK K
      refine wpAnyH_ready (rs := [23]) (by kernel_rfl) (by simp) ?_
      refine AllReadyH.cons rfl (fun K hK => ?_) ?_
      · refine step_app_one rfl (.tmp 22) (.tmp 40) 33 56 10 112 _ RqM.cells rfl Tryz.underlying33 info49 rfl (by decide) (by decide) (fun _ => rfl) W.heap.size (.slice none 0 0) [] ⟨p, x.id, x.n, x.tag⟩ W.heap.size (by simp [Act.eval]) (by simp [Act.eval]) (World.ownsRow_nil _ _ _ _) (BoxC.new _ _ _) (rq_one _) (by simp) (Below.size (show Below W.heap.size W _ from (by first | exact Below.refl _ _ | exact Below.drew (Below.refl _ _) | exact Below.drew (Go.Joins.below_alloc1 _ _) | exact Below.alloc (Below.drew (Below.refl _ _)) (Nat.le_refl _) _ | exact Go.Joins.below_alloc1 _ _))) ?_
        intro g5 cap5 w5 hg5
        have HE := Lib.hid (ask_end HW.out.1 (show Below W.heap.size W _ from (by first | exact Below.refl _ _ | exact Below.drew (Below.refl _ _) | exact Below.drew (Go.Joins.below_alloc1 _ _) | exact Below.alloc (Below.drew (Below.refl _ _)) (Nat.le_refl _) _ | exact Go.Joins.below_alloc1 _ _)) HQ.out hg5)
        have e9 := HE.out.1.cells.2.2.2.2.2.2.2.2.2
        have f9 := HE.out.1.fz
        have HS5 := Lib.hid (HSA.out w5 HE.out.2.2.2.1)
        clear hg5
        refine hK.out _ _ ?_ (fun hHeld => ?_)
        · exact HS5.out
        clear hK K
        refine wpAnyH_take (i := 24) (oi := _) (v := ?v22) rfl (by kernel_rfl) (by kernel_rfl) (by kernel_rfl) (fun _ _ _ h => h) (Or.inl ⟨by rfl, ?h22⟩) hHeld ?r22
        case h22 => (intro w hSw; (try unfold AskS at hSw); (try dsimp only at hSw); go_simp; try with_reducible rfl)
        try simp only [List.getElem_toArray, List.getElem_cons_succ, List.getElem_cons_zero, Act.put, List.setIfInBounds_toArray, List.set_cons_zero, List.set_cons_succ]
        refine wpAnyH_take (i := 25) (oi := _) (v := ?v23) rfl (by kernel_rfl) (by kernel_rfl) (by kernel_rfl) (fun _ _ _ h => h) (Or.inl ⟨by rfl, ?h23⟩) hHeld ?r23
        case h23 => (intro w hSw; (try unfold AskS at hSw); (try dsimp only at hSw); go_simp; try with_reducible rfl)
        try simp only [List.getElem_toArray, List.getElem_cons_succ, List.getElem_cons_zero, Act.put, List.setIfInBounds_toArray, List.set_cons_zero, List.set_cons_succ]
        refine wpAnyH_ready (rs := [26]) (by kernel_rfl) (by simp) ?_
        refine AllReadyH.cons rfl (fun K hK => ?_) ?_
        · go_simp
          refine hK.out _ _ ?_ (fun hHeld => ?_)
          · exact AskS.put HS5.out HNG.out _
          clear hK K
          refine wpAnyH_done (by kernel_rfl) ?_ _
          go_wp2
          go_end0
          exact ⟨⟨_, rfl⟩, x.asks now, _, _, rfl, HE.out.1.set9 HE.out.2.1 HE.out.2.2.1, (HW.out.2.1.trans (Ch1.of HE.out.2.2.2.1)).trans (Ch1.set _ g 9 _), ask_blk HLE.out HE.out.2.2.2.2⟩
        exact AllReadyH.nil
      exact AllReadyH.nil
    exact AllReadyH.nil
  refine AllReadyH.cons rfl (fun K hK => ?_) ?_
  · go_simp
    refine hK.out _ _ ?_ (fun hHeld => ?_)
    · exact HSA.out _ (by first | exact Below.refl _ _ | exact Below.drew (Below.refl _ _) | exact Below.drew (Go.Joins.below_alloc1 _ _) | exact Below.alloc (Below.drew (Below.refl _ _)) (Nat.le_refl _) _ | exact Go.Joins.below_alloc1 _ _)
    clear hK K
    refine wpAnyH_ready (rs := [4]) (by kernel_rfl) (by simp) ?_
    refine AllReadyH.cons rfl (fun K hK => ?_) ?_
    · go_simp
      refine hK.out _ _ ?_ (fun hHeld => ?_)
      · exact hHeld
      clear hK K
      refine wpAnyH_ready (rs := [23]) (by kernel_rfl) (by simp) ?_
      refine AllReadyH.cons rfl (fun K hK => ?_) ?_
      · refine step_app_one rfl (.tmp 22) (.tmp 40) 33 56 10 112 _ RqM.cells rfl Tryz.underlying33 info49 rfl (by decide) (by decide) (fun _ => rfl) W.heap.size (.slice none 0 0) [] ⟨p, x.id, x.n, x.tag⟩ W.heap.size (by simp [Act.eval]) (by simp [Act.eval]) (World.ownsRow_nil _ _ _ _) (BoxC.new _ _ _) (rq_one _) (by simp) (Below.size (show Below W.heap.size W _ from (by first | exact Below.refl _ _ | exact Below.drew (Below.refl _ _) | exact Below.drew (Go.Joins.below_alloc1 _ _) | exact Below.alloc (Below.drew (Below.refl _ _)) (Nat.le_refl _) _ | exact Go.Joins.below_alloc1 _ _))) ?_
        intro g5 cap5 w5 hg5
        have HE := Lib.hid (ask_end HW.out.1 (show Below W.heap.size W _ from (by first | exact Below.refl _ _ | exact Below.drew (Below.refl _ _) | exact Below.drew (Go.Joins.below_alloc1 _ _) | exact Below.alloc (Below.drew (Below.refl _ _)) (Nat.le_refl _) _ | exact Go.Joins.below_alloc1 _ _)) HQ.out hg5)
        have e9 := HE.out.1.cells.2.2.2.2.2.2.2.2.2
        have f9 := HE.out.1.fz
        have HS5 := Lib.hid (HSA.out w5 HE.out.2.2.2.1)
        clear hg5
        refine hK.out _ _ ?_ (fun hHeld => ?_)
        · exact HS5.out
        clear hK K
        refine wpAnyH_take (i := 24) (oi := _) (v := ?v24) rfl (by kernel_rfl) (by kernel_rfl) (by kernel_rfl) (fun _ _ _ h => h) (Or.inl ⟨by rfl, ?h24⟩) hHeld ?r24
        case h24 => (intro w hSw; (try unfold AskS at hSw); (try dsimp only at hSw); go_simp; try with_reducible rfl)
        try simp only [List.getElem_toArray, List.getElem_cons_succ, List.getElem_cons_zero, Act.put, List.setIfInBounds_toArray, List.set_cons_zero, List.set_cons_succ]
        refine wpAnyH_take (i := 25) (oi := _) (v := ?v25) rfl (by kernel_rfl) (by kernel_rfl) (by kernel_rfl) (fun _ _ _ h => h) (Or.inl ⟨by rfl, ?h25⟩) hHeld ?r25
        case h25 => (intro w hSw; (try unfold AskS at hSw); (try dsimp only at hSw); go_simp; try with_reducible rfl)
        try simp only [List.getElem_toArray, List.getElem_cons_succ, List.getElem_cons_zero, Act.put, List.setIfInBounds_toArray, List.set_cons_zero, List.set_cons_succ]
        refine wpAnyH_ready (rs := [26]) (by kernel_rfl) (by simp) ?_
        refine AllReadyH.cons rfl (fun K hK => ?_) ?_
        · go_simp
          refine hK.out _ _ ?_ (fun hHeld => ?_)
          · exact AskS.put HS5.out HNG.out _
          clear hK K
          refine wpAnyH_done (by kernel_rfl) ?_ _
          go_wp2
          go_end0
          exact ⟨⟨_, rfl⟩, x.asks now, _, _, rfl, HE.out.1.set9 HE.out.2.1 HE.out.2.2.1, (HW.out.2.1.trans (Ch1.of HE.out.2.2.2.1)).trans (Ch1.set _ g 9 _), ask_blk HLE.out HE.out.2.2.2.2⟩
        exact AllReadyH.nil
      exact AllReadyH.nil
    exact AllReadyH.nil
  exact AllReadyH.nil
end Go.Proofs.YtpihogkhfmijcaaGreat
namespace Go.Proofs.YtpihogkhfmijcaaGreat
open Go.RowKit Go.Maps Go.Shelf
set_option linter.unusedSimpArgs false
/-- the fetch has a place that it asks -/
structure FeM.In (m : FeM) : Prop where
  lo : 0 ≤ m.at'
  hi : m.at' < (m.set.length : Int)
  len : m.set.length ≤ 1000
/-- what asking answers -/
def FeM.askM (m : FeM) (now : Int) : FeM × List RqM := ({ m with since := now }, [⟨m.set.getD m.at'.toNat default, m.id, m.n, m.tag⟩])
def FeM.next (m : FeM) : FeM := { m with at' := (m.at' + 1) % (m.set.length : Int) }
def FeM.passM (m : FeM) (now : Int) : FeM × List RqM := m.next.askM now
theorem FeM.In.get {m : FeM} (h : m.In) : ∃ p, m.set[m.at'.toNat]? = some p ∧ m.set.getD m.at'.toNat default = p := by
  have h1 := h.lo
  have h2 := h.hi
  refine ⟨m.set[m.at'.toNat]'(by omega), List.getElem?_eq_getElem _, ?_⟩
  rw [List.getD_eq_getElem?_getD, List.getElem?_eq_getElem (by omega)]
  rfl
theorem FeM.In.next {m : FeM} (h : m.In) : m.next.In := by
  have h1 := h.lo
  have h2 := h.hi
  exact ⟨Int.emod_nonneg _ (by omega), Int.emod_lt_of_pos _ (by omega), h.len⟩
theorem FeM.In.ask {m : FeM} (h : m.In) (now : Int) : (m.askM now).1.In := ⟨h.lo, h.hi, h.len⟩
theorem askM_any {g : Nat} {x : FeV} {now : Int} {w : World} (h : Wo w g x now none 0 []) (hi : x.m.In) :
    Calls Tryz.prog 42 #[pg g] w fun e w' => WoPost g now x (x.m.askM now).1 (x.m.askM now).2 w e w' := by
  obtain ⟨p, hp, hd⟩ := hi.get
  have := ask_any h hi.lo hp
  unfold FeM.askM
  rw [hd]
  exact this
set_option maxRecDepth 100000 in
set_option maxHeartbeats 1000000 in
theorem pass_any {g : Nat} {x : FeV} {now : Int} {w : World} (h : Wo w g x now none 0 []) (hi : x.m.In) :
    Calls Tryz.prog 49 #[pg g] w fun e w' => WoPost g now x (x.m.passM now).1 (x.m.passM now).2 w e w' := by
  have h1 := hi.lo
  have h2 := hi.hi
  have h3 := hi.len
  have hb : i64ok ((x.at' + 1) % (x.set.length : Int)) := by
    have a1 := hi.next.lo
    have a2 := hi.next.hi
    unfold i64ok
    show _ ≤ x.m.next.at' ∧ x.m.next.at' ≤ _
    have : (x.m.next.set.length : Int) = x.m.set.length := rfl
    omega
  have HS := Lib.hid (fun Z (hZ : Below w.heap.size (w.setCell ⟨g, 3, none⟩ (.int .i64 ((x.at' + 1) % (x.set.length : Int)))) Z) => askM_any ((h.set3 _ hb).below (hZ.mono (by rw [setCell_size]; exact Nat.le_refl _))) hi.next)
  have HC := Lib.hid (fun Z (hZ : Below w.heap.size (w.setCell ⟨g, 3, none⟩ (.int .i64 ((x.at' + 1) % (x.set.length : Int)))) Z) => (Ch1.set w g 3 (.int .i64 ((x.at' + 1) % (x.set.length : Int)))).trans (Ch1.of (hZ.mono (by rw [setCell_size]; exact Nat.le_refl _))))
  have HB := Lib.hid (fun a c W => behind_any a c x.set.length x.at' W h1 h2 h3)
  obtain ⟨-, -, c2, c3, -⟩ := h.cells
  have f0 := h.fz
  obtain ⟨N, hN⟩ : ∃ N, x.set.length = N := ⟨_, rfl⟩
  rw [hN] at c2
  have d0 : (0 : Int) < (N : Int) := by
    have h2' : x.at' < (x.set.length : Int) := h2
    have h1' : 0 ≤ x.at' := h1
    omega
  rw [hN] at HB HC HS hb
  have HNN := Lib.hid hN
  clear h hi h1 h2 h3 hN hb
  go_enter Tryz.func49, Tryz.ntmps49
  go_wp2_with fail
  go_region_law (go_simp; (with_reducible refine Calls.mono (HB.out _ _ _) ?_); rintro e w1 ⟨rfl, rfl⟩)
  all_goals go_wp2_with fail
  all_goals refine Calls.mono (HS.out _ (by first | exact Below.refl _ _ | exact Below.drew (Below.refl _ _))) ?_
  all_goals rintro e w2 ⟨⟨v, rfl⟩, hq⟩
  all_goals have HQ := Lib.hid (WoPost.trans (x := x) (e := .returned (.tuple #[])) ⟨⟨_, rfl⟩, hq⟩ (HC.out _ (by first | exact Below.refl _ _ | exact Below.drew (Below.refl _ _))) (fun _ h => .inl h))
  all_goals clear hq
  all_goals go_wp2
  all_goals go_end0
  all_goals (have hz := HQ.out; rw [← HNN.out] at hz; exact hz)
def FeM.tickM (m : FeM) (now : Int) : FeM × List RqM := if m.since + 3 ≤ now then m.passM now else (m, [])
set_option maxRecDepth 100000 in
set_option maxHeartbeats 4000000 in
theorem tick_any {g : Nat} {x : FeV} {now : Int} {w : World} (h : Wo w g x now none 0 []) (hi : x.m.In) :
    Calls Tryz.prog 30 #[pg g] w fun e w' => WoPost g now x (x.m.tickM now).1 (x.m.tickM now).2 w e w' := by
  obtain ⟨-, -, -, -, c4, -, -, -, c8, -⟩ := h.cells
  have hs := h.ok.nums.2.2.1
  have hn := h.nw
  unfold u64ok at hs hn
  have HP := Lib.hid (fun Z (hZ : Below w.heap.size w Z) => pass_any (h.below hZ) hi)
  have HO := Lib.hid (fun Z (hZ : Below w.heap.size w Z) => h.same ⟨_, rfl⟩ hZ (e := .returned (.tuple #[])))
  have HU := Lib.hid h
  by_cases h1 : x.since + 3 ≤ now
  · have e0 : ¬ now < x.since := by omega
    have e1 : (if now < x.since then now else x.since) = x.since := if_neg e0
    have e2 : IntKind.u64.wrap (now - x.since) = now - x.since := by rw [wrapu]; omega
    have e3 : (3 : Int) ≤ now - x.since := by omega
    have HT := Lib.hid (show x.m.tickM now = x.m.passM now from if_pos h1)
    clear h hi hs hn h1
    go_enter Tryz.func30, Tryz.ntmps30
    go_wp2_with fail
    go_region_law (fail)
    all_goals go_wp2_with (go_at_call 49; (refine Calls.mono (HP.out _ (by first | exact Below.refl _ _ | exact Below.drew (Below.refl _ _))) ?_); rintro e w2 ⟨⟨v, rfl⟩, hq⟩; have HQ := Lib.hid (WoPost.trans (x := x) (e := .returned (.tuple #[])) ⟨⟨_, rfl⟩, hq⟩ (Ch1.of (show Below w.heap.size w _ by first | exact Below.refl _ _ | exact Below.drew (Below.refl _ _))) (fun _ h => .inl h)); clear hq)
    all_goals go_end0
    all_goals rw [HT.out]
    all_goals exact HQ.out
  · by_cases h2 : now < x.since
    · have e1 : (if now < x.since then now else x.since) = now := if_pos h2
      have e2 : IntKind.u64.wrap (now - now) = 0 := by rw [wrapu]; omega
      have e3 : IntKind.u64.wrap 0 = 0 := by rw [wrapu]; omega
      have HT := Lib.hid (show x.m.tickM now = (x.m, []) from if_neg h1)
      clear h hi hs hn h1
      go_enter Tryz.func30, Tryz.ntmps30
      go_wp2_with fail
      go_region_law (fail)
      all_goals go_wp2
      all_goals go_end0
      all_goals rw [HT.out]
      all_goals exact HU.out.same ⟨_, rfl⟩ (by first | exact Below.refl _ _ | exact Below.drew (Below.refl _ _))
    · have e1 : (if now < x.since then now else x.since) = x.since := if_neg h2
      have e2 : IntKind.u64.wrap (now - x.since) = now - x.since := by rw [wrapu]; omega
      have e3 : ¬ (3 : Int) ≤ now - x.since := by omega
      have HT := Lib.hid (show x.m.tickM now = (x.m, []) from if_neg h1)
      clear h hi hs hn h1
      go_enter Tryz.func30, Tryz.ntmps30
      go_wp2_with fail
      go_region_law (fail)
      all_goals go_wp2
      all_goals go_end0
      all_goals rw [HT.out]
      all_goals exact HU.out.same ⟨_, rfl⟩ (by first | exact Below.refl _ _ | exact Below.drew (Below.refl _ _))
def FeM.beginM (m : FeM) (now : Int) (S : List PL) : FeM × List RqM := FeM.askM { m with set := S, at' := 0 } now
set_option maxRecDepth 100000 in
theorem begin_any {g : Nat} {x : FeV} {now : Int} {w : World} (h : Wo w g x now none 0 []) {sa : Option Addr} {sc : Nat} {S : List PL} (hS : PsAt w (.slice sa S.length sc) S) (hg : ∀ b, ab sa = some b → b ≠ g) (h1 : 0 < S.length) (h2 : S.length ≤ 1000) :
    Calls Tryz.prog 23 #[pg g, .slice sa S.length sc] w fun e w' => WoPost g now { x with sa := sa, sc := sc, set := S } (x.m.beginM now S).1 (x.m.beginM now S).2 w e w' := by
  obtain ⟨-, -, c2, c3, -⟩ := h.cells
  have f0 := h.fz
  have hw2 := (h.set2 hS hg)
  have hw3 := hw2.set3 0 (by unfold i64ok; omega)
  have HK := Lib.hid (askM_any hw3 ⟨Int.le_refl _, by show (0 : Int) < (S.length : Int); omega, h2⟩)
  have HC := Lib.hid ((Ch1.set w g 2 (.slice sa S.length sc)).trans (Ch1.set _ g 3 (.int .i64 0)))
  obtain ⟨N, hN⟩ : ∃ N, S.length = N := ⟨_, rfl⟩
  have HNN := Lib.hid hN
  rw [hN] at HK HC ⊢
  clear h hw2 hw3 hS hg h1 h2 hN
  go_enter Tryz.func23, Tryz.ntmps23
  go_wp2_with fail
  refine HK.out.mono ?_
  rintro e w2 ⟨⟨v, rfl⟩, hq⟩
  have HQ := Lib.hid (WoPost.trans (x := { x with sa := sa, sc := sc, set := S }) (e := .returned (.tuple #[])) ⟨⟨_, rfl⟩, hq⟩ HC.out (fun _ h => .inl h))
  clear hq
  go_wp2
  go_end0
  exact HQ.out
end Go.Proofs.YtpihogkhfmijcaaGreat
