/- To ask. -/
import Derived.Test.YtpihogkhfmijcaaFeA
import Derived.Deep.RegionHeldLaw
namespace Go.Proofs.Ytpihogkhfmijcaa
open Go.RowKit Go.Maps Go.Shelf
set_option linter.unusedSimpArgs false
/-- what asking reads -/
def AskS (g : Nat) (p : PL) (x : FeV) (B : Nat) (W : World) : Prop := (W.cell? ⟨B, 0, none⟩ = some (.int .i64 p.n) ∧ W.cell? ⟨B, 1, none⟩ = some (.int .u64 p.s)) ∧ W.cell? ⟨g, 0, none⟩ = some (.int .u64 x.id) ∧ W.cell? ⟨g, 1, none⟩ = some (.int .u64 x.n) ∧ W.cell? ⟨g, 5, none⟩ = some (.int .u64 x.tag)
theorem AskS.of {g : Nat} {p : PL} {x : FeV} {B : Nat} {W Z : World} (h : AskS g p x B W) (hb : Below W.heap.size W Z) : AskS g p x B Z := by
  obtain ⟨⟨a, b⟩, c, d, e⟩ := h
  have k : ∀ (q : Addr) (v : Value), W.cell? q = some v → Z.cell? q = some v := fun q v hq => (hb.cell (World.block_lt_of_cell? W q hq)).trans hq
  exact ⟨⟨k _ _ a, k _ _ b⟩, k _ _ c, k _ _ d, k _ _ e⟩
theorem AskS.put {g : Nat} {p : PL} {x : FeV} {B : Nat} {W : World} (h : AskS g p x B W) (hn : B ≠ g) (v : Value) : AskS g p x B (W.setCell ⟨g, 9, none⟩ v) := by
  obtain ⟨⟨a, b⟩, c, d, e⟩ := h
  have k : ∀ (q : Addr) (u : Value), W.cell? q = some u → q ≠ ⟨g, 9, none⟩ → (W.setCell ⟨g, 9, none⟩ v).cell? q = some u := fun q u hq hne => (World.cell?_setCell_other W ⟨g, 9, none⟩ q v (fun e => hne (by first | exact e | exact e.symm))).trans hq
  exact ⟨⟨k _ _ a (fun e => hn (congrArg Addr.block e)), k _ _ b (fun e => hn (congrArg Addr.block e))⟩, k _ _ c (fun e => by cases e), k _ _ d (fun e => by cases e), k _ _ e (fun e => by cases e)⟩
theorem ask_blk {x : FeV} {n s g5 : Nat} (h : n ≤ s) (h5 : s ≤ g5) : ∀ b, x.blk b ∨ ab (some (⟨g5, 0, none⟩ : Addr)) = some b → x.blk b ∨ n ≤ b := fun b hb => by
  rcases hb with hb | hb
  · exact .inl hb
  · cases hb; exact .inr (Nat.le_trans h h5)
/-- the fetch that has asked -/
def FeV.asks (x : FeV) (now : Int) : FeV := { x with since := now }
set_option maxRecDepth 100000 in
set_option maxHeartbeats 8000000 in
theorem ask_any {g : Nat} {x : FeV} {now : Int} {w : World} (h : Wo w g x now none 0 []) {p : PL} (h0 : 0 ≤ x.at') (hp : x.set[x.at'.toNat]? = some p) :
    Calls Try.prog 33 #[pg g] w fun e w' => WoPost g now x (x.asks now).m [⟨p, x.id, x.n, x.tag⟩] w e w' := by
  have HA := Lib.hid (asked_any h h0 hp)
  have HP := Lib.hid (And.intro (h.place hp) h)
  clear h hp h0
  go_enter Try.func33, Try.ntmps33
  go_wp2_with fail
  refine HA.out.mono ?_
  rintro e w1 ⟨rfl, hb1⟩
  have hw1 := HP.out.2.below (hb1.alloc hb1.size (.cells #[.int .i64 p.n, .int .u64 p.s] 38))
  obtain ⟨-, -, -, -, c4, -, -, -, c8, -⟩ := hw1.cells
  have f0 := hw1.fz
  have hB1 := hb1.alloc hb1.size (.cells #[.int .i64 p.n, .int .u64 p.s] 38)
  have hgw := HP.out.2.box.lt
  obtain ⟨W, hW⟩ : ∃ W, W = (w1.alloc (.cells #[.int .i64 p.n, .int .u64 p.s] 38)).setCell ⟨g, 4, none⟩ (.int .u64 now) := ⟨_, rfl⟩
  have hWo : Wo W g (x.asks now) now none 0 [] := by rw [hW]; exact hw1.set4 now hw1.nw
  have hC : Ch1 g w W := by rw [hW]; exact (Ch1.of hB1).trans (Ch1.set _ g 4 _)
  have hq := hb1.size
  have hPB : BoxC W w1.heap.size 38 #[.int .i64 p.n, .int .u64 p.s] := by rw [hW]; exact (BoxC.new w1 38 _).other (by omega) 4 _
  have HW := Lib.hid (And.intro hWo (And.intro hC hPB))
  have HNG := Lib.hid (show w1.heap.size ≠ g by omega)
  have HQ := Lib.hid (show RqM.ok ⟨p, x.id, x.n, x.tag⟩ from ⟨HP.out.1, HP.out.2.ok.nums.1.1, HP.out.2.ok.nums.1.2, HP.out.2.ok.nums.2.2.2.1⟩)
  have HSA := Lib.hid (fun Z (hZ : Below W.heap.size W Z) => AskS.of (W := W) (g := g) (p := p) (x := x) (B := w1.heap.size) ⟨⟨hPB.cell 0, hPB.cell 1⟩, hWo.cells.1, hWo.cells.2.1, hWo.cells.2.2.2.2.2.1⟩ hZ)
  have HLE := Lib.hid hC.size
  clear hb1 hw1 hB1 hgw hWo hC hPB hq
  go_wp2_with fail
  rw [← hW]
  have d9 := HW.out.1.cells.2.2.2.2.2.2.2.2.2
  have d9a : ∀ o, (W.alloc o).cell? ⟨g, 9, none⟩ = some (.slice none 0 0) := fun o => ((Go.Joins.below_alloc1 W o).cell (p := ⟨g, 9, none⟩) HW.out.1.box.lt).trans d9
  simp only [List.length_nil] at d9
  clear hW c4 c8 f0
  have HSD := Lib.hid (HSA.out W.drew (Below.drew (Below.refl _ _)))
  refine wp_region_held_drew (S := AskS g p x w1.heap.size) (by kernel_rfl) HSD.out (fun hHeld => ?_)
  refine wpAnyH_take (i := 0) (oi := _) (v := ?v1) rfl (by kernel_rfl) (by kernel_rfl) (by kernel_rfl) (fun _ _ _ h => h) (Or.inl ⟨by rfl, ?h1⟩) hHeld ?r1
  case h1 => (intro w hSw; (try unfold AskS at hSw); (try dsimp only at hSw); go_simp; try with_reducible rfl)
  try simp only [List.getElem_toArray, List.getElem_cons_succ, List.getElem_cons_zero, Act.put, List.setIfInBounds_toArray, List.set_cons_zero, List.set_cons_succ]
  refine wpAnyH_take (i := 1) (oi := _) (v := ?v2) rfl (by kernel_rfl) (by kernel_rfl) (by kernel_rfl) (fun _ _ _ h => h) (Or.inl ⟨by rfl, ?h2⟩) hHeld ?r2
  case h2 => (intro w hSw; (try unfold AskS at hSw); (try dsimp only at hSw); go_simp; try with_reducible rfl)
  try simp only [List.getElem_toArray, List.getElem_cons_succ, List.getElem_cons_zero, Act.put, List.setIfInBounds_toArray, List.set_cons_zero, List.set_cons_succ]
  refine wpAnyH_take (i := 2) (oi := _) (v := ?v3) rfl (by kernel_rfl) (by kernel_rfl) (by kernel_rfl) (fun _ _ _ h => h) (Or.inl ⟨by rfl, ?h3⟩) hHeld ?r3
  case h3 => (intro w hSw; (try unfold AskS at hSw); (try dsimp only at hSw); go_simp; try with_reducible rfl)
  try simp only [List.getElem_toArray, List.getElem_cons_succ, List.getElem_cons_zero, Act.put, List.setIfInBounds_toArray, List.set_cons_zero, List.set_cons_succ]
  refine wpAnyH_take (i := 3) (oi := _) (v := ?v4) rfl (by kernel_rfl) (by kernel_rfl) (by kernel_rfl) (fun _ _ _ h => h) (Or.inl ⟨by rfl, ?h4⟩) hHeld ?r4
  case h4 => (intro w hSw; (try unfold AskS at hSw); (try dsimp only at hSw); go_simp; try with_reducible rfl)
  try simp only [List.getElem_toArray, List.getElem_cons_succ, List.getElem_cons_zero, Act.put, List.setIfInBounds_toArray, List.set_cons_zero, List.set_cons_succ]
  refine wpAnyH_take (i := 5) (oi := _) (v := ?v5) rfl (by kernel_rfl) (by kernel_rfl) (by kernel_rfl) (fun _ _ _ h => h) (Or.inl ⟨by rfl, ?h5⟩) hHeld ?r5
  case h5 => (intro w hSw; (try unfold AskS at hSw); (try dsimp only at hSw); go_simp; try with_reducible rfl)
  try simp only [List.getElem_toArray, List.getElem_cons_succ, List.getElem_cons_zero, Act.put, List.setIfInBounds_toArray, List.set_cons_zero, List.set_cons_succ]
  refine wpAnyH_take (i := 6) (oi := _) (v := ?v6) rfl (by kernel_rfl) (by kernel_rfl) (by kernel_rfl) (fun _ _ _ h => h) (Or.inl ⟨by rfl, ?h6⟩) hHeld ?r6
  case h6 => (intro w hSw; (try unfold AskS at hSw); (try dsimp only at hSw); go_simp; try with_reducible rfl)
  try simp only [List.getElem_toArray, List.getElem_cons_succ, List.getElem_cons_zero, Act.put, List.setIfInBounds_toArray, List.set_cons_zero, List.set_cons_succ]
  refine wpAnyH_take (i := 7) (oi := _) (v := ?v7) rfl (by kernel_rfl) (by kernel_rfl) (by kernel_rfl) (fun _ _ _ h => h) (Or.inl ⟨by rfl, ?h7⟩) hHeld ?r7
  case h7 => (intro w hSw; (try unfold AskS at hSw); (try dsimp only at hSw); go_simp; try with_reducible rfl)
  try simp only [List.getElem_toArray, List.getElem_cons_succ, List.getElem_cons_zero, Act.put, List.setIfInBounds_toArray, List.set_cons_zero, List.set_cons_succ]
  refine wpAnyH_take (i := 8) (oi := _) (v := ?v8) rfl (by kernel_rfl) (by kernel_rfl) (by kernel_rfl) (fun _ _ _ h => h) (Or.inl ⟨by rfl, ?h8⟩) hHeld ?r8
  case h8 => (intro w hSw; (try unfold AskS at hSw); (try dsimp only at hSw); go_simp; try with_reducible rfl)
  try simp only [List.getElem_toArray, List.getElem_cons_succ, List.getElem_cons_zero, Act.put, List.setIfInBounds_toArray, List.set_cons_zero, List.set_cons_succ]
  refine wpAnyH_take (i := 9) (oi := _) (v := ?v9) rfl (by kernel_rfl) (by kernel_rfl) (by kernel_rfl) (fun _ _ _ h => h) (Or.inl ⟨by rfl, ?h9⟩) hHeld ?r9
  case h9 => (intro w hSw; (try unfold AskS at hSw); (try dsimp only at hSw); go_simp; try with_reducible rfl)
  try simp only [List.getElem_toArray, List.getElem_cons_succ, List.getElem_cons_zero, Act.put, List.setIfInBounds_toArray, List.set_cons_zero, List.set_cons_succ]
  refine wpAnyH_take (i := 10) (oi := _) (v := ?v10) rfl (by kernel_rfl) (by kernel_rfl) (by kernel_rfl) (fun _ _ _ h => h) (Or.inl ⟨by rfl, ?h10⟩) hHeld ?r10
  case h10 => (intro w hSw; (try unfold AskS at hSw); (try dsimp only at hSw); go_simp; try with_reducible rfl)
  try simp only [List.getElem_toArray, List.getElem_cons_succ, List.getElem_cons_zero, Act.put, List.setIfInBounds_toArray, List.set_cons_zero, List.set_cons_succ]
  refine wpAnyH_take (i := 11) (oi := _) (v := ?v11) rfl (by kernel_rfl) (by kernel_rfl) (by kernel_rfl) (fun _ _ _ h => h) (Or.inl ⟨by rfl, ?h11⟩) hHeld ?r11
  case h11 => (intro w hSw; (try unfold AskS at hSw); (try dsimp only at hSw); go_simp; try with_reducible rfl)
  try simp only [List.getElem_toArray, List.getElem_cons_succ, List.getElem_cons_zero, Act.put, List.setIfInBounds_toArray, List.set_cons_zero, List.set_cons_succ]
  refine wpAnyH_take (i := 12) (oi := _) (v := ?v12) rfl (by kernel_rfl) (by kernel_rfl) (by kernel_rfl) (fun _ _ _ h => h) (Or.inl ⟨by rfl, ?h12⟩) hHeld ?r12
  case h12 => (intro w hSw; (try unfold AskS at hSw); (try dsimp only at hSw); go_simp; try with_reducible rfl)
  try simp only [List.getElem_toArray, List.getElem_cons_succ, List.getElem_cons_zero, Act.put, List.setIfInBounds_toArray, List.set_cons_zero, List.set_cons_succ]
  refine wpAnyH_take (i := 13) (oi := _) (v := ?v13) rfl (by kernel_rfl) (by kernel_rfl) (by kernel_rfl) (fun _ _ _ h => h) (Or.inl ⟨by rfl, ?h13⟩) hHeld ?r13
  case h13 => (intro w hSw; (try unfold AskS at hSw); (try dsimp only at hSw); go_simp; try with_reducible rfl)
  try simp only [List.getElem_toArray, List.getElem_cons_succ, List.getElem_cons_zero, Act.put, List.setIfInBounds_toArray, List.set_cons_zero, List.set_cons_succ]
  refine wpAnyH_take (i := 14) (oi := _) (v := ?v14) rfl (by kernel_rfl) (by kernel_rfl) (by kernel_rfl) (fun _ _ _ h => h) (Or.inl ⟨by rfl, ?h14⟩) hHeld ?r14
  case h14 => (intro w hSw; (try unfold AskS at hSw); (try dsimp only at hSw); go_simp; try with_reducible rfl)
  try simp only [List.getElem_toArray, List.getElem_cons_succ, List.getElem_cons_zero, Act.put, List.setIfInBounds_toArray, List.set_cons_zero, List.set_cons_succ]
  refine wpAnyH_take (i := 15) (oi := _) (v := ?v15) rfl (by kernel_rfl) (by kernel_rfl) (by kernel_rfl) (fun _ _ _ h => h) (Or.inl ⟨by rfl, ?h15⟩) hHeld ?r15
  case h15 => (intro w hSw; (try unfold AskS at hSw); (try dsimp only at hSw); go_simp; try with_reducible rfl)
  try simp only [List.getElem_toArray, List.getElem_cons_succ, List.getElem_cons_zero, Act.put, List.setIfInBounds_toArray, List.set_cons_zero, List.set_cons_succ]
  refine wpAnyH_take (i := 16) (oi := _) (v := ?v16) rfl (by kernel_rfl) (by kernel_rfl) (by kernel_rfl) (fun _ _ _ h => h) (Or.inl ⟨by rfl, ?h16⟩) hHeld ?r16
  case h16 => (intro w hSw; (try unfold AskS at hSw); (try dsimp only at hSw); go_simp; try with_reducible rfl)
  try simp only [List.getElem_toArray, List.getElem_cons_succ, List.getElem_cons_zero, Act.put, List.setIfInBounds_toArray, List.set_cons_zero, List.set_cons_succ]
  refine wpAnyH_take (i := 17) (oi := _) (v := ?v17) rfl (by kernel_rfl) (by kernel_rfl) (by kernel_rfl) (fun _ _ _ h => h) (Or.inl ⟨by rfl, ?h17⟩) hHeld ?r17
  case h17 => (intro w hSw; (try unfold AskS at hSw); (try dsimp only at hSw); go_simp; try with_reducible rfl)
  try simp only [List.getElem_toArray, List.getElem_cons_succ, List.getElem_cons_zero, Act.put, List.setIfInBounds_toArray, List.set_cons_zero, List.set_cons_succ]
  refine wpAnyH_take (i := 18) (oi := _) (v := ?v18) rfl (by kernel_rfl) (by kernel_rfl) (by kernel_rfl) (fun _ _ _ h => h) (Or.inl ⟨by rfl, ?h18⟩) hHeld ?r18
  case h18 => (intro w hSw; (try unfold AskS at hSw); (try dsimp only at hSw); go_simp; try with_reducible rfl)
  try simp only [List.getElem_toArray, List.getElem_cons_succ, List.getElem_cons_zero, Act.put, List.setIfInBounds_toArray, List.set_cons_zero, List.set_cons_succ]
  refine wpAnyH_take (i := 19) (oi := _) (v := ?v19) rfl (by kernel_rfl) (by kernel_rfl) (by kernel_rfl) (fun _ _ _ h => h) (Or.inl ⟨by rfl, ?h19⟩) hHeld ?r19
  case h19 => (intro w hSw; (try unfold AskS at hSw); (try dsimp only at hSw); go_simp; try with_reducible rfl)
  try simp only [List.getElem_toArray, List.getElem_cons_succ, List.getElem_cons_zero, Act.put, List.setIfInBounds_toArray, List.set_cons_zero, List.set_cons_succ]
  refine wpAnyH_take (i := 20) (oi := _) (v := ?v20) rfl (by kernel_rfl) (by kernel_rfl) (by kernel_rfl) (fun _ _ _ h => h) (Or.inl ⟨by rfl, ?h20⟩) hHeld ?r20
  case h20 => (intro w hSw; (try unfold AskS at hSw); (try dsimp only at hSw); go_simp; try with_reducible rfl)
  try simp only [List.getElem_toArray, List.getElem_cons_succ, List.getElem_cons_zero, Act.put, List.setIfInBounds_toArray, List.set_cons_zero, List.set_cons_succ]
  refine wpAnyH_take (i := 21) (oi := _) (v := ?v21) rfl (by kernel_rfl) (by kernel_rfl) (by kernel_rfl) (fun _ _ _ h => h) (Or.inl ⟨by rfl, ?h21⟩) hHeld ?r21
  case h21 => (intro w hSw; (try unfold AskS at hSw); (try dsimp only at hSw); go_simp; try with_reducible rfl)
  try simp only [List.getElem_toArray, List.getElem_cons_succ, List.getElem_cons_zero, Act.put, List.setIfInBounds_toArray, List.set_cons_zero, List.set_cons_succ]
  refine wpAnyH_ready (rs := [4, 22]) (by kernel_rfl) (by simp) ?_
  refine AllReadyH.cons rfl (fun K hK => ?_) ?_
  · go_simp
    refine hK.out _ _ ?_ (fun hHeld => ?_)
    · exact hHeld
    clear hK K
    refine wpAnyH_ready (rs := [22]) (by kernel_rfl) (by simp) ?_
    refine AllReadyH.cons rfl (fun K hK => ?_) ?_
    · go_simp
      refine hK.out _ _ ?_ (fun hHeld => ?_)
      · exact HSA.out _ (by first | exact Below.refl _ _ | exact Below.drew (Below.refl _ _) | exact Below.drew (Go.Joins.below_alloc1 _ _) | exact Below.alloc (Below.drew (Below.refl _ _)) (Nat.le_refl _) _ | exact Go.Joins.below_alloc1 _ _)
      clear hK K
      refine wpAnyH_ready (rs := [23]) (by kernel_rfl) (by simp) ?_
      refine AllReadyH.cons rfl (fun K hK => ?_) ?_
      · refine step_app_one rfl (.tmp 22) (.tmp 40) 33 49 10 112 _ RqM.cells rfl Try.underlying33 info49 rfl (by decide) (by decide) (fun _ => rfl) W.heap.size (.slice none 0 0) [] ⟨p, x.id, x.n, x.tag⟩ W.heap.size (by simp [Act.eval]) (by simp [Act.eval]) (World.ownsRow_nil _ _ _ _) (BoxC.new _ _ _) (rq_one _) (by simp) (Below.size (show Below W.heap.size W _ from (by first | exact Below.refl _ _ | exact Below.drew (Below.refl _ _) | exact Below.drew (Go.Joins.below_alloc1 _ _) | exact Below.alloc (Below.drew (Below.refl _ _)) (Nat.le_refl _) _ | exact Go.Joins.below_alloc1 _ _))) ?_
        intro g5 cap5 w5 hg5
        have HE := Lib.hid (ask_end HW.out.1 (show Below W.heap.size W _ from (by first | exact Below.refl _ _ | exact Below.drew (Below.refl _ _) | exact Below.drew (Go.Joins.below_alloc1 _ _) | exact Below.alloc (Below.drew (Below.refl _ _)) (Nat.le_refl _) _ | exact Go.Joins.below_alloc1 _ _)) HQ.out hg5)
        have e9 := HE.out.1.cells.2.2.2.2.2.2.2.2.2
        have f9 := HE.out.1.fz
        have HS5 := Lib.hid (HSA.out w5 HE.out.2.2.2.1)
        clear hg5
        refine hK.out _ _ ?_ (fun hHeld => ?_)
        · exact HS5.out
        clear hK K
        refine wpAnyH_take (i := 24) (oi := _) (v := ?v22) rfl (by kernel_rfl) (by kernel_rfl) (by kernel_rfl) (fun _ _ _ h => h) (Or.inl ⟨by rfl, ?h22⟩) hHeld ?r22
        case h22 => (intro w hSw; (try unfold AskS at hSw); (try dsimp only at hSw); go_simp; try with_reducible rfl)
        try simp only [List.getElem_toArray, List.getElem_cons_succ, List.getElem_cons_zero, Act.put, List.setIfInBounds_toArray, List.set_cons_zero, List.set_cons_succ]
        refine wpAnyH_take (i := 25) (oi := _) (v := ?v23) rfl (by kernel_rfl) (by kernel_rfl) (by kernel_rfl) (fun _ _ _ h => h) (Or.inl ⟨by rfl, ?h23⟩) hHeld ?r23
        case h23 => (intro w hSw; (try unfold AskS at hSw); (try dsimp only at hSw); go_simp; try with_reducible rfl)
        try simp only [List.getElem_toArray, List.getElem_cons_succ, List.getElem_cons_zero, Act.put, List.setIfInBounds_toArray, List.set_cons_zero, List.set_cons_succ]
        refine wpAnyH_ready (rs := [26]) (by kernel_rfl) (by simp) ?_
        refine AllReadyH.cons rfl (fun K hK => ?_) ?_
        · go_simp
          refine hK.out _ _ ?_ (fun hHeld => ?_)
          · exact AskS.put HS5.out HNG.out _
          clear hK K
          refine wpAnyH_done (by kernel_rfl) ?_ _
          go_wp2
          go_end0
          exact ⟨⟨_, rfl⟩, x.asks now, _, _, rfl, HE.out.1.set9 HE.out.2.1 HE.out.2.2.1, (HW.out.2.1.trans (Ch1.of HE.out.2.2.2.1)).trans (Ch1.set _ g 9 _), ask_blk HLE.out HE.out.2.2.2.2⟩
        exact AllReadyH.nil
      exact AllReadyH.nil
    exact AllReadyH.nil
  refine AllReadyH.cons rfl (fun K hK => ?_) ?_
  · go_simp
    refine hK.out _ _ ?_ (fun hHeld => ?_)
    · exact HSA.out _ (by first | exact Below.refl _ _ | exact Below.drew (Below.refl _ _) | exact Below.drew (Go.Joins.below_alloc1 _ _) | exact Below.alloc (Below.drew (Below.refl _ _)) (Nat.le_refl _) _ | exact Go.Joins.below_alloc1 _ _)
    clear hK K
    refine wpAnyH_ready (rs := [4]) (by kernel_rfl) (by simp) ?_
    refine AllReadyH.cons rfl (fun K hK => ?_) ?_
    · go_simp
      refine hK.out _ _ ?_ (fun hHeld => ?_)
      · exact hHeld
      clear hK K
      refine wpAnyH_ready (rs := [23]) (by kernel_rfl) (by simp) ?_
      refine AllReadyH.cons rfl (fun K hK => ?_) ?_
      · refine step_app_one rfl (.tmp 22) (.tmp 40) 33 49 10 112 _ RqM.cells rfl Try.underlying33 info49 rfl (by decide) (by decide) (fun _ => rfl) W.heap.size (.slice none 0 0) [] ⟨p, x.id, x.n, x.tag⟩ W.heap.size (by simp [Act.eval]) (by simp [Act.eval]) (World.ownsRow_nil _ _ _ _) (BoxC.new _ _ _) (rq_one _) (by simp) (Below.size (show Below W.heap.size W _ from (by first | exact Below.refl _ _ | exact Below.drew (Below.refl _ _) | exact Below.drew (Go.Joins.below_alloc1 _ _) | exact Below.alloc (Below.drew (Below.refl _ _)) (Nat.le_refl _) _ | exact Go.Joins.below_alloc1 _ _))) ?_
        intro g5 cap5 w5 hg5
        have HE := Lib.hid (ask_end HW.out.1 (show Below W.heap.size W _ from (by first | exact Below.refl _ _ | exact Below.drew (Below.refl _ _) | exact Below.drew (Go.Joins.below_alloc1 _ _) | exact Below.alloc (Below.drew (Below.refl _ _)) (Nat.le_refl _) _ | exact Go.Joins.below_alloc1 _ _)) HQ.out hg5)
        have e9 := HE.out.1.cells.2.2.2.2.2.2.2.2.2
        have f9 := HE.out.1.fz
        have HS5 := Lib.hid (HSA.out w5 HE.out.2.2.2.1)
        clear hg5
        refine hK.out _ _ ?_ (fun hHeld => ?_)
        · exact HS5.out
        clear hK K
        refine wpAnyH_take (i := 24) (oi := _) (v := ?v24) rfl (by kernel_rfl) (by kernel_rfl) (by kernel_rfl) (fun _ _ _ h => h) (Or.inl ⟨by rfl, ?h24⟩) hHeld ?r24
        case h24 => (intro w hSw; (try unfold AskS at hSw); (try dsimp only at hSw); go_simp; try with_reducible rfl)
        try simp only [List.getElem_toArray, List.getElem_cons_succ, List.getElem_cons_zero, Act.put, List.setIfInBounds_toArray, List.set_cons_zero, List.set_cons_succ]
        refine wpAnyH_take (i := 25) (oi := _) (v := ?v25) rfl (by kernel_rfl) (by kernel_rfl) (by kernel_rfl) (fun _ _ _ h => h) (Or.inl ⟨by rfl, ?h25⟩) hHeld ?r25
        case h25 => (intro w hSw; (try unfold AskS at hSw); (try dsimp only at hSw); go_simp; try with_reducible rfl)
        try simp only [List.getElem_toArray, List.getElem_cons_succ, List.getElem_cons_zero, Act.put, List.setIfInBounds_toArray, List.set_cons_zero, List.set_cons_succ]
        refine wpAnyH_ready (rs := [26]) (by kernel_rfl) (by simp) ?_
        refine AllReadyH.cons rfl (fun K hK => ?_) ?_
        · go_simp
          refine hK.out _ _ ?_ (fun hHeld => ?_)
          · exact AskS.put HS5.out HNG.out _
          clear hK K
          refine wpAnyH_done (by kernel_rfl) ?_ _
          go_wp2
          go_end0
          exact ⟨⟨_, rfl⟩, x.asks now, _, _, rfl, HE.out.1.set9 HE.out.2.1 HE.out.2.2.1, (HW.out.2.1.trans (Ch1.of HE.out.2.2.2.1)).trans (Ch1.set _ g 9 _), ask_blk HLE.out HE.out.2.2.2.2⟩
        exact AllReadyH.nil
      exact AllReadyH.nil
    exact AllReadyH.nil
  exact AllReadyH.nil
end Go.Proofs.Ytpihogkhfmijcaa
