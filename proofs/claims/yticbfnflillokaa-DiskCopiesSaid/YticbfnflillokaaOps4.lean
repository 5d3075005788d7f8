/- Rename, Remove. -/
import Derived.Test.YticbfnflillokaaOps3
import Derived.Deep.RegionHeld3
namespace Go.Proofs.Yticbfnflillokaa
open Go.RowKit Go.Maps Go.WideMaps
theorem Dk.ok.seenok {d : Dk} (h : d.ok) : d.seen.ok := h.sees ▸ doAll_ok d.waits h.rises
set_option maxRecDepth 100000 in
set_option maxHeartbeats 1000000 in
theorem remove_any {w : World} {O I : Nat → Prop} {p N : Nat} {d : Dk} (h : DiskAt w O I p N d) (hN : N ≤ 400000) (k : Bs) (hk : k.length ≤ maxLen) :
    Calls Try.prog 21 #[.pointer (some ⟨p, 0, none⟩), .string ⟨k.toArray⟩] w (Does w O I p (N + 1) (d.remove k).1 (d.remove k).2) := by
  obtain ⟨n1, n2, hr⟩ := h.raw
  have HB2 : Hid (Below w.heap.size w (W2 w k)) := Go.Joins.below_alloc2 w _ _
  have HR : Hid (Calls Try.prog 55 #[.pointer (some ⟨p, 0, none⟩), .slice (some ⟨w.heap.size + 1, 0, none⟩) 1 1] ((w.alloc (.cells #[.string ⟨k.toArray⟩] 9)).alloc (.cells #[.string ⟨k.toArray⟩] 9)) fun e w' => e = .returned (.int .i64 (lack d k [])) ∧ Below (W2 w k).heap.size (W2 w k) w') := lacks_disk (hr.below HB2.out (Nat.le_refl _)) (w.heap.size + 1) k [] (names_one hk _ (heap_alloc2_new w _ _)) (by simp) 1 rfl
  have HSTILL : Hid (∀ r w', Below w.heap.size w w' → Does w O I p (N + 1) r d (.returned (.int .i64 r)) w') := fun r w' hb => Does.still h r hb
  obtain ⟨R, hR⟩ : ∃ R, R = lack d k [] := ⟨_, rfl⟩
  have hcs := lack_cases d k []
  rw [← hR] at HR hcs
  by_cases h0 : R = 0
  · have h00 : lack d k [] = 0 := hR.symm.trans h0
    rw [h0] at HR
    have hnm : isName k = true := (lack_ok h00).2.1 k List.mem_cons_self
    have hres : d.remove k = (0, d.add (.rem k)) := by unfold Dk.remove; rw [h00, if_neg (by simp)]
    rw [hres]
    have hadd : (Ch.do (.rem k) d.seen).total ≤ d.cap := by
      have ht := Fs.total_del h.ok.seenok k
      have := h.ok.total
      show (d.seen.del k).total ≤ d.cap
      omega
    have HBOX : Hid (∀ W, Below (W2 w k).heap.size (W2 w k) W → W.heap[w.heap.size]? = some (.cells #[.string ⟨k.toArray⟩] 9 (0, 0))) := fun W hb => by
      rw [hb.block _ (by rw [W2.size]; omega), W2.box]
    have HSC : Hid (∀ W, Calls Try.prog 40 #[.string ⟨k.toArray⟩] W fun e w' => e = .returned (.string ⟨k.toArray⟩) ∧ Below W.heap.size W w') := fun W => strClone_any k W (isName_le hnm)
    have HAW : Hid (∀ w4, Below (W2 w k).heap.size (W2 w k) w4 → Calls Try.prog 42 #[.pointer (some ⟨p, 0, none⟩), .agg #[.func (.func 61) #[] #[.pointer (some ⟨w.heap.size, 0, none⟩)], .nilFunc]]
        (w4.setCell ⟨w.heap.size, 0, none⟩ (.string ⟨k.toArray⟩)) fun e w' => e = .returned (.tuple #[]) ∧ ∃ O' I', DiskAt w' O' I' p (N + 1) (d.add (.rem k)) ∧ Step w O I w' O' I') := fun w4 hb => by
      have hsz := W2.size w k
      have hs4 := hb.size
      have h5 := Go.Joins.block_setCell (i := 0) (HBOX.out w4 hb) (.string ⟨k.toArray⟩)
      have hB5 : Below w.heap.size w (w4.setCell ⟨w.heap.size, 0, none⟩ (.string ⟨k.toArray⟩)) := (HB2.out.trans (hb.mono HB2.out.size)).trans ((Chg.one w4 ⟨w.heap.size, 0, none⟩ _).below (B := w.heap.size) (by omega) fun i hi => by have hi : i = w.heap.size := hi; omega)
      refine await_disk h hN hB5 (fun i => i = w.heap.size) (fun i hi => ?_) (rem_at (by rw [Go.Joins.cell_of_block h5]; rfl) hnm (.inr rfl)) hadd
      rw [World.size_setCell]; omega
    clear h hr hR h0 h00 hres hnm hadd
    go_enter Try.func21, Try.ntmps21
    go_wp2_with fail
    refine HR.out.mono ?_
    rintro e w1 ⟨rfl, hb1⟩
    have HB1 : Hid (Below (W2 w k).heap.size (W2 w k) w1) := hb1
    clear hb1
    have c1 : w1.cell? ⟨w.heap.size, 0, none⟩ = some (.string ⟨k.toArray⟩) := by rw [Go.Joins.cell_of_block (HBOX.out w1 HB1.out)]; rfl
    go_wp2_with fail
    refine (HSC.out w1).mono ?_
    rintro e w2 ⟨rfl, hb2⟩
    have HB3 : Hid (Below (W2 w k).heap.size (W2 w k) w2) := HB1.out.trans (hb2.mono HB1.out.size)
    clear hb2
    have c2 : w2.cell? ⟨w.heap.size, 0, none⟩ = some (.string ⟨k.toArray⟩) := by rw [Go.Joins.cell_of_block (HBOX.out w2 HB3.out)]; rfl
    have f2 : w2.frozen? ⟨w.heap.size, 0, none⟩ = false := by simp [World.frozen?, HBOX.out w2 HB3.out]
    have HX := Lib.hid (HAW.out w2 HB3.out)
    go_wp2_with fail
    refine HX.out.mono ?_
    rintro e w5 ⟨rfl, hfin⟩
    have HY := Lib.hid hfin
    clear hfin
    go_wp2
    go_ret
    exact ⟨rfl, HY.out⟩
  · have hres : d.remove k = (R, d) := by unfold Dk.remove; rw [← hR, if_pos h0]
    rw [hres]
    have hcs2 : R = 1 ∨ R = 4 ∨ R = 6 := by omega
    clear h hr hR hres hcs h0
    rcases hcs2 with rfl | rfl | rfl <;>
    · go_enter Try.func21, Try.ntmps21
      go_wp2_with (go_at_call 55; refine HR.out.mono ?_; rintro e w1 ⟨rfl, hb⟩; have HB := Lib.hid (HB2.out.trans (hb.mono HB2.out.size)); clear hb)
      go_ret
      exact HSTILL.out _ _ HB.out
/-- the world behind two names' boxes and the slice of them -/
def W3 (w : World) (k m : Bs) : World := ((w.alloc (.cells #[.string ⟨k.toArray⟩] 9)).alloc (.cells #[.string ⟨m.toArray⟩] 9)).alloc (.cells #[.string ⟨k.toArray⟩, .string ⟨m.toArray⟩] 9)
theorem W3.size (w : World) (k m : Bs) : (W3 w k m).heap.size = w.heap.size + 3 := by unfold W3; rw [World.size_alloc, World.size_alloc, World.size_alloc]
theorem W3.one (w : World) (k m : Bs) : (W3 w k m).heap[w.heap.size]? = some (.cells #[.string ⟨k.toArray⟩] 9 (0, 0)) := by
  unfold W3
  rw [heap_alloc_old (h := by rw [World.size_alloc, World.size_alloc]; omega), heap_alloc_old (h := by rw [World.size_alloc]; omega), heap_alloc_new]
theorem W3.two (w : World) (k m : Bs) : (W3 w k m).heap[w.heap.size + 1]? = some (.cells #[.string ⟨m.toArray⟩] 9 (0, 0)) := by
  unfold W3
  rw [heap_alloc_old (h := by rw [World.size_alloc, World.size_alloc]; omega), heap_alloc2_new]
theorem W3.three (w : World) (k m : Bs) : (W3 w k m).heap[w.heap.size + 2]? = some (.cells #[.string ⟨k.toArray⟩, .string ⟨m.toArray⟩] 9 (0, 0)) := by
  have h := heap_alloc_new ((w.alloc (.cells #[.string ⟨k.toArray⟩] 9)).alloc (.cells #[.string ⟨m.toArray⟩] 9)) (.cells #[.string ⟨k.toArray⟩, .string ⟨m.toArray⟩] 9)
  rw [World.size_alloc, World.size_alloc] at h
  exact h
theorem names_two {w : World} {k m : Bs} (hk : k.length ≤ maxLen) (hm : m.length ≤ maxLen) (b : Nat) (hb : w.heap[b]? = some (.cells #[.string ⟨k.toArray⟩, .string ⟨m.toArray⟩] 9 (0, 0))) : NamesAt w b [k, m] := by
  refine ⟨lt_of_block hb, fun j n hj => ?_⟩
  match j with
  | 0 =>
    have : n = k := by simpa using hj.symm
    subst this
    exact ⟨by rw [Go.Joins.cell_of_block hb]; rfl, hk⟩
  | 1 =>
    have : n = m := by simpa using hj.symm
    subst this
    exact ⟨by rw [Go.Joins.cell_of_block hb]; rfl, hm⟩
  | j + 2 => simp at hj
theorem total_ren {F : Fs} (hF : F.ok) {k m : Bs} (hne : k ≠ m) : ((Ch.ren k m).do F).total ≤ F.total := by
  have ht1 := Fs.total_put hF m ((F.get k).getD [])
  have ht2 := Fs.total_del (Fs.ok_put hF m ((F.get k).getD [])) k
  have ht3 : (F.put m ((F.get k).getD [])).size k = F.size k := by unfold Fs.size; rw [Fs.get_put_other F _ hne]
  have ht4 : F.size k = ((F.get k).getD []).length := rfl
  show ((F.put m ((F.get k).getD [])).del k).total ≤ F.total
  omega
set_option maxRecDepth 100000 in
set_option maxHeartbeats 1000000 in
theorem rename_any {w : World} {O I : Nat → Prop} {p N : Nat} {d : Dk} (h : DiskAt w O I p N d) (hN : N ≤ 400000) (k m : Bs) (hk : k.length ≤ maxLen) (hm : m.length ≤ maxLen) :
    Calls Try.prog 20 #[.pointer (some ⟨p, 0, none⟩), .string ⟨k.toArray⟩, .string ⟨m.toArray⟩] w (Does w O I p (N + 1) (d.rename k m).1 (d.rename k m).2) := by
  obtain ⟨n1, n2, hr⟩ := h.raw
  have HB2 : Hid (Below w.heap.size w (W3 w k m)) := (Go.Joins.below_alloc2 w _ _).alloc (by rw [World.size_alloc, World.size_alloc]; omega) _
  have HR : Hid (Calls Try.prog 55 #[.pointer (some ⟨p, 0, none⟩), .slice (some ⟨w.heap.size + 2, 0, none⟩) 2 2] (W3 w k m) fun e w' => e = .returned (.int .i64 (lack d k [m])) ∧ Below (W3 w k m).heap.size (W3 w k m) w') := lacks_disk (hr.below HB2.out (Nat.le_refl _)) (w.heap.size + 2) k [m] (names_two hk hm _ (W3.three w k m)) (by simp) 2 rfl
  have HSTILL : Hid (∀ r w', Below w.heap.size w w' → Does w O I p (N + 1) r d (.returned (.int .i64 r)) w') := fun r w' hb => Does.still h r hb
  obtain ⟨R, hR⟩ : ∃ R, R = lack d k [m] := ⟨_, rfl⟩
  have hcs := lack_cases d k [m]
  rw [← hR] at HR hcs
  have HBOX : Hid (∀ W, Below (W3 w k m).heap.size (W3 w k m) W → W.heap[w.heap.size]? = some (.cells #[.string ⟨k.toArray⟩] 9 (0, 0)) ∧ W.heap[w.heap.size + 1]? = some (.cells #[.string ⟨m.toArray⟩] 9 (0, 0))) := fun W hb =>
    ⟨by rw [hb.block _ (by rw [W3.size]; omega), W3.one], by rw [hb.block _ (by rw [W3.size]; omega), W3.two]⟩
  have HCELL : Hid (∀ W, Below (W3 w k m).heap.size (W3 w k m) W → (W.cell? ⟨w.heap.size, 0, none⟩ = some (.string ⟨k.toArray⟩) ∧ W.cell? ⟨w.heap.size + 1, 0, none⟩ = some (.string ⟨m.toArray⟩)) ∧ W.frozen? ⟨w.heap.size, 0, none⟩ = false ∧ W.frozen? ⟨w.heap.size + 1, 0, none⟩ = false) := fun W hb =>
    ⟨⟨by rw [Go.Joins.cell_of_block (HBOX.out W hb).1]; rfl, by rw [Go.Joins.cell_of_block (HBOX.out W hb).2]; rfl⟩, by simp [World.frozen?, (HBOX.out W hb).1], by simp [World.frozen?, (HBOX.out W hb).2]⟩
  by_cases h0 : R = 0
  · have h00 : lack d k [m] = 0 := hR.symm.trans h0
    rw [h0] at HR
    have hnk : isName k = true := (lack_ok h00).2.1 k List.mem_cons_self
    have hnm : isName m = true := (lack_ok h00).2.1 m (List.mem_cons_of_mem _ List.mem_cons_self)
    by_cases hne : k = m
    · subst hne
      have hres : d.rename k k = (0, d) := by unfold Dk.rename; rw [h00, if_neg (by simp), if_pos rfl]
      rw [hres]
      clear h hr hR h0 h00 hres hnm
      go_enter Try.func20, Try.ntmps20
      go_wp2_with fail
      refine HR.out.mono ?_
      rintro e w1 ⟨rfl, hb1⟩
      have HB1 : Hid (Below (W3 w k k).heap.size (W3 w k k) w1) := hb1
      have c1 := (HCELL.out w1 hb1).1.1
      have c2 := (HCELL.out w1 hb1).1.2
      clear hb1
      go_wp2
      go_ret
      exact HSTILL.out _ _ (HB2.out.trans (HB1.out.mono HB2.out.size))
    · have hres : d.rename k m = (0, d.add (.ren k m)) := by unfold Dk.rename; rw [h00, if_neg (by simp), if_neg hne]
      rw [hres]
      have hadd : (Ch.do (.ren k m) d.seen).total ≤ d.cap := Nat.le_trans (total_ren h.ok.seenok hne) h.ok.total
      have HSC : Hid (∀ W, Calls Try.prog 40 #[.string ⟨k.toArray⟩] W fun e w' => e = .returned (.string ⟨k.toArray⟩) ∧ Below W.heap.size W w') := fun W => strClone_any k W (isName_le hnk)
      have HSM : Hid (∀ W, Calls Try.prog 40 #[.string ⟨m.toArray⟩] W fun e w' => e = .returned (.string ⟨m.toArray⟩) ∧ Below W.heap.size W w') := fun W => strClone_any m W (isName_le hnm)
      have hsne : (k == m) = false := beq_false_of_ne hne
      have HAW : Hid (∀ w4, Below (W3 w k m).heap.size (W3 w k m) w4 → Calls Try.prog 42 #[.pointer (some ⟨p, 0, none⟩), .agg #[.func (.func 59) #[] #[.pointer (some ⟨w.heap.size, 0, none⟩), .pointer (some ⟨w.heap.size + 1, 0, none⟩)], .nilFunc]]
          ((w4.setCell ⟨w.heap.size, 0, none⟩ (.string ⟨k.toArray⟩)).setCell ⟨w.heap.size + 1, 0, none⟩ (.string ⟨m.toArray⟩)) fun e w' => e = .returned (.tuple #[]) ∧ ∃ O' I', DiskAt w' O' I' p (N + 1) (d.add (.ren k m)) ∧ Step w O I w' O' I') := fun w4 hb => by
        have hsz := W3.size w k m
        have hs4 := hb.size
        have hC5 : Chg (fun i => i = w.heap.size ∨ i = w.heap.size + 1) w4 ((w4.setCell ⟨w.heap.size, 0, none⟩ (.string ⟨k.toArray⟩)).setCell ⟨w.heap.size + 1, 0, none⟩ (.string ⟨m.toArray⟩)) :=
          ((Chg.refl (fun i => i = w.heap.size ∨ i = w.heap.size + 1) w4).setCell (p := ⟨w.heap.size, 0, none⟩) (.inl (.inl rfl)) _).setCell (p := ⟨w.heap.size + 1, 0, none⟩) (.inl (.inr rfl)) _
        have hB5 : Below w.heap.size w ((w4.setCell ⟨w.heap.size, 0, none⟩ (.string ⟨k.toArray⟩)).setCell ⟨w.heap.size + 1, 0, none⟩ (.string ⟨m.toArray⟩)) := (HB2.out.trans (hb.mono HB2.out.size)).trans (hC5.below (B := w.heap.size) (by omega) fun i hi => by omega)
        have h6 := Go.Joins.block_setCell (i := 0) (HBOX.out w4 hb).1 (.string ⟨k.toArray⟩)
        have h7 := (Chg.one (w4.setCell ⟨w.heap.size, 0, none⟩ (.string ⟨k.toArray⟩)) ⟨w.heap.size + 1, 0, none⟩ (.string ⟨m.toArray⟩)).heap h6 (fun e => by have e : w.heap.size = w.heap.size + 1 := e; omega)
        have h8 := (Chg.one w4 ⟨w.heap.size, 0, none⟩ (.string ⟨k.toArray⟩)).heap (HBOX.out w4 hb).2 (fun e => by have e : w.heap.size + 1 = w.heap.size := e; omega)
        have h9 := Go.Joins.block_setCell (i := 0) h8 (.string ⟨m.toArray⟩)
        refine await_disk h hN hB5 (fun i => i = w.heap.size ∨ i = w.heap.size + 1) (fun i hi => ?_) (ren_at (by rw [Go.Joins.cell_of_block h7]; rfl) (by rw [Go.Joins.cell_of_block h9]; rfl) hnk hnm hne (.inr (.inl rfl)) (.inr (.inr rfl))) hadd
        rw [World.size_setCell, World.size_setCell]; omega
      clear h hr hR h0 h00 hres hnm
      go_enter Try.func20, Try.ntmps20
      go_wp2_with fail
      refine HR.out.mono ?_
      rintro e w1 ⟨rfl, hb1⟩
      have HB1 : Hid (Below (W3 w k m).heap.size (W3 w k m) w1) := hb1
      have c1 := (HCELL.out w1 hb1).1.1
      have c2 := (HCELL.out w1 hb1).1.2
      have f1 := (HCELL.out w1 hb1).2.1
      have f2 := (HCELL.out w1 hb1).2.2
      clear hb1
      go_wp2_with fail
      have HBS : Hid (∀ W, Below (W3 w k m).heap.size (W3 w k m) W →
          (((W.setCell ⟨w.heap.size, 0, none⟩ (.string ⟨k.toArray⟩)).cell? ⟨w.heap.size, 0, none⟩ = some (.string ⟨k.toArray⟩) ∧ (W.setCell ⟨w.heap.size, 0, none⟩ (.string ⟨k.toArray⟩)).cell? ⟨w.heap.size + 1, 0, none⟩ = some (.string ⟨m.toArray⟩)) ∧ (W.setCell ⟨w.heap.size, 0, none⟩ (.string ⟨k.toArray⟩)).frozen? ⟨w.heap.size, 0, none⟩ = false ∧ (W.setCell ⟨w.heap.size, 0, none⟩ (.string ⟨k.toArray⟩)).frozen? ⟨w.heap.size + 1, 0, none⟩ = false) ∧
          ((((W.setCell ⟨w.heap.size, 0, none⟩ (.string ⟨k.toArray⟩)).setCell ⟨w.heap.size + 1, 0, none⟩ (.string ⟨m.toArray⟩)).cell? ⟨w.heap.size, 0, none⟩ = some (.string ⟨k.toArray⟩) ∧ ((W.setCell ⟨w.heap.size, 0, none⟩ (.string ⟨k.toArray⟩)).setCell ⟨w.heap.size + 1, 0, none⟩ (.string ⟨m.toArray⟩)).cell? ⟨w.heap.size + 1, 0, none⟩ = some (.string ⟨m.toArray⟩)) ∧ ((W.setCell ⟨w.heap.size, 0, none⟩ (.string ⟨k.toArray⟩)).setCell ⟨w.heap.size + 1, 0, none⟩ (.string ⟨m.toArray⟩)).frozen? ⟨w.heap.size, 0, none⟩ = false ∧ ((W.setCell ⟨w.heap.size, 0, none⟩ (.string ⟨k.toArray⟩)).setCell ⟨w.heap.size + 1, 0, none⟩ (.string ⟨m.toArray⟩)).frozen? ⟨w.heap.size + 1, 0, none⟩ = false)) := fun W hb => by
        have h6 := Go.Joins.block_setCell (i := 0) (HBOX.out W hb).1 (.string ⟨k.toArray⟩)
        have h7 := (Chg.one (W.setCell ⟨w.heap.size, 0, none⟩ (.string ⟨k.toArray⟩)) ⟨w.heap.size + 1, 0, none⟩ (.string ⟨m.toArray⟩)).heap h6 (fun e => by have e : w.heap.size = w.heap.size + 1 := e; omega)
        have h8 := (Chg.one W ⟨w.heap.size, 0, none⟩ (.string ⟨k.toArray⟩)).heap (HBOX.out W hb).2 (fun e => by have e : w.heap.size + 1 = w.heap.size := e; omega)
        have h9 := Go.Joins.block_setCell (i := 0) h8 (.string ⟨m.toArray⟩)
        exact ⟨⟨⟨by rw [Go.Joins.cell_of_block h6]; rfl, by rw [Go.Joins.cell_of_block h8]; rfl⟩, by simp only [World.frozen?, h6]; rfl, by simp only [World.frozen?, h8]; rfl⟩, ⟨by rw [Go.Joins.cell_of_block h7]; rfl, by rw [Go.Joins.cell_of_block h9]; rfl⟩, by simp only [World.frozen?, h7]; rfl, by simp only [World.frozen?, h9]; rfl⟩
      have K1 : True := trivial
      go_region_held3 (fun W => (W.cell? ⟨w.heap.size, 0, none⟩ = some (.string ⟨k.toArray⟩) ∧ W.cell? ⟨w.heap.size + 1, 0, none⟩ = some (.string ⟨m.toArray⟩)) ∧ W.frozen? ⟨w.heap.size, 0, none⟩ = false ∧ W.frozen? ⟨w.heap.size + 1, 0, none⟩ = false) ((first | exact HCELL.out _ HB1.out | exact HCELL.out _ HB1.out.drew | exact HCELL.out _ HBK.out | exact HCELL.out _ HBM.out | exact (HBS.out _ HBM.out).1 | exact (HBS.out _ HBM.out).2)) (first | (clear K1; go_at_call 40; refine (HSC.out _).mono ?_; rintro e w2 ⟨rfl, hb⟩; have HBK : Hid (Below (W3 w k m).heap.size (W3 w k m) w2) := HB1.out.drew.trans (hb.mono HB1.out.drew.size); clear hb) | (go_at_call 40; refine (HSM.out _).mono ?_; rintro e w2 ⟨rfl, hb⟩; have HBM := Lib.hid (HBK.out.trans (hb.mono HBK.out.size)); clear hb))
      have HX := Lib.hid (HAW.out _ HBM.out)
      go_wp2_with fail
      refine HX.out.mono ?_
      rintro e w5 ⟨rfl, hfin⟩
      have HY := Lib.hid hfin
      clear hfin
      go_wp2
      go_ret
      exact ⟨rfl, HY.out⟩
  · have hres : d.rename k m = (R, d) := by unfold Dk.rename; rw [← hR, if_pos h0]
    rw [hres]
    have hcs2 : R = 1 ∨ R = 4 ∨ R = 6 := by omega
    clear h hr hR hres hcs h0
    rcases hcs2 with rfl | rfl | rfl <;>
    · go_enter Try.func20, Try.ntmps20
      go_wp2_with (go_at_call 55; refine HR.out.mono ?_; rintro e w1 ⟨rfl, hb⟩; have HB := Lib.hid (HB2.out.trans (hb.mono HB2.out.size)); clear hb)
      go_ret
      exact HSTILL.out _ _ HB.out
end Go.Proofs.Yticbfnflillokaa
