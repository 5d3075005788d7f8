/- The document's net: Drop, Deliver. -/
import Derived.Test.YtbmebmkpjbgdoaaRef3
namespace Go.Proofs.Ytbmebmkpjbgdoaa
open Go.RowKit
theorem RDoes.behind {w w1 w2 : World} {R : Bks} {q : Nat} {d : Nt} (hb : Below w.heap.size w w1) (h : RDoes w1 R q d w2) : RDoes w R q d w2 := by
  obtain ⟨R', h1, h2, h3⟩ := h
  exact ⟨R', h1, fun k hk => (h2 k hk).imp id fun h => Nat.le_trans hb.size h, (Chg.of_below (S := fun k => k = q) hb (Nat.le_refl _)).trans h3⟩
theorem RefAt.below {w W : World} {R : Bks} {q : Nat} {d : Nt} (h : RefAt w R q d) (hb : Below w.heap.size w W) : RefAt W R q d := by
  obtain ⟨ho, bv, cv, vs, ps, h⟩ := h; exact ⟨ho, bv, cv, vs, ps, h.below hb⟩
theorem RefAt.q_lt {w : World} {R : Bks} {q : Nat} {d : Nt} (h : RefAt w R q d) : q < w.heap.size := by
  obtain ⟨ho, bv, cv, vs, ps, h⟩ := h; exact lt_of_block h.block
set_option maxRecDepth 100000 in
set_option maxHeartbeats 1000000 in
theorem rdrop_any {w : World} {R : Bks} {q : Nat} {d : Nt} (h : RefAt w R q d) (i : Int) :
    Calls Try.prog 36 #[.pointer (some ⟨q, 0, none⟩), .int .i64 i] w fun e w' => e = .returned (.int .i64 (d.drop i).1) ∧ RDoes w R q (d.drop i).2 w' := by
  have hA := h
  obtain ⟨ho, bv, cv, vs, ps, h⟩ := h
  have HAT := Lib.hid (rat_any h i)
  have HST : Hid (∀ W, Below w.heap.size w W → RDoes w R q d W) := fun W hb => RDoes.still hA hb
  unfold Nt.drop
  cases hi : d.has i
  · have hat : d.at i = (noMsg, 4) := by unfold Nt.at; rw [if_neg (by simp [hi])]
    rw [hat] at HAT
    clear h ho hA hi hat
    go_enter Try.func36, Try.ntmps36
    go_wp2_with (go_at_call 33; refine HAT.out.mono ?_; rintro e w1 ⟨ta, tc, rfl, _, hb⟩; have HB := Lib.hid hb; clear hb)
    go_ret
    exact ⟨rfl, HST.out _ (HB.out.alloc HB.out.size _)⟩
  · have hat : d.at i = (d.msg i, 0) := by unfold Nt.at; rw [if_pos hi]
    rw [hat] at HAT
    obtain ⟨h1, h2⟩ := (has_iff d i).1 hi
    obtain ⟨k, rfl⟩ := Int.eq_ofNat_of_zero_le h1
    have HOUT : Hid (∀ W, Below w.heap.size w W → Calls Try.prog 53 #[.pointer (some ⟨q, 0, none⟩), .int .i64 (k : Nat)] W fun e w' => e = .returned (.tuple #[]) ∧ RDoes w R q (d.out k) w') := fun W hb => by
      refine (rout_any (hA.below hb) k (by omega)).mono ?_
      rintro e w' ⟨rfl, hx⟩
      exact ⟨rfl, hx.behind hb⟩
    generalize d.msg (k : Int) = m at HAT
    simp only [if_true]
    clear h ho hA hi hat h1 h2
    go_enter Try.func36, Try.ntmps36
    go_wp2_with (first | (go_at_call 33; refine HAT.out.mono ?_; rintro e w1 ⟨ta, tc, rfl, _, hb⟩; have HB := Lib.hid hb; clear hb) | (go_at_call 53; refine (HOUT.out _ (HB.out.alloc HB.out.size _)).mono ?_; rintro e w2 ⟨rfl, hx⟩; have HX := Lib.hid hx; clear hx))
    go_ret
    exact ⟨rfl, HX.out⟩
def RTells (w : World) (R : Bks) (q : Nat) (m : Msg) (r : Int) (d : Nt) (e : Ending) (w' : World) : Prop := ∃ a c, e = .returned (.tuple #[.agg #[.int .i64 m.fr, .int .i64 m.to, .slice a m.b.length c], .int .i64 r]) ∧ BytesIn (fun k => k ≠ q) w' (.slice a m.b.length c) m.b ∧ RDoes w R q d w'
set_option maxRecDepth 100000 in
set_option maxHeartbeats 1000000 in
theorem rdeliver_any {w : World} {R : Bks} {q : Nat} {d : Nt} (h : RefAt w R q d) (i : Int) :
    Calls Try.prog 34 #[.pointer (some ⟨q, 0, none⟩), .int .i64 i] w (RTells w R q (d.deliver i).1 (d.deliver i).2.1 (d.deliver i).2.2) := by
  have hA := h
  obtain ⟨ho, bv, cv, vs, ps, h⟩ := h
  have hqw : q < w.heap.size := hA.q_lt
  have hqR := h.qR
  have HAT : Hid (∀ W, Below w.heap.size w W → Calls Try.prog 33 #[.pointer (some ⟨q, 0, none⟩), .int .i64 i] W fun e w' => ∃ a c, e = .returned (.tuple #[.agg #[.int .i64 (d.at i).1.fr, .int .i64 (d.at i).1.to, .slice a (d.at i).1.b.length c], .int .i64 (d.at i).2]) ∧ BytesIn R w' (.slice a (d.at i).1.b.length c) (d.at i).1.b ∧ Below W.heap.size W w') := fun W hb => rat_any (h.below hb) i
  have HST : Hid (∀ W, Below w.heap.size w W → RDoes w R q d W) := fun W hb => RDoes.still hA hb
  have HBA : Hid (Below w.heap.size w (w.alloc z3)) := Go.Joins.below_alloc1 w _
  have HZ1 : Hid (∀ w1, Below (w.alloc z3).heap.size (w.alloc z3) w1 → w1.heap[w.heap.size]? = some z3) := fun w1 hb => (hb.block _ (by rw [World.size_alloc]; omega)).trans (heap_alloc_new _ _)
  cases hi : d.has i
  · have hres : d.deliver i = (noMsg, 4, d) := by unfold Nt.deliver; rw [if_pos hi]
    have hat : d.at i = (noMsg, 4) := by unfold Nt.at; rw [if_neg (by simp [hi])]
    rw [hres]
    rw [hat] at HAT
    clear h ho hA hi hres hat
    go_enter Try.func34, Try.ntmps34
    go_wp2_with fail
    refine (HAT.out _ HBA.out).mono ?_
    rintro e w1 ⟨ta, tc, rfl, hbt, hb1⟩
    have HB1 : Hid (Below w.heap.size w w1) := HBA.out.trans (hb1.mono HBA.out.size)
    have hz := HZ1.out w1 hb1
    obtain ⟨TL, hTL⟩ : ∃ TL, noMsg.b.length = TL := ⟨_, rfl⟩
    have HTL := Lib.hid hTL
    rw [hTL] at hbt ⊢
    have q0 : ∀ o, (w1.alloc o).cell? ⟨w.heap.size, 0, none⟩ = some (.int .i64 0) := fun o => by rw [World.cell?_alloc_lt _ _ _ (lt_of_block hz), Go.Joins.cell_of_block hz]; rfl
    have q1 : ∀ o, (w1.alloc o).cell? ⟨w.heap.size, 1, none⟩ = some (.int .i64 0) := fun o => by rw [World.cell?_alloc_lt _ _ _ (lt_of_block hz), Go.Joins.cell_of_block hz]; rfl
    have q2 : ∀ o, (w1.alloc o).cell? ⟨w.heap.size, 2, none⟩ = some (.slice none 0 0) := fun o => by rw [World.cell?_alloc_lt _ _ _ (lt_of_block hz), Go.Joins.cell_of_block hz]; rfl
    have hz2 : ∀ o, (w1.alloc o).heap[w.heap.size]? = some z3 := fun o => by rw [heap_alloc_old (h := lt_of_block hz)]; exact hz
    have f0 : ∀ o j, (w1.alloc o).frozen? ⟨w.heap.size, j, none⟩ = false := fun o j => by simp [World.frozen?, hz2 o, z3]
    have HZ := Lib.hid hz2
    have HBT := Lib.hid hbt
    clear hb1 hz hz2 hbt hTL
    go_wp2
    have hch := (chg3 (S := fun _ => False) ((Chg.of_below (S := fun _ => False) HB1.out (Nat.le_refl _)).alloc (.cells #[.int .i64 noMsg.fr, .int .i64 noMsg.to, .slice ta TL tc] 49)) (.inr (Nat.le_refl w.heap.size)) (.int .i64 noMsg.fr) (.int .i64 noMsg.to) (.slice ta TL tc)).below (Nat.le_refl _) fun _ h => h.elim
    refine bodyPost_ret (results_msg (p := 4) (u := 5) rfl _ _ w.heap.size _ _ _ (0, 0) rfl (fin3 (HZ.out _) _ _ _)) rfl ⟨ta, tc, by rw [HTL.out]; rfl, ?_, HST.out _ hch⟩
    have h0 : noMsg.b = [] := rfl
    have hTL0 : TL = 0 := HTL.out.symm
    rw [h0]
    subst hTL0
    rcases HBT.out with ⟨e, _⟩ | ⟨ad, cap, e, hl, hc⟩
    · exact .inl ⟨e, rfl⟩
    · exact .inr ⟨ad, cap, e, hl, fun hx => absurd hx (by simp)⟩
  · have hat : d.at i = (d.msg i, 0) := by unfold Nt.at; rw [if_pos hi]
    rw [hat] at HAT
    have HOPEN : ∀ W, Below w.heap.size w W → Calls Try.prog 41 #[.pointer (some ⟨q, 0, none⟩), .int .i64 (d.msg i).fr, .int .i64 (d.msg i).to] W fun e w' => e = .returned (.bool (d.isOpen (d.msg i).fr (d.msg i).to)) ∧ Below W.heap.size W w' := fun W hb => ropen_any (h.below hb) _ _
    cases hop : d.isOpen (d.msg i).fr (d.msg i).to
    · have hres : d.deliver i = (noMsg, 6, d) := by unfold Nt.deliver; rw [if_neg (by simp [hi]), if_pos hop]
      rw [hres]
      rw [hop] at HOPEN
      have HOPEN := Lib.hid HOPEN
      clear h ho hA hi hres hat hop
      generalize d.msg i = m at HAT HOPEN
      go_enter Try.func34, Try.ntmps34
      go_wp2_with fail
      refine (HAT.out _ HBA.out).mono ?_
      rintro e w1 ⟨ta, tc, rfl, hbt, hb1⟩
      have HB1 : Hid (Below w.heap.size w w1) := HBA.out.trans (hb1.mono HBA.out.size)
      have hz := HZ1.out w1 hb1
      have hz2 : ∀ o W, Below (w1.alloc o).heap.size (w1.alloc o) W → W.heap[w.heap.size]? = some z3 := fun o W hb => by rw [hb.block _ (by rw [World.size_alloc]; have := lt_of_block hz; omega), heap_alloc_old (h := lt_of_block hz)]; exact hz
      have HZ := Lib.hid hz2
      have HBO : Hid (∀ o, Below w.heap.size w (w1.alloc o)) := fun o => HB1.out.alloc HB1.out.size o
      clear hb1 hz hz2 hbt
      go_wp2_with (go_at_call 41; refine (HOPEN.out _ (HBO.out _)).mono ?_; rintro e w2 ⟨rfl, hb2⟩; have hz3 := HZ.out _ w2 hb2; have HB2 : Hid (Below w.heap.size w w2) := (HBO.out _).trans (hb2.mono (Below.size (HBO.out _))); have q0 : w2.cell? ⟨w.heap.size, 0, none⟩ = some (.int .i64 0) := (by rw [Go.Joins.cell_of_block hz3]; rfl); have q1 : w2.cell? ⟨w.heap.size, 1, none⟩ = some (.int .i64 0) := (by rw [Go.Joins.cell_of_block hz3]; rfl); have q2 : w2.cell? ⟨w.heap.size, 2, none⟩ = some (.slice none 0 0) := (by rw [Go.Joins.cell_of_block hz3]; rfl); have f0 : ∀ j, w2.frozen? ⟨w.heap.size, j, none⟩ = false := (fun j => by simp [World.frozen?, hz3, z3]); have HZ3 := Lib.hid hz3; clear hb2 hz3)
      have hch := (chg3 (S := fun _ => False) (Chg.of_below (S := fun _ => False) HB2.out (Nat.le_refl _)) (.inr (Nat.le_refl w.heap.size)) (.int .i64 0) (.int .i64 0) (.slice none 0 0)).below (Nat.le_refl _) fun _ h => h.elim
      exact bodyPost_ret (results_msg (p := 4) (u := 5) rfl _ _ w.heap.size _ _ _ (0, 0) rfl (fin3 HZ3.out _ _ _)) rfl ⟨none, 0, rfl, .inl ⟨rfl, rfl⟩, HST.out _ hch⟩
    · have hres : d.deliver i = (d.msg i, 0, d.out i) := by unfold Nt.deliver; rw [if_neg (by simp [hi]), if_neg (by simp [hop])]
      rw [hres]
      rw [hop] at HOPEN
      have HOPEN := Lib.hid HOPEN
      obtain ⟨h1, h2⟩ := (has_iff d i).1 hi
      obtain ⟨k, rfl⟩ := Int.eq_ofNat_of_zero_le h1
      have HOUT : Hid (∀ W, Below w.heap.size w W → Calls Try.prog 53 #[.pointer (some ⟨q, 0, none⟩), .int .i64 (k : Nat)] W fun e w' => e = .returned (.tuple #[]) ∧ RDoes W R q (d.out k) w') := fun W hb => rout_any (hA.below hb) k (by omega)
      have HRl : Hid (∀ k, R k → k < w.heap.size) := h.lt
      clear h ho hA hi hres hat hop h1 h2
      generalize d.msg (k : Int) = m at HAT HOPEN ⊢
      go_enter Try.func34, Try.ntmps34
      go_wp2_with fail
      refine (HAT.out _ HBA.out).mono ?_
      rintro e w1 ⟨ta, tc, rfl, hbt, hb1⟩
      have HB1 : Hid (Below w.heap.size w w1) := HBA.out.trans (hb1.mono HBA.out.size)
      have hz := HZ1.out w1 hb1
      obtain ⟨TL, hTL⟩ : ∃ TL, m.b.length = TL := ⟨_, rfl⟩
      have HTL := Lib.hid hTL
      rw [hTL] at hbt ⊢
      have HBT := Lib.hid hbt
      have hws : w.heap.size < w1.heap.size := lt_of_block hz
      have HBO : Hid (∀ o, Below w.heap.size w (w1.alloc o)) := fun o => HB1.out.alloc HB1.out.size o
      -- what stands behind Open and out
      have HT : Hid (∀ w2 w3, Below (w1.alloc (.cells #[.int .i64 m.fr, .int .i64 m.to, .slice ta TL tc] 49)).heap.size (w1.alloc (.cells #[.int .i64 m.fr, .int .i64 m.to, .slice ta TL tc] 49)) w2 → RDoes w2 R q (d.out k) w3 →
          (w3.heap[w.heap.size]? = some z3 ∧ w3.heap[w1.heap.size]? = some (.cells #[.int .i64 m.fr, .int .i64 m.to, .slice ta TL tc] 49 (0, 0))) ∧
          ∀ W, W = (((w3.setCell ⟨w.heap.size, 0, none⟩ (.int .i64 m.fr)).setCell ⟨w.heap.size, 1, none⟩ (.int .i64 m.to)).setCell ⟨w.heap.size, 2, none⟩ (.slice ta TL tc)) → BytesIn (fun k => k ≠ q) W (.slice ta TL tc) m.b ∧ RDoes w R q (d.out k) W) := fun w2 w3 hb2 hx => by
        have hB2 : Below w.heap.size w w2 := (HBO.out _).trans (hb2.mono (Below.size (HBO.out _)))
        obtain ⟨R', hr1, hr2, hr3⟩ := hx
        have hsz2 := hb2.size
        rw [World.size_alloc] at hsz2
        have e1 : w2.heap[w.heap.size]? = some z3 := by rw [hb2.block _ (by rw [World.size_alloc]; omega), heap_alloc_old (h := hws)]; exact hz
        have e2 : w2.heap[w1.heap.size]? = some (.cells #[.int .i64 m.fr, .int .i64 m.to, .slice ta TL tc] 49 (0, 0)) := by rw [hb2.block _ (by rw [World.size_alloc]; omega)]; exact heap_alloc_new _ _
        refine ⟨⟨hr3.heap e1 (by omega), hr3.heap e2 (by omega)⟩, fun W hW => ⟨?_, R', ?_, fun k hk => (hr2 k hk).imp id fun h => by omega, ?_⟩⟩
        · have hch : Chg (fun k => k = q ∨ k = w.heap.size) w2 W := by
            rw [hW]
            exact chg3 (hr3.mono (S' := fun k => k = q ∨ k = w.heap.size) fun k hk => .inl (.inl hk)) (.inl (.inr rfl)) _ _ _
          have hbb : BytesIn R w2 (.slice ta TL tc) m.b := (HBT.out.below (Go.Joins.below_alloc1 w1 _) (Nat.le_refl _)).below hb2 (Nat.le_refl _)
          exact (hbb.chg hch fun k hk hR => by
            rcases hk with hk | hk
            · rw [hk] at hR; exact hqR hR
            · have := HRl.out k hR; omega).wide fun k _ hk e => hqR (by rw [← e]; exact hk)
        · obtain ⟨ho', bv', cv', vs', ps', hp'⟩ := hr1
          refine ⟨ho', bv', cv', vs', ps', hp'.keep (I := fun k => k ≠ w.heap.size) ?_ fun k hk e => ?_⟩
          · rw [hW]
            exact (chg3 (S := fun k => k = w.heap.size) (Chg.refl (fun k => k = w.heap.size) w3) (.inl rfl) _ _ _).keep fun k hk => by simp [hk]
          · rcases hk with hk | hk
            · rcases hr2 k hk with h | h
              · have := HRl.out k h; omega
              · omega
            · omega
        · rw [hW]
          exact chg3 ((Chg.of_below (S := fun k => k = q) hB2 (Nat.le_refl _)).trans hr3) (.inr (Nat.le_refl _)) _ _ _
      clear hb1 hz hbt hTL hws
      go_wp2_with (go_at_call 41; refine (HOPEN.out _ (HBO.out _)).mono ?_; rintro e w2 ⟨rfl, hb2⟩; have HB2 := Lib.hid hb2; clear hb2)
      refine (HOUT.out w2 ((HBO.out _).trans (HB2.out.mono (Below.size (HBO.out _))))).mono ?_
      rintro e w3 ⟨rfl, hx⟩
      obtain ⟨⟨b0, b1⟩, hfin⟩ := HT.out w2 w3 HB2.out hx
      have HFIN := Lib.hid hfin
      have HZ := Lib.hid b0
      have q0 : w3.cell? ⟨w.heap.size, 0, none⟩ = some (.int .i64 0) := by rw [Go.Joins.cell_of_block b0]; rfl
      have q1 : w3.cell? ⟨w.heap.size, 1, none⟩ = some (.int .i64 0) := by rw [Go.Joins.cell_of_block b0]; rfl
      have q2 : w3.cell? ⟨w.heap.size, 2, none⟩ = some (.slice none 0 0) := by rw [Go.Joins.cell_of_block b0]; rfl
      have r0 : w3.cell? ⟨w1.heap.size, 0, none⟩ = some (.int .i64 m.fr) := by rw [Go.Joins.cell_of_block b1]; rfl
      have r1 : w3.cell? ⟨w1.heap.size, 1, none⟩ = some (.int .i64 m.to) := by rw [Go.Joins.cell_of_block b1]; rfl
      have r2 : w3.cell? ⟨w1.heap.size, 2, none⟩ = some (.slice ta TL tc) := by rw [Go.Joins.cell_of_block b1]; rfl
      have f0 : ∀ j, w3.frozen? ⟨w.heap.size, j, none⟩ = false := fun j => by simp [World.frozen?, b0, z3]
      clear b0 b1 hfin hx
      go_wp2
      refine bodyPost_ret (results_msg (p := 4) (u := 5) rfl _ _ w.heap.size _ _ _ (0, 0) rfl (fin3 HZ.out _ _ _)) rfl ⟨ta, tc, by rw [HTL.out]; rfl, ?_⟩
      rw [HTL.out]
      exact HFIN.out _ rfl
end Go.Proofs.Ytbmebmkpjbgdoaa
