/- The document's net: out, Drop. -/
import Derived.Test.YtbmebmkpjbgdoaaRef2
namespace Go.Proofs.Ytbmebmkpjbgdoaa
open Go.RowKit
/-- append of a row of messages, whatever it is -/
theorem wpList_append_row {w : World} {ops : Array Oper} {rest : List Oper} {o : Oper} {a : Act} {Q : Exit → Act → World → Prop} (hgd : o.guard = none) (s x : Operand)
    (ho : o.op = .call { callee := .builtin .append, args := #[s, x], argTypes := #[40, 40] }) (v u : Value) (vs us : List MV) (hown : OwnMs w v vs) (hu : OwnMs w u us) (hs : a.eval s = v) (hx : a.eval x = u)
    (hone : ∀ u ∈ us.flatMap mc, u.oneCell' = true) (hsmall : vs.length + us.length ≤ 1000000)
    (h : ∀ v' w', OwnMs w' v' (vs ++ us) → w.grownBy w' v.ownBlock → Placed w v v' → wpList Try.prog ops Q rest (a.put o.dst v') w') : wpList Try.prog ops Q (o :: rest) a w := by
  obtain ⟨i0, hi, hz0, hz1, hz2⟩ := info_parts info49
  rcases hu.2 with ⟨rfl, h0⟩ | ⟨g, cap, cur, rfl, hbg, hg, hnc, hcm, hcs, htake⟩
  · obtain rfl : us = [] := List.eq_nil_of_length_eq_zero h0
    exact wpList_append_own_none hgd s x 40 ho 0 49 i0 3 Try.underlying40 hi v vs.length (vs.flatMap mc) hs hown hx (h v w (by rw [List.append_nil]; exact hown) (World.grownBy.refl _ _) (Placed.refl _ _))
  · exact wpList_append_ms hgd s x ho v vs us hown ⟨g, 0, none⟩ us.length cap hs hx rfl (World.ownsRow.cells hu rfl) hone hsmall h
/-- the document's net behind another row of messages -/
theorem RefP.rowed {w w3 : World} {R R' : Bks} {q : Nat} {d : Nt} {bv cv v3 : Value} {vs us : List MV} {ps : List Pr} {bag : List Msg} (h : RefP w R q d bv cv vs ps) (hb : Below w.heap.size w w3) (hq : q < w.heap.size) (ho : OwnMs w3 v3 us) (hm : us.map (·.1) = bag) (hR : ∀ k, R k → R' k) (hR' : ∀ k, R' k → R k ∨ (w.heap.size ≤ k ∧ k < w3.heap.size)) (hv : ∀ k, v3.ownBlock = some k → R' k) (hby : ∀ v ∈ us, BytesIn R' w3 v.2 v.1.b) :
    RefP (w3.setCell ⟨q, 1, none⟩ v3) R' q { d with bag := bag } v3 cv us ps ∧ Chg (fun k => k = q) w (w3.setCell ⟨q, 1, none⟩ v3) := by
  have hP := h.below hb
  have hch : Chg (fun k => k = q) w3 (w3.setCell ⟨q, 1, none⟩ v3) := (Chg.refl (fun k => k = q) w3).setCell (p := ⟨q, 1, none⟩) (.inl rfl) _
  have hqR' : ¬ R' q := fun hr => by
    rcases hR' q hr with h1 | h1
    · exact h.qR h1
    · omega
  refine ⟨?_, (Chg.of_below (S := fun k => k = q) hb (Nat.le_refl _)).trans hch⟩
  exact {
    block := Go.Joins.block_setCell hP.block _
    row := ho.chg hch fun k hk e => by rw [e] at hk; exact hqR' (hv q hk)
    bag := hm
    byt := fun v hv => (hby v hv).chg hch fun k hk hr => by rw [hk] at hr; exact hqR' hr
    prs := hP.prs.keep (hch.keep (I := fun k => k ≠ q) fun k hk => by simp [hk]) fun k hk e => by rw [e] at hk; exact h.qR (h.cR q hk)
    cuts := h.cuts
    nd := h.nd
    few := h.few
    bR := hv
    cR := fun k hk => hR k (h.cR k hk)
    qR := hqR'
    lt := fun k hk => by
      have := hch.size
      rcases hR' k hk with h1 | h1
      · have := hP.lt k h1; omega
      · omega }
theorem RefP.oneCells {w : World} {R : Bks} {q : Nat} {d : Nt} {bv cv : Value} {vs : List MV} {ps : List Pr} (h : RefP w R q d bv cv vs ps) : ∀ u ∈ vs.flatMap mc, u.oneCell' = true := by
  intro u hu
  obtain ⟨v, hv, hu⟩ := List.mem_flatMap.1 hu
  simp only [mc, List.mem_cons, List.not_mem_nil, or_false] at hu
  rcases hu with rfl | rfl | rfl
  · rfl
  · rfl
  · obtain ⟨_, _, e, _⟩ := (h.byt v hv).form; rw [e]; rfl
theorem placed_new {W : World} {B b : Nat} {v : Value} {n c : Nat} (h : Placed W (.slice (some ⟨b, 0, none⟩) n c) v) (hb : B ≤ b) (hW : B ≤ W.heap.size) : ∀ k, v.ownBlock = some k → B ≤ k := fun k hk => by
  rcases h with e | e
  · rw [e] at hk
    have : b = k := Option.some.inj hk
    omega
  · have := e k hk; omega
/-- what a call of the document's leaves -/
def RDoes (w : World) (R : Bks) (q : Nat) (d : Nt) (w' : World) : Prop := ∃ R', RefAt w' R' q d ∧ (∀ k, R' k → R k ∨ w.heap.size ≤ k) ∧ Chg (fun k => k = q) w w'
theorem RDoes.still {w w' : World} {R : Bks} {q : Nat} {d : Nt} (h : RefAt w R q d) (hb : Below w.heap.size w w') : RDoes w R q d w' := by
  obtain ⟨ho, bv, cv, vs, ps, h⟩ := h
  exact ⟨R, ⟨ho, bv, cv, vs, ps, h.below hb⟩, fun _ h => .inl h, Chg.of_below hb (Nat.le_refl _)⟩
set_option maxRecDepth 100000 in
set_option maxHeartbeats 2000000 in
theorem rout_any {w : World} {R : Bks} {q : Nat} {d : Nt} (h : RefAt w R q d) (i : Nat) (hi : i < d.bag.length) :
    Calls Try.prog 53 #[.pointer (some ⟨q, 0, none⟩), .int .i64 (i : Nat)] w fun e w' => e = .returned (.tuple #[]) ∧ RDoes w R q (d.out i) w' := by
  obtain ⟨ho, bv, cv, vs, ps, h⟩ := h
  have hlen := h.len
  have hmx := ho.len
  rcases h.row.2 with ⟨h3, h0⟩ | ⟨g, cap, cur, rfl, hbg, hg, hnc, hcm, hcs, htake⟩
  · omega
  · have hq : q < w.heap.size := lt_of_block h.block
    obtain ⟨W1, hW1⟩ : ∃ W1, W1 = w.alloc (.cells #[] 49) := ⟨_, rfl⟩
    have hA1 : Below w.heap.size w W1 := by rw [hW1]; exact Go.Joins.below_alloc1 w _
    have c1 : ∀ o, (w.alloc o).cell? ⟨q, 1, none⟩ = some (.slice (some ⟨g, 0, none⟩) vs.length cap) := fun o => (h.below (Go.Joins.below_alloc1 w o)).c1
    have hrow0 : OwnMs W1 (.slice (some ⟨w.heap.size, 0, none⟩) 0 0) [] := by rw [hW1]; exact OwnMs.made w
    have hcap : cap ≤ 9223372036854775807 := by unfold maxLen at hcm; exact hcm
    have HN1 : Hid (∀ (j : Nat) u, ((vs.take i).flatMap mc)[j]? = some u → W1.cell? ((⟨g, 0, none⟩ : Addr).add j) = some u) := fun j u hj => by
      rw [mc_take] at hj
      have hj2 : j < i * 3 := by have := (List.getElem?_eq_some_iff.1 hj).1; simp at this; omega
      rw [List.getElem?_take_of_lt hj2] at hj
      exact World.ownsRow.cells (h.below hA1).row rfl j u hj
    have hone := h.oneCells
    have HO1 : Hid (∀ u ∈ (vs.take i).flatMap mc, u.oneCell' = true) := fun u hu => hone u (by rw [mc_take] at hu; exact List.mem_of_mem_take hu)
    have HO2 : Hid (∀ u ∈ (vs.drop (i + 1)).flatMap mc, u.oneCell' = true) := fun u hu => hone u (by rw [mc_drop] at hu; exact List.mem_of_mem_drop hu)
    obtain ⟨A, hA, hsrc⟩ : ∃ A : Addr, (if cap = i + 1 then some (⟨g, 0, none⟩ : Addr) else some ⟨g, (i + 1) * 3, none⟩) = some A ∧ Hid (∀ W, Below w.heap.size w W → ∀ (t : Nat) u, ((vs.drop (i + 1)).flatMap mc)[t]? = some u → W.cell? (A.add t) = some u) := by
      by_cases hcp : cap = i + 1
      · refine ⟨⟨g, 0, none⟩, by simp [hcp], fun W hb t u hu => ?_⟩
        have := (List.getElem?_eq_some_iff.1 hu).1
        rw [mc_length, List.length_drop] at this
        omega
      · refine ⟨⟨g, (i + 1) * 3, none⟩, by simp [hcp], fun W hb t u hu => ?_⟩
        rw [mc_drop, List.getElem?_drop] at hu
        have := World.ownsRow.cells (h.below hb).row rfl _ u hu
        rw [Addr.add_lit] at this ⊢
        rw [Nat.zero_add] at this
        exact this
    have HP := Lib.hid h
    have HOK := Lib.hid ho
    have HA1 := Lib.hid hA1
    have HR0 := Lib.hid hrow0
    have HTL : Hid ((vs.take i).length = i ∧ (vs.drop (i + 1)).length = vs.length - (i + 1)) := by
      constructor
      · rw [List.length_take]; omega
      · rw [List.length_drop]
    have hil : i < vs.length := by omega
    have HVL := Lib.hid (And.intro hlen hmx)
    obtain ⟨L, hL⟩ : ∃ L, vs.length = L := ⟨_, rfl⟩
    rw [hL] at c1 hnc hil
    have HLL := Lib.hid hL
    have hi1 : i ≤ cap := by omega
    have hi2 : i + 1 ≤ cap := by omega
    have hi3 : (0 : Int) ≤ (i : Int) + 1 := by omega
    have hi4 : (i : Int) + 1 ≤ (L : Int) := by omega
    have hL64 : L ≤ 64 := by omega
    clear h ho hlen hmx hbg hg hcm hcs htake hone hA1 hrow0 hL hi
    go_enter Try.func53, Try.ntmps53
    have HFIN : Hid (∀ w3 v3 w2 v2, Below w.heap.size w w2 → (∀ k, v2.ownBlock = some k → w.heap.size ≤ k) → OwnMs w3 v3 (vs.take i ++ vs.drop (i + 1)) → w2.grownBy w3 v2.ownBlock → Placed w2 v2 v3 → (w3.cell? ⟨q, 1, none⟩ = some (.slice (some ⟨g, 0, none⟩) L cap) ∧ w3.frozen? ⟨q, 1, none⟩ = false) ∧ RDoes w R q (d.out i) (w3.setCell ⟨q, 1, none⟩ v3)) := fun w3 v3 w2 v2 hb2 hv2 ho3 hg3 hp3 => by
      have hb3 : Below w.heap.size w w3 := hb2.grown hg3 hb2.size fun k hk => hv2 k hk
      have hlt3 := ho3.lt
      have hv3 : ∀ k, v3.ownBlock = some k → w.heap.size ≤ k := fun k hk => by
        rcases hp3 with e | e
        · exact hv2 k (e.symm.trans hk)
        · exact Nat.le_trans hb2.size (e k hk)
      have hP3 := HP.out.below hb3
      obtain ⟨hx, hc⟩ := HP.out.rowed (R' := fun k => R k ∨ v3.ownBlock = some k) (bag := d.bag.eraseIdx i) hb3 hq ho3 (by rw [← HP.out.bag, List.eraseIdx_eq_take_drop_succ, List.map_append, List.map_take, List.map_drop]) (fun k hk => .inl hk) (fun k hk => hk.imp id fun h => ⟨hv3 k h, hlt3 k h⟩) (fun k hk => .inr hk) (fun v hv => (hP3.byt v (by rcases List.mem_append.1 hv with h | h; exact List.mem_of_mem_take h; exact List.mem_of_mem_drop h)).wide fun k _ hk => .inl hk)
      refine ⟨⟨by rw [← HLL.out]; exact hP3.c1, hP3.fz 1⟩, _, ⟨HOK.out.out (i : Int), _, _, _, _, hx⟩, fun k hk => hk.imp id fun h => hv3 k h, hc⟩
    go_wp2_with (first
      | (at_builtin; rw [← hW1]; refine wpList_append_ms rfl _ _ rfl _ [] (vs.take i) HR0.out ⟨g, 0, none⟩ i cap rfl rfl HTL.out.1.symm HN1.out HO1.out (by rw [HTL.out.1]; simp; omega) ?_; intro v2 w2 hown2 hgrow2 hpl2; have HO3 : Hid (OwnMs w2 v2 (vs.take i)) := hown2; have HB2 : Hid (Below w.heap.size w w2) := HA1.out.grown hgrow2 HA1.out.size (fun k hk => (Nat.le_of_eq (Option.some.inj hk))); have HV2 : Hid (∀ k, v2.ownBlock = some k → w.heap.size ≤ k) := placed_new hpl2 (Nat.le_refl _) HA1.out.size; obtain ⟨a2, c2, e2⟩ := hown2.form; rw [List.nil_append, HTL.out.1] at e2; subst e2; have c12 := (HP.out.below HB2.out).c1; rw [HLL.out] at c12; have f12 := (HP.out.below HB2.out).fz 1; clear hown2 hgrow2 hpl2)
      | (at_builtin; refine wpList_append_ms rfl _ _ rfl _ (vs.take i) (vs.drop (i + 1)) HO3.out A (L - (i + 1)) (cap - (i + 1)) rfl rfl (by rw [HTL.out.2, HLL.out]) (hsrc.out _ HB2.out) HO2.out (by rw [HTL.out.1, HTL.out.2, HLL.out]; omega) ?_; intro v3 w3 hown3 hgrow3 hpl3; obtain ⟨⟨c13, f13⟩, hfin⟩ := HFIN.out w3 v3 w2 _ HB2.out HV2.out hown3 hgrow3 hpl3; have HX := Lib.hid hfin; obtain ⟨N3, hN3⟩ : ∃ N3, (vs.take i ++ vs.drop (i + 1)).length = N3 := ⟨_, rfl⟩; obtain ⟨a3, c3, e3⟩ := hown3.form; rw [hN3] at e3; subst e3; clear hown3 hgrow3 hpl3 hfin hN3))
    exact bodyPost_end (results_none rfl _ _ _) rfl ⟨rfl, HX.out⟩
end Go.Proofs.Ytbmebmkpjbgdoaa
