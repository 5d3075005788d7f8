/- The document's net: Cut. -/
import Derived.Test.YtbmebmkpjbgdoaaRef6
namespace Go.Proofs.Ytbmebmkpjbgdoaa
open Go.RowKit
def zPair : Value := .agg #[.int .i64 0, .int .i64 0]
theorem info81 : (Try.prog.info? 81).map (fun i => (i.zero, i.size, i.bytes)) = some (some zPair, 2, 16) := by kernel_rfl
theorem run_append_ps (w : World) (ty : TypeId) (v : Value) (vs us : List Pr) (hown : OwnPs w v vs) (ad : Addr) (cap : Nat) (hnews : ∀ (j : Nat) u, (us.flatMap pc)[j]? = some u → w.cell? (ad.add j) = some u) (hone : ∀ u ∈ us.flatMap pc, u.oneCell' = true) (hsmall : vs.length + us.length ≤ 1000000) :
    ∃ v' w', (Builtin.append_ #[62, 62] ty #[v, .slice (some ad) us.length cap]).run Try.prog w = .ok v' w' ∧ OwnPs w' v' (vs ++ us) ∧ w.grownBy w' v.ownBlock ∧ Placed w v v' := by
  obtain ⟨i0, hi, hz0, hz1, hz2⟩ := info_parts info81
  obtain ⟨v', w', hr, ho, hg, hiff⟩ := run_append_own_wide (P := Try.prog) w 0 62 ty 81 i0 zPair 2 16 Try.underlying62 hi hz0 hz1 hz2 rfl (by decide) v vs.length (vs.flatMap pc) hown ad us.length cap (us.flatMap pc) (pc_length us) hnews hone (by unfold maxLen; omega) (by omega) (Nat.zero_le _)
  refine ⟨v', w', hr, ?_, hg, ?_⟩
  · unfold OwnPs
    rw [List.length_append, List.flatMap_append]
    exact ho
  · rcases hown.2 with ⟨rfl, h0⟩ | ⟨g, cap', cur, rfl, hbg, hgc, hnc, hcm, hcs, htake⟩
    · rcases Nat.eq_zero_or_pos us.length with h1 | h1
      · rw [hiff.2 ⟨rfl, h1⟩]; exact .inl rfl
      · have hr2 := run_append_nil (P := Try.prog) w 62 ty 81 i0 zPair Try.underlying62 hi hz0 ad us.length cap (us.flatMap pc) (by rw [hz1]; exact pc_length us) hnews h1 (by omega) (by rw [hz2]; omega)
        rw [hr] at hr2
        injection hr2 with h2 h3
        right
        intro k hk
        rw [h2] at hk
        simp [Value.ownBlock] at hk
        omega
    · by_cases hroom : vs.length + us.length ≤ cap'
      · have hr2 := run_append_room (P := Try.prog) w 62 ty 81 i0 Try.underlying62 hi g vs.length cap' cur hgc ad us.length cap (us.flatMap pc) (by rw [hz1]; exact pc_length us) hnews hone hroom (by rw [hz1, pc_length]; omega)
        rw [hr] at hr2
        injection hr2 with h2 h3
        left
        rw [h2]; rfl
      · have hr2 := run_append_grow (P := Try.prog) w 62 ty 81 i0 zPair Try.underlying62 hi hz0 ⟨g, 0, none⟩ vs.length cap' (vs.flatMap pc) (by rw [hz1]; exact pc_length vs) (World.ownsRow.cells hown rfl) ad us.length cap (us.flatMap pc) (by rw [hz1]; exact pc_length us) hnews (by omega) (by omega) (growslice_fits_wide (by omega) (by rw [hz2]; omega))
        rw [hr] at hr2
        injection hr2 with h2 h3
        right
        intro k hk
        rw [h2] at hk
        simp [Value.ownBlock] at hk
        omega
theorem step_append_ps {ops : Array Oper} {o : Oper} {a : Act} {w : World} {K : Act → World → Prop} {Q : Exit → Act → World → Prop} {E : Prop}
    (hg : o.guard = none) (s x : Operand) (hop : o.op = Op.call { callee := Callee.builtin Builtin.append, args := #[s, x], argTypes := #[62, 62] })
    (v : Value) (vs us : List Pr) (hown : OwnPs w v vs) (ad : Addr) (m cap : Nat) (hs : a.eval s = v) (hx : a.eval x = .slice (some ad) m cap) (hm : m = us.length)
    (hnews : ∀ (j : Nat) u, (us.flatMap pc)[j]? = some u → w.cell? (ad.add j) = some u) (hone : ∀ u ∈ us.flatMap pc, u.oneCell' = true) (hsmall : vs.length + us.length ≤ 1000000)
    (hK : ∀ a' len' cap' w', OwnPs w' (.slice a' len' cap') (vs ++ us) → w.grownBy w' v.ownBlock → Placed w v (.slice a' len' cap') → K (a.put o.dst (.slice a' len' cap')) w') :
    if Region.wanted o (yielded ops a.tmps) = true then Oper.wp Try.prog o a w K Q else E := by
  have hw : Region.wanted o (yielded ops a.tmps) = true := by simp [Region.wanted, hg]
  rw [if_pos hw]
  subst hm
  obtain ⟨v', w', hrun, r1, r2, r3⟩ := run_append_ps w o.type v vs us hown ad cap hnews hone hsmall
  obtain ⟨a', c', rfl⟩ := r1.form
  have hk := hK a' _ c' w' r1 r2 r3
  clear hK r1 r2 r3
  generalize (vs ++ us).length = N at hk hrun
  unfold Oper.wp
  simp [execOp, hop, resolve, invoke, builtin, hs, hx, hrun, Result.andThen]
  exact hk
theorem step_append_prow {ops : Array Oper} {o : Oper} {a : Act} {w : World} {K : Act → World → Prop} {Q : Exit → Act → World → Prop} {E : Prop}
    (hg : o.guard = none) (s x : Operand) (hop : o.op = Op.call { callee := Callee.builtin Builtin.append, args := #[s, x], argTypes := #[62, 62] })
    (b : Nat) (u : Value) (us : List Pr) (hown : OwnPs w (.slice (some ⟨b, 0, none⟩) 0 0) []) (hu : OwnPs w u us) (hs : a.eval s = .slice (some ⟨b, 0, none⟩) 0 0) (hx : a.eval x = u)
    (hone : ∀ u ∈ us.flatMap pc, u.oneCell' = true) (hsmall : us.length ≤ 1000000)
    (hK : ∀ a' len' cap' w', OwnPs w' (.slice a' len' cap') us → w.grownBy w' (some b) → Placed w (.slice (some ⟨b, 0, none⟩) 0 0) (.slice a' len' cap') → K (a.put o.dst (.slice a' len' cap')) w') :
    if Region.wanted o (yielded ops a.tmps) = true then Oper.wp Try.prog o a w K Q else E := by
  rcases hu.2 with ⟨rfl, h0⟩ | ⟨g, cap, cur, rfl, hbg, hg2, hnc, hcm, hcs, htake⟩
  · obtain rfl : us = [] := List.eq_nil_of_length_eq_zero h0
    have hw : Region.wanted o (yielded ops a.tmps) = true := by simp [Region.wanted, hg]
    rw [if_pos hw]
    obtain ⟨i0, hi, hz0, hz1, hz2⟩ := info_parts info81
    have hrun := run_append_owned_none (P := Try.prog) (w := w) 0 62 o.type 81 i0 2 Try.underlying62 hi (.slice (some ⟨b, 0, none⟩) 0 0) 0 [] hown
    have hk := hK (some ⟨b, 0, none⟩) 0 0 w hown (World.grownBy.refl _ _) (Placed.refl _ _)
    clear hK
    unfold Oper.wp
    simp [execOp, hop, resolve, invoke, builtin, hs, hx, hrun, Result.andThen]
    exact hk
  · exact step_append_ps hg s x hop _ [] us hown ⟨g, 0, none⟩ us.length cap hs hx rfl (World.ownsRow.cells hu rfl) hone (by simpa using hsmall) (fun a' l' c' w' h1 h2 h3 => hK a' l' c' w' (by simpa using h1) h2 h3)
theorem OwnPs.made (w : World) : OwnPs (w.alloc (.cells #[] 81)) (.slice (some ⟨w.heap.size, 0, none⟩) 0 0) [] :=
  World.ownsRow_made w #[] 0 (Nat.zero_le _) (Nat.zero_le _) rfl
theorem OwnPs.lt {w : World} {v : Value} {vs : List Pr} (h : OwnPs w v vs) : ∀ k, v.ownBlock = some k → k < w.heap.size := fun k hk => (World.ownsRow.lt h k hk).2
theorem OwnPs.chg {w w' : World} {v : Value} {ps : List Pr} {S : Nat → Prop} (h : OwnPs w v ps) (hc : Chg S w w') (hS : ∀ k, v.ownBlock = some k → ¬ S k) : OwnPs w' v ps :=
  h.keep (I := fun k => v.ownBlock = some k) (hc.keep fun k hk he => hS k he hk) fun _ hk => hk
/-- the document's net behind another row of pairs -/
theorem RefP.paired {w w3 : World} {R R' : Bks} {q : Nat} {d : Nt} {bv cv v3 : Value} {vs : List MV} {ps us : List Pr} {cuts : List Bool} (h : RefP w R q d bv cv vs ps) (hb : Below w.heap.size w w3) (hq : q < w.heap.size) (ho : OwnPs w3 v3 us) (hm : CutsAre { d with cuts := cuts } us) (hnd : us.Nodup) (hfew : ∀ p ∈ us, 1 ≤ p.1 ∧ p.1 ≤ 15 ∧ 1 ≤ p.2 ∧ p.2 ≤ 15) (hR : ∀ k, R k → R' k) (hR' : ∀ k, R' k → R k ∨ (w.heap.size ≤ k ∧ k < w3.heap.size)) (hv : ∀ k, v3.ownBlock = some k → R' k) :
    RefP (w3.setCell ⟨q, 2, none⟩ v3) R' q { d with cuts := cuts } bv v3 vs us ∧ Chg (fun k => k = q) w (w3.setCell ⟨q, 2, none⟩ v3) := by
  have hP := h.below hb
  have hch : Chg (fun k => k = q) w3 (w3.setCell ⟨q, 2, none⟩ v3) := (Chg.refl (fun k => k = q) w3).setCell (p := ⟨q, 2, none⟩) (.inl rfl) _
  have hqR' : ¬ R' q := fun hr => by
    rcases hR' q hr with h1 | h1
    · exact h.qR h1
    · omega
  refine ⟨?_, (Chg.of_below (S := fun k => k = q) hb (Nat.le_refl _)).trans hch⟩
  exact {
    block := Go.Joins.block_setCell hP.block _
    row := hP.row.chg hch fun k hk e => by rw [e] at hk; exact h.qR (h.bR q hk)
    bag := h.bag
    byt := fun v hv => ((hP.byt v hv).wide fun k _ hk => hR k hk).chg hch fun k hk hr => by rw [hk] at hr; exact hqR' hr
    prs := ho.chg hch fun k hk e => by rw [e] at hk; exact hqR' (hv q hk)
    cuts := hm
    nd := hnd
    few := hfew
    bR := fun k hk => hR k (h.bR k hk)
    cR := hv
    qR := hqR'
    lt := fun k hk => by
      have := hch.size
      rcases hR' k hk with h1 | h1
      · have := hP.lt k h1; omega
      · omega }
theorem place_inj {d : Nt} (h : d.ok) {a b x y : Int} (h1 : d.links a b = true) (h2 : d.links x y = true) : place x y = place a b ↔ (min x y, max x y) = (min a b, max a b) := by
  obtain ⟨_, k1, k2⟩ := (links_iff d a b).1 h1
  obtain ⟨_, k3, k4⟩ := (links_iff d x y).1 h2
  have := h.most
  constructor
  · intro he
    unfold place at he
    exact Prod.ext (by show min x y = min a b; omega) (by show max x y = max a b; omega)
  · intro he
    injection he with e1 e2
    unfold place
    rw [e1, e2]
theorem getD_set_cut {d : Nt} (h : d.ok) {a b : Int} (h1 : d.links a b = true) (c : Bool) (x y : Int) : (d.cuts.set (place a b) c).getD (place x y) false = if place x y = place a b then c else d.cuts.getD (place x y) false := by
  have hp := place_lt h.most h1
  rw [List.getD_eq_getElem?_getD, List.getElem?_set, List.getD_eq_getElem?_getD]
  by_cases he : place x y = place a b
  · rw [if_pos he.symm, if_pos he, if_pos (by rw [h.cuts]; exact hp)]; rfl
  · rw [if_neg fun h => he h.symm, if_neg he]
theorem cutsAre_cut {d : Nt} (h : d.ok) {ps : List Pr} (hc : CutsAre d ps) {a b : Int} (h1 : d.links a b = true) : CutsAre { d with cuts := d.cuts.set (place a b) true } (ps ++ [(min a b, max a b)]) := fun x y h2 => by
  have h2' : d.links x y = true := h2
  show _ = (d.cuts.set (place a b) true).getD (place x y) false
  rw [getD_set_cut h h1, ← hc x y h2']
  by_cases he : place x y = place a b
  · rw [if_pos he, (place_inj h h1 h2').1 he]; simp
  · rw [if_neg he]
    have : (min x y, max x y) ≠ (min a b, max a b) := fun h3 => he ((place_inj h h1 h2').2 h3)
    simp only [List.mem_append, List.mem_singleton, this, or_false]
theorem cutsAre_heal {d : Nt} (h : d.ok) {ps : List Pr} (hc : CutsAre d ps) {a b : Int} (h1 : d.links a b = true) : CutsAre { d with cuts := d.cuts.set (place a b) false } (ps.filter fun p => p != (min a b, max a b)) := fun x y h2 => by
  have h2' : d.links x y = true := h2
  show _ = (d.cuts.set (place a b) false).getD (place x y) false
  rw [getD_set_cut h h1, ← hc x y h2']
  by_cases he : place x y = place a b
  · rw [if_pos he, (place_inj h h1 h2').1 he]; simp
  · rw [if_neg he]
    have : (min x y, max x y) ≠ (min a b, max a b) := fun h3 => he ((place_inj h h1 h2').2 h3)
    simp only [List.mem_filter, bne_iff_ne, ne_eq, this, not_false_eq_true, and_true]
theorem set_same {d : Nt} (h : d.ok) {a b : Int} (h1 : d.links a b = true) (c : Bool) (hb : d.cuts.getD (place a b) false = c) : d.cuts.set (place a b) c = d.cuts := by
  have hp : place a b < d.cuts.length := by rw [h.cuts]; exact place_lt h.most h1
  rw [List.getD_eq_getElem?_getD, List.getElem?_eq_getElem hp] at hb
  have hb : d.cuts[place a b] = c := hb
  rw [← hb]
  exact List.set_getElem_self hp
/-- one pair more -/
theorem RefP.cutted {w w5 : World} {R : Bks} {q : Nat} {d : Nt} {bv cv v5 : Value} {vs : List MV} {ps : List Pr} {a b : Int} (h : RefP w R q d bv cv vs ps) (hok : d.ok) (hl : d.links a b = true) (hno : d.cuts.getD (place a b) false = false) (hb5 : Below w.heap.size w w5) (hv5 : ∀ k, v5.ownBlock = some k → w.heap.size ≤ k) (ho5 : OwnPs w5 v5 (ps ++ [(min a b, max a b)])) :
    (w5.cell? ⟨q, 2, none⟩ = some cv ∧ w5.frozen? ⟨q, 2, none⟩ = false) ∧ RDoes w R q (d.turn a b true).2 (w5.setCell ⟨q, 2, none⟩ v5) := by
  have hlt5 := ho5.lt
  have hP5 := h.below hb5
  have hokt := hok.turn a b true
  have ht : (d.turn a b true).2 = { d with cuts := d.cuts.set (place a b) true } := by unfold Nt.turn; rw [if_pos hl]
  rw [ht] at hokt ⊢
  obtain ⟨_, k1, k2⟩ := (links_iff d a b).1 hl
  have hm := hok.most
  obtain ⟨hx, hc⟩ := h.paired (R' := fun k => R k ∨ v5.ownBlock = some k) hb5 (lt_of_block h.block) ho5 (cutsAre_cut hok h.cuts hl) (by
    have hni : (min a b, max a b) ∉ ps := by
      have := h.cuts a b hl
      rw [hno] at this
      simpa using this
    rw [List.nodup_append]
    refine ⟨h.nd, by simp, fun x hx y hy => ?_⟩
    rw [List.mem_singleton] at hy
    subst hy
    intro e
    subst e
    exact hni hx) (fun p hp => by
    rcases List.mem_append.1 hp with hp | hp
    · exact h.few p hp
    · rw [List.mem_singleton] at hp
      subst hp
      refine ⟨?_, ?_, ?_, ?_⟩ <;> (dsimp only; omega)) (fun _ hk => .inl hk) (fun k hk => hk.imp id fun h => ⟨hv5 k h, hlt5 k h⟩) (fun k hk => .inr hk)
  exact ⟨⟨hP5.c2, hP5.fz 2⟩, _, ⟨hokt, _, _, _, _, hx⟩, fun k hk => hk.imp id fun h => hv5 k h, hc⟩
end Go.Proofs.Ytbmebmkpjbgdoaa
