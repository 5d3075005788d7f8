/- Slices of parts of the call's own: append from a slice of parts that came in; a literal of one part. -/
import Derived.Test.YtniogemgkcoimaaParts
import Derived.Test.YtniogemgkcoimaaOwn
import Derived.Deep.Slices
namespace Go.Proofs.Ytniogemgkcoimaa
open Go.RowKit
theorem info32 : (Try.prog.info? 32).map (fun i => (i.zero, i.size, i.bytes)) = some (some (.agg #[.int .i64 0, .int .i64 0, .int .u64 0, .slice none 0 0]), 4, 48) := by kernel_rfl
/-- the four cells of a part whose bytes are in a slice -/
def pcells (p : PV × Value) : List Value := [.int .i64 p.1.sort, .int .i64 p.1.most, .int .u64 (p.1.x : Nat), p.2]
theorem pcells_length (ps : List (PV × Value)) : (ps.flatMap pcells).length = ps.length * 4 := by
  induction ps with
  | nil => rfl
  | cons p ps ih => rw [List.flatMap_cons, List.length_append, ih]; simp [pcells]; omega
theorem pcells_at : ∀ (ps : List (PV × Value)) (i r : Nat), r < 4 → (ps.flatMap pcells)[i * 4 + r]? = (ps[i]?).bind fun p => (pcells p)[r]?
  | [], i, r, _ => by simp
  | p :: ps, i, r, hr => by
    rw [List.flatMap_cons]
    have hl : (pcells p).length = 4 := rfl
    cases i with
    | zero => rw [List.getElem?_append_left (by omega)]; simp
    | succ i =>
      rw [List.getElem?_append_right (by omega), hl, show (i + 1) * 4 + r - 4 = i * 4 + r by omega, pcells_at ps i r hr]
      simp
/-- what the parts' bytes are, in the memory W of the beginning -/
def Held (W : World) (ps : List (PV × Value)) : Prop := ∀ p ∈ ps, BytesAt W p.2 p.1.b ∧ p.1.ok
def OwnParts (base : Nat) (w : World) (v : Value) (ps : List (PV × Value)) : Prop := w.ownsRow base 32 4 v ps.length (ps.flatMap pcells)
theorem OwnParts.parts {W w : World} {base : Nat} {v : Value} {ps : List (PV × Value)} (h : OwnParts base w v ps) (hh : Held W ps) (hb : ∀ v l, BytesAt W v l → BytesAt w v l) : PartsAt w v (ps.map (·.1)) := by
  rcases h.2 with ⟨rfl, h0⟩ | ⟨g, cap, cur, rfl, hbg, hg, hnc, hcm, hcs, htake⟩
  · rw [List.eq_nil_of_length_eq_zero h0]
    exact ⟨none, 0, rfl, Nat.zero_le _, Nat.zero_le _, fun h => absurd h (by simp)⟩
  · refine ⟨_, cap, by rw [List.length_map], by rw [List.length_map]; omega, by rw [List.length_map]; exact hnc, fun _ => ⟨g, 0, rfl, (Array.getElem?_eq_some_iff.1 hg).1, fun j p hj => ?_⟩⟩
    rw [List.getElem?_map, Option.map_eq_some_iff] at hj
    obtain ⟨q, hq, rfl⟩ := hj
    have hjl := (List.getElem?_eq_some_iff.1 hq).1
    have hc : ∀ r, r < 4 → w.cell? ⟨g, 0 + j * 4 + r, none⟩ = (pcells q)[r]? := fun r hr => by
      rw [Nat.zero_add, World.ownsRow.cellAt h (j * 4 + r) (by omega), pcells_at ps j r hr, hq]; rfl
    have hm := hh q (List.mem_of_getElem? hq)
    exact ⟨q.2, by have := hc 0 (by omega); exact this, hc 1 (by omega), hc 2 (by omega), hc 3 (by omega), hb _ _ hm.1, hm.2⟩
theorem OwnParts.chg {base : Nat} {w w' : World} {v : Value} {ps : List (PV × Value)} {S : List Nat} (h : OwnParts base w v ps) (hc : Chg S w w') (hS : ∀ k, v.ownBlock = some k → k ∉ S) : OwnParts base w' v ps := by
  refine ⟨h.1, ?_⟩
  rcases h.2 with h2 | ⟨g, cap, cur, rfl, hbg, hg, r⟩
  · exact .inl h2
  · exact .inr ⟨g, cap, cur, rfl, hbg, hc.heap hg (hS g rfl), r⟩
theorem OwnParts.form {base : Nat} {w : World} {v : Value} {ps : List (PV × Value)} (h : OwnParts base w v ps) : ∃ a cap, v = .slice a ps.length cap := by
  rcases h.2 with ⟨rfl, h0⟩ | ⟨g, cap, cur, rfl, _⟩
  · exact ⟨none, 0, by rw [h0]⟩
  · exact ⟨_, _, rfl⟩
/-- a slice of parts that came in, with its cells -/
theorem PartsAt.pairs {W : World} {v : Value} {l : List PV} (h : PartsAt W v l) : ∃ ps : List (PV × Value), ps.map (·.1) = l ∧ Held W ps ∧ (∀ p ∈ ps, p.2.oneCell' = true) ∧ ∃ a cap, v = .slice a l.length cap ∧ (0 < l.length → ∃ b off, a = some ⟨b, off, none⟩) ∧ ∀ ad, a = some ad → ∀ j u, (ps.flatMap pcells)[j]? = some u → W.cell? (ad.add j) = some u := by
  obtain ⟨a, cap, hv, _, _, hc⟩ := h
  have each : ∀ i, i < l.length → ∃ p : PV × Value, l[i]? = some p.1 ∧ ∀ b off, a = some ⟨b, off, none⟩ → PartAt W b (off + i * 4) p.1 p.2 := by
    intro i hi
    obtain ⟨b, off, rfl, _, hc⟩ := hc (by omega)
    obtain ⟨p, hp⟩ : ∃ p, l[i]? = some p := ⟨_, List.getElem?_eq_getElem hi⟩
    obtain ⟨u, hu⟩ := hc i p hp
    exact ⟨(p, u), hp, fun b' off' he => by cases he; exact hu⟩
  have hex : ∃ ps : List (PV × Value), ps.map (·.1) = l ∧ ∀ i p, ps[i]? = some p → ∀ b off, a = some ⟨b, off, none⟩ → PartAt W b (off + i * 4) p.1 p.2 := by
    haveI : Inhabited (PV × Value) := ⟨(⟨0, 0, 0, []⟩, .nilIface)⟩
    obtain ⟨f, hf⟩ := Go.Deep.choose_lt each
    refine ⟨(List.range l.length).map f, ?_, fun i p hp => ?_⟩
    · apply List.ext_getElem?
      intro i
      by_cases hi : i < l.length
      · simp only [List.getElem?_map, List.getElem?_range hi, Option.map_some]
        exact (hf i hi).1.symm
      · simp only [List.getElem?_map]
        rw [List.getElem?_eq_none (by simpa using hi), List.getElem?_eq_none (by omega)]; rfl
    · obtain ⟨hi, he⟩ := List.getElem?_eq_some_iff.1 hp
      have hi' : i < l.length := by simpa using hi
      have : p = f i := by rw [← he]; simp
      subst this
      exact (hf i hi').2
  obtain ⟨ps, hps, hall⟩ := hex
  have hl : ps.length = l.length := by rw [← hps]; simp
  have hmem : ∀ p ∈ ps, ∃ i b off, ps[i]? = some p ∧ a = some ⟨b, off, none⟩ ∧ PartAt W b (off + i * 4) p.1 p.2 := fun p hp => by
    obtain ⟨i, hi⟩ := List.getElem?_of_mem hp
    have hil := (List.getElem?_eq_some_iff.1 hi).1
    obtain ⟨b, off, he, _, _⟩ := hc (by omega)
    exact ⟨i, b, off, hi, he, hall i p hi b off he⟩
  refine ⟨ps, hps, fun p hp => ?_, fun p hp => ?_, a, cap, hv, fun h0 => ?_, fun ad he j u hj => ?_⟩
  · obtain ⟨_, _, _, _, _, h⟩ := hmem p hp; exact ⟨h.bytes, h.ok⟩
  · obtain ⟨_, _, _, _, _, h⟩ := hmem p hp
    obtain ⟨_, _, hu, _⟩ := h.bytes.form
    rw [hu]; rfl
  · obtain ⟨b, off, he, _, _⟩ := hc h0; exact ⟨b, off, he⟩
  · have hjl := (List.getElem?_eq_some_iff.1 hj).1
    rw [pcells_length] at hjl
    obtain ⟨b, off, he2, _, _⟩ := hc (by omega)
    rw [he] at he2
    cases he2
    have hdiv : j = j / 4 * 4 + j % 4 := by omega
    rw [hdiv, pcells_at ps (j / 4) (j % 4) (by omega)] at hj
    have hji : j / 4 < ps.length := by omega
    rw [List.getElem?_eq_getElem hji] at hj
    have hp := hall (j / 4) _ (List.getElem?_eq_getElem hji) b off he
    generalize ps[j / 4] = p at hj hp
    rw [Addr.add_lit]
    have h4 : j % 4 = 0 ∨ j % 4 = 1 ∨ j % 4 = 2 ∨ j % 4 = 3 := by omega
    rcases h4 with h4 | h4 | h4 | h4 <;> rw [h4] at hj hdiv <;> simp [pcells] at hj <;> subst hj
    · rw [show off + j = off + j / 4 * 4 by omega]; exact hp.c0
    · rw [show off + j = off + j / 4 * 4 + 1 by omega]; exact hp.c1
    · rw [show off + j = off + j / 4 * 4 + 2 by omega]; exact hp.c2
    · rw [show off + j = off + j / 4 * 4 + 3 by omega]; exact hp.c3
theorem wpList_append_parts {w : World} {ops : Array Oper} {rest : List Oper} {o : Oper} {a : Act} {Q : Exit → Act → World → Prop} (hgd : o.guard = none) (s x : Operand)
    (ho : o.op = .call { callee := .builtin .append, args := #[s, x], argTypes := #[22, 22] }) (base : Nat) (v : Value) (n ps : List (PV × Value)) (ad : Option Addr) (c : Nat) (hs : a.eval s = v) (hx : a.eval x = .slice ad ps.length c)
    (hown : OwnParts base w v n) (hnil : ad = none → c = 0 ∧ ps = []) (hcell : ∀ b, ad = some b → ∀ j u, (ps.flatMap pcells)[j]? = some u → w.cell? (b.add j) = some u) (hone : ∀ p ∈ ps, p.2.oneCell' = true) (hsmall : n.length + ps.length ≤ 1000000) (hbase : base ≤ w.heap.size)
    (h : ∀ v' w', OwnParts base w' v' (n ++ ps) → w.grownBy w' v.ownBlock → wpList Try.prog ops Q rest (a.put o.dst v') w') : wpList Try.prog ops Q (o :: rest) a w := by
  obtain ⟨i0, hi, hz0, hz1, hz2⟩ := info_parts info32
  cases ad with
  | none =>
    obtain ⟨rfl, rfl⟩ := hnil rfl
    exact wpList_append_own_none hgd s x 22 ho base 32 i0 4 Try.underlying22 hi v n.length (n.flatMap pcells) hs hown hx (h v w (by rw [List.append_nil]; exact hown) (World.grownBy.refl _ _))
  | some ad =>
    refine wpList_append_own_wide w hgd s x 22 ho base 32 i0 (.agg #[.int .i64 0, .int .i64 0, .int .u64 0, .slice none 0 0]) 4 48 Try.underlying22 hi hz0 hz1 hz2 rfl (by decide) v n.length (n.flatMap pcells) hs hown ad ps.length c (ps.flatMap pcells) hx (pcells_length ps) (hcell ad rfl) ?_ ?_ ?_ hbase ?_
    · intro u hu
      obtain ⟨p, hp, hu⟩ := List.mem_flatMap.1 hu
      simp only [pcells, List.mem_cons, List.not_mem_nil, or_false] at hu
      rcases hu with rfl | rfl | rfl | rfl
      · rfl
      · rfl
      · rfl
      · exact hone p hp
    · rw [maxLen_eq]; omega
    · omega
    · intro v' w' hown' hg _
      refine h v' w' ?_ hg
      unfold OwnParts
      rw [List.length_append, List.flatMap_append]
      exact hown'
/-- one part in a block of its own -/
theorem one_part {w : World} (q : PV) (u : Value) (cs : Array Value) (hcs : cs = (pcells (q, u)).toArray) (N : Nat) (hN : N = w.heap.size) (hb : BytesAt w u q.b) (ok : q.ok) : PartsAt (w.alloc (.cells cs 32)) (.slice (some ⟨N, 0, none⟩) 1 1) [q] := by
  subst hcs hN
  refine ⟨_, 1, rfl, by simp [maxLen], by simp, fun _ => ⟨w.heap.size, 0, rfl, by simp, fun j p hj => ?_⟩⟩
  have hj0 : j = 0 ∧ q = p := by
    cases j with
    | zero => exact ⟨rfl, by simpa using hj⟩
    | succ j => simp at hj
  obtain ⟨rfl, rfl⟩ := hj0
  have hc : ∀ r, (w.alloc (.cells (pcells (q, u)).toArray 32)).cell? ⟨w.heap.size, r, none⟩ = (pcells (q, u))[r]? := fun r => by
    rw [World.cell?_alloc_new]; simp
  exact ⟨u, hc 0, hc 1, hc 2, hc 3, hb.below ((Below.refl _ w).alloc (Nat.le_refl _) _) (Nat.le_refl _), ok⟩
end Go.Proofs.Ytniogemgkcoimaa
