/- The document's disk: Do. -/
import Derived.Test.YticbfnflillokaaRow9
namespace Go.Proofs.Yticbfnflillokaa
open Go.RowKit
/-- a literal's row, in whatever world its block lies -/
theorem RowIn.of_block {α : Type} {k : Nat} {enc : α → List Value} {T : TypeId} {w : World} {g : Nat} {x : α} {fr : Nat × Nat} (h : w.heap[g]? = some (.cells (enc x).toArray T fr)) : RowIn (fun _ => True) k enc w (.slice (some ⟨g, 0, none⟩) 1 1) [x] := by
  refine ⟨_, 1, rfl, by simp, by simp, (fun h => by cases h), fun _ => ⟨g, 0, rfl, lt_of_block h, trivial, fun j y hj r _ => ?_⟩⟩
  cases j with
  | succ j => simp at hj
  | zero =>
    simp at hj
    subst hj
    rw [Go.Joins.cell_of_block h]
    simp
/-- append of changes, as a step of a region that draws -/
theorem step_append_chs {ops : Array Oper} {o : Oper} {a : Act} {w : World} {K : Act → World → Prop} {Q : Exit → Act → World → Prop} {E : Prop} (hgd : o.guard = none) (s x : Operand)
    (ho : o.op = .call { callee := .builtin .append, args := #[s, x], argTypes := #[66, 66] }) (base : Nat) (v u : Value) (n l : List CV) (N : Nat) (hN : N = n.length + l.length) (R : Bks) (hs : a.eval s = v) (hx : a.eval x = u)
    (hown : OwnRow 84 4 CV.enc base w v n) (hb : RowIn R 4 CV.enc w u l) (hsmall : N ≤ 1000000) (hbase : base ≤ w.heap.size)
    (h : ∀ a' c' w', OwnRow 84 4 CV.enc base w' (.slice a' N c') (n ++ l) → w.grownBy w' v.ownBlock → K (a.put o.dst (.slice a' N c')) w') :
    if Region.wanted o (yielded ops a.tmps) = true then Oper.wp Try.prog o a w K Q else E := by
  have hw : Region.wanted o (yielded ops a.tmps) = true := by simp [Region.wanted, hgd]
  rw [if_pos hw]
  obtain ⟨i0, hi, hz0, hz1, hz2⟩ := info_parts info84
  have hK : ∀ v' w', OwnRow 84 4 CV.enc base w' v' (n ++ l) → w.grownBy w' v.ownBlock → K (a.put o.dst v') w' := fun v' w' h1 h2 => by
    obtain ⟨a', c', e⟩ := h1.form
    rw [e] at h1 ⊢
    rw [List.length_append, ← hN] at h1 ⊢
    exact h a' c' w' h1 h2
  obtain ⟨ad, cap, rfl, _, hlc, hn, hc⟩ := hb
  cases ad with
  | none =>
    have := hn rfl
    obtain rfl : l = [] := List.eq_nil_of_length_eq_zero (by omega)
    subst this
    have hrun := run_append_owned_none (P := Try.prog) (w := w) base 66 o.type 84 i0 4 Try.underlying66 hi v n.length (n.flatMap CV.enc) hown
    have hk := hK v w (by rw [List.append_nil]; exact hown) (World.grownBy.refl _ _)
    unfold Oper.wp execOp
    simp only [ho, resolve, invoke, builtin, Sem.run_bind, Sem.run_pure, Result.andThen_ok, List.map_toArray, List.map_cons, List.map_nil, hs, hx]
    have e0 : ([] : List CV).length = 0 := rfl
    rw [e0, hrun]
    exact hk
  | some ad =>
    have hnews : ∀ (j : Nat) u, (l.flatMap CV.enc)[j]? = some u → w.cell? (ad.add j) = some u := by
      intro j u hj
      have hjl := (List.getElem?_eq_some_iff.1 hj).1
      rw [flat_len (k := 4) (fun _ => rfl)] at hjl
      obtain ⟨b, off, hab, _, _, hc2⟩ := hc (by omega)
      cases hab
      have hd : j / 4 * 4 + j % 4 = j := by omega
      rw [← hd, flat_at (k := 4) (fun _ => rfl) _ _ _ (Nat.mod_lt _ (by omega))] at hj
      obtain ⟨x, hx, hxr⟩ := Option.bind_eq_some_iff.1 hj
      rw [Addr.add_lit, ← hd, ← Nat.add_assoc, hc2 (j / 4) x hx _ (Nat.mod_lt _ (by omega))]
      exact hxr
    obtain ⟨v', w', hr, h2, h3, _⟩ := run_append_own_wide (P := Try.prog) w base 66 o.type 84 i0 _ 4 64 Try.underlying66 hi hz0 hz1 hz2 rfl (by decide) v n.length (n.flatMap CV.enc) hown ad l.length cap (l.flatMap CV.enc) (flat_len (enc := CV.enc) (k := 4) (fun _ => rfl) l) hnews (CV.one l) (by unfold maxLen; omega) (by omega) hbase
    have h2' : OwnRow 84 4 CV.enc base w' v' (n ++ l) := by
      unfold OwnRow
      rw [List.length_append, List.flatMap_append]
      exact h2
    unfold Oper.wp execOp
    simp only [ho, resolve, invoke, builtin, Sem.run_bind, Sem.run_pure, Result.andThen_ok, List.map_toArray, List.map_cons, List.map_nil, hs, hx, hr]
    exact hK v' w' h2' h3
theorem kept_block {W w3 : World} {b z : Nat} {o : Obj} (hg : W.grownBy w3 (some b)) (hz : W.heap[z]? = some o) (hn : z ≠ b) : w3.heap[z]? = some o :=
  ((Chg.refl (fun k => k = b) W).grown hg fun _ hk => .inl (Option.some.inj hk).symm).heap hz hn
def DoEnd (w : World) (R : Bks) (q N : Nat) (p : Int × Dk) (e : Ending) (w' : World) : Prop := e = .returned (.int .i64 p.1) ∧ RDoes w R q (N + 1) p.2 w'
theorem says_down {d : Dk} (c : CV) (h : d.down = true) : d.says c = (6, d) := by unfold Dk.says; simp [h]
theorem says_name {d : Dk} (c : CV) (h : d.down = false) (hn : isName c.n = false ∨ (c.o = 2 ∧ isName c.t = false)) : d.says c = (1, d) := by
  unfold Dk.says; rw [if_neg (by simp [h]), if_pos hn]
theorem says_rest {d : Dk} (c : CV) (h : d.down = false) (hn : ¬ (isName c.n = false ∨ (c.o = 2 ∧ isName c.t = false))) :
    d.says c = if 2 ≤ c.o ∧ (d.seen.get c.n).isSome = false then (4, d) else if c.o = 2 ∧ c.n = c.t then (0, d) else if d.cap < (c.ch.do d.seen).total then (3, d) else (0, d.add c.ch) := by
  unfold Dk.says; rw [if_neg (by simp [h]), if_neg hn]
end Go.Proofs.Yticbfnflillokaa
