/- Rows of structs: what an own one reads as; append of one behind a new one. -/
import Derived.Test.YtomoomeocolkmaaSmallC
namespace Go.Proofs.Ytomoomeocolkmaa
open Go.RowKit
section
variable {α : Type} {P : World → α → Prop} {k : Nat} {enc : α → List Value} {T : TypeId}
theorem flat_len (hk : ∀ x, (enc x).length = k) (l : List α) : (l.flatMap enc).length = l.length * k := by
  induction l with
  | nil => simp
  | cons p ps ih => rw [List.flatMap_cons, List.length_append, ih, hk, List.length_cons, Nat.succ_mul, Nat.add_comm]
theorem flat_at (hk : ∀ x, (enc x).length = k) : ∀ (l : List α) (i r : Nat), r < k → (l.flatMap enc)[i * k + r]? = (l[i]?).bind fun x => (enc x)[r]?
  | [], i, r, _ => by simp
  | x :: l, 0, r, h => by
    rw [List.flatMap_cons, Nat.zero_mul, Nat.zero_add, List.getElem?_append_left (by rw [hk]; exact h)]
    rfl
  | x :: l, i + 1, r, h => by
    rw [List.flatMap_cons, List.getElem?_append_right (by rw [hk, Nat.succ_mul]; omega), hk, show (i + 1) * k + r - k = i * k + r by rw [Nat.succ_mul]; omega, flat_at hk l i r h]
    rfl
/-- rows of the call's own -/
def OwnRow (T : TypeId) (k : Nat) (enc : α → List Value) (base : Nat) (w : World) (v : Value) (l : List α) : Prop := w.ownsRow base T k v l.length (l.flatMap enc)
theorem OwnRow.at {base : Nat} {w : World} {v : Value} {l : List α} (hk : ∀ x, (enc x).length = k) (h : OwnRow T k enc base w v l) (hP : ∀ x ∈ l, P w x) : RowAt P k enc w v l := by
  rcases h.2 with ⟨rfl, h0⟩ | ⟨g, cap, cur, rfl, hbg, hg, hnc, hcm, hcs, htake⟩
  · obtain rfl : l = [] := List.eq_nil_of_length_eq_zero h0
    exact ⟨none, 0, rfl, by simp, by simp, fun _ => rfl, fun h => absurd h (by simp)⟩
  · rw [maxLen_eq] at hcm
    refine ⟨_, cap, rfl, by omega, hnc, (fun h => by cases h), fun _ => ⟨g, 0, rfl, (Array.getElem?_eq_some_iff.1 hg).1, fun j x hj => ⟨hP x (List.mem_of_getElem? hj), fun r hr => ?_⟩⟩⟩
    have hjl := (List.getElem?_eq_some_iff.1 hj).1
    have hlt : j * k + r < l.length * k := by
      have := Nat.mul_le_mul_right k (show j + 1 ≤ l.length by omega)
      rw [Nat.succ_mul] at this
      omega
    have := World.ownsRow.cellAt h (j * k + r) hlt
    rw [Nat.zero_add, this, flat_at hk _ _ _ hr, hj]
    rfl
theorem OwnRow.lt {base : Nat} {w : World} {v : Value} {l : List α} (h : OwnRow T k enc base w v l) : ∀ b, v.ownBlock = some b → base ≤ b ∧ b < w.heap.size := World.ownsRow.lt h
theorem OwnRow.made (w : World) : OwnRow T k enc w.heap.size (w.alloc (.cells #[] T)) (.slice (some ⟨w.heap.size, 0, none⟩) 0 0) [] := World.ownsRow_made w #[] 0 (Nat.le_refl _) (Nat.zero_le _) (by simp)
theorem wpList_append_rows {w : World} {ops : Array Oper} {rest : List Oper} {o : Oper} {a : Act} {Q : Exit → Act → World → Prop} (hgd : o.guard = none) (s x : Operand) (S T : TypeId) (k bytes : Nat) (z : Value) (enc : α → List Value)
    (ho : o.op = .call { callee := .builtin .append, args := #[s, x], argTypes := #[S, S] }) (hU : Try.prog.underlying S = some (.slice T)) (hI : (Try.prog.info? T).map (fun i => (i.zero, i.size, i.bytes)) = some (some z, k, bytes)) (hzc : z.cells.size = k) (hk0 : 0 < k) (hby : bytes ≤ 1000)
    (hk : ∀ x, (enc x).length = k) (base : Nat) (v u : Value) (n l : List α) (hs : a.eval s = v) (hx : a.eval x = u)
    (hown : OwnRow T k enc base w v n) (hb : RowAt P k enc w u l) (hone : ∀ u ∈ l.flatMap enc, u.oneCell' = true) (hsmall : n.length + l.length ≤ 1000000) (hbase : base ≤ w.heap.size)
    (h : ∀ v' w', OwnRow T k enc base w' v' (n ++ l) → w.grownBy w' v.ownBlock → wpList Try.prog ops Q rest (a.put o.dst v') w') : wpList Try.prog ops Q (o :: rest) a w := by
  obtain ⟨i0, hi, hz0, hz1, hz2⟩ := info_parts hI
  obtain ⟨ad, cap, rfl, _, hlc, hn, hc⟩ := hb
  cases ad with
  | none =>
    have := hn rfl
    obtain rfl : l = [] := List.eq_nil_of_length_eq_zero (by omega)
    subst this
    exact wpList_append_own_none hgd s x S ho base T i0 k hU hi v n.length (n.flatMap enc) hs hown hx (h v w (by rw [List.append_nil]; exact hown) (World.grownBy.refl _ _))
  | some ad =>
    refine wpList_plain hgd fun K hK => ?_
    have hnews : ∀ (j : Nat) u, (l.flatMap enc)[j]? = some u → w.cell? (ad.add j) = some u := by
      intro j u hj
      have hjl := (List.getElem?_eq_some_iff.1 hj).1
      rw [flat_len hk] at hjl
      have hl0 : 0 < l.length := by
        rcases Nat.eq_zero_or_pos l.length with h0 | h0
        · rw [h0] at hjl; omega
        · exact h0
      obtain ⟨b, off, hab, _, hc2⟩ := hc hl0
      cases hab
      have hd : j / k * k + j % k = j := by rw [Nat.mul_comm]; exact Nat.div_add_mod j k
      rw [← hd, flat_at hk _ _ _ (Nat.mod_lt _ hk0)] at hj
      obtain ⟨x, hx, hxr⟩ := Option.bind_eq_some_iff.1 hj
      rw [Addr.add_lit, ← hd, ← Nat.add_assoc, (hc2 (j / k) x hx).2 _ (Nat.mod_lt _ hk0)]
      exact hxr
    have hb1 : (n.length + l.length) * bytes ≤ 1000000 * 1000 := Nat.mul_le_mul hsmall hby
    have hb2 : (n.length + l.length + (n.length + l.length) / 4 + 192) * bytes ≤ 2000000 * 1000 := Nat.mul_le_mul (by omega) hby
    obtain ⟨v', w', hr, h2, h3, _⟩ := run_append_own_wide (P := Try.prog) w base S o.type T i0 z k bytes hU hi hz0 hz1 hz2 hzc hk0 v n.length (n.flatMap enc) hown ad l.length cap (l.flatMap enc) (flat_len hk l) hnews hone (by unfold maxLen; omega) (by omega) hbase
    have h2' : OwnRow T k enc base w' v' (n ++ l) := by
      unfold OwnRow
      rw [List.length_append, List.flatMap_append]
      exact h2
    unfold Oper.wp execOp
    simp only [ho, resolve, invoke, builtin, Sem.run_bind, Sem.run_pure, Result.andThen_ok, List.map_toArray, List.map_cons, List.map_nil, hs, hx, hr]
    exact hK _ _ (h v' w' h2' h3)
end
theorem info24b : (Try.prog.info? 24).map (fun i => (i.zero, i.size, i.bytes)) = some (some (.agg #[.int .u64 0, .int .i64 0, .int .u64 0]), 3, 24) := by kernel_rfl
end Go.Proofs.Ytomoomeocolkmaa
