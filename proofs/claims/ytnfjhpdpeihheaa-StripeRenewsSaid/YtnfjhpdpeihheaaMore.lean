/- Mathematics: more answers are enough; a write set has unlike places. Append as a step of a drawn region. -/
import Derived.Test.YtnfjhpdpeihheaaMay
namespace Go.Proofs.Ytnfjhpdpeihheaa
open Go.RowKit Go.Maps Go.Shelf
theorem hits_mono {p q : PL → Bool} (h : ∀ x, p x = true → q x = true) (l : List PL) : hits p l ≤ hits q l := by
  have key : ∀ k, hits p (l.take k) ≤ hits q (l.take k) := by
    intro k
    induction k with
    | zero => simp [hits]
    | succ k ih =>
      rcases Nat.lt_or_ge k l.length with hk | hk
      · rw [take_snoc (List.getElem?_eq_getElem hk), hits_snoc, hits_snoc]
        split
        · rename_i h1
          rw [if_pos (by simp only [Bool.and_eq_true] at h1 ⊢; exact ⟨h1.1, h _ h1.2⟩)]
          omega
        · omega
      · rw [List.take_of_length_le (by omega)]
        rw [List.take_of_length_le hk] at ih
        exact ih
  have := key l.length
  rw [List.take_length] at this
  exact this
theorem acked_mono {p q : PL → Bool} (h : ∀ x, p x = true → q x = true) {l : List PL} {a : Int} (ha : ackedB p l a = true) : ackedB q l a = true := by
  have := hits_mono h l
  simp [ackedB] at ha ⊢
  omega
theorem miss_mono {p q : PL → Bool} (h : ∀ x, p x = true → q x = true) {l : List PL} {w a : Int} (ha : missB p l w a = true) : missB q l w a = true := by
  have := hits_mono h l
  simp [missB] at ha ⊢
  omega
theorem cov_mono {p q : PL → Bool} (h : ∀ x, p x = true → q x = true) {l : List PL} {w a : Int} (ha : covB p l w a = true) : covB q l w a = true := by
  unfold covB at ha ⊢
  rw [Bool.and_eq_true, List.all_eq_true] at ha ⊢
  exact ⟨ha.1, fun k hk => miss_mono h (ha.2 k hk)⟩
theorem more_mem (m : List PL) (y : PL) : ∀ x, m.contains x = true → (m ++ [y]).contains x = true := fun x h => by
  simp at h ⊢
  exact .inl h
/-- a row of unlike ones -/
theorem dist_unlike {l : List PL} (h : ∀ (i j : Nat) (x y : PL), i < j → l[i]? = some x → l[j]? = some y → x ≠ y) : dist l = l.length := by
  have key : ∀ k, k ≤ l.length → dist (l.take k) = k := by
    intro k
    induction k with
    | zero => intro _; simp [dist_nil]
    | succ k ih =>
      intro hk
      have hx := List.getElem?_eq_getElem (show k < l.length by omega)
      rw [take_snoc hx, dist_snoc, ih (by omega), if_neg]
      intro hm
      obtain ⟨i, hi⟩ := List.getElem?_of_mem hm
      have hik : i < k := by
        have := (List.getElem?_eq_some_iff.1 hi).1
        rw [List.length_take] at this
        omega
      rw [List.getElem?_take_of_lt hik] at hi
      exact h i k _ _ hik hi hx rfl
  have := key l.length (Nat.le_refl _)
  rw [List.take_length] at this
  exact this
theorem rot_get {row : List PL} {fr n i : Nat} (hi : i < n) (hE : 0 < row.length) : (rot row fr n)[i]? = row[(fr + i) % row.length]? := by
  have hm := Nat.mod_lt (fr + i) hE
  unfold rot
  rw [List.getElem?_map, List.getElem?_range hi, List.getElem?_eq_getElem hm]
  simp [List.getD_eq_getElem?_getD, List.getElem?_eq_getElem hm]
theorem mod_unlike {fr i j E : Nat} (hij : i < j) (hj : j - i < E) : (fr + i) % E ≠ (fr + j) % E := by
  intro h
  have := Nat.sub_mod_eq_zero_of_mod_eq h.symm
  rw [show fr + j - (fr + i) = j - i by omega, Nat.mod_eq_of_lt hj] at this
  omega
theorem MayRow.unlike {row : List PL} (h : MayRow row) {i j : Nat} {x y : PL} (hij : i ≠ j) (hx : row[i]? = some x) (hy : row[j]? = some y) : x.n ≠ y.n := by
  obtain ⟨hi, rfl⟩ := List.getElem?_eq_some_iff.1 hx
  obtain ⟨hj, rfl⟩ := List.getElem?_eq_some_iff.1 hy
  rcases Nat.lt_or_ge i j with h1 | h1
  · exact List.pairwise_iff_getElem.1 h.2 i j hi hj h1
  · exact fun e => List.pairwise_iff_getElem.1 h.2 j i hj hi (by omega) e.symm
theorem rot_unlike {row : List PL} (h : MayRow row) {fr n : Nat} (hn : n ≤ row.length) (i j : Nat) (x y : PL) (hij : i < j) (hx : (rot row fr n)[i]? = some x) (hy : (rot row fr n)[j]? = some y) : x ≠ y := by
  have hj := (List.getElem?_eq_some_iff.1 hy).1
  rw [rot_length] at hj
  have hE : 0 < row.length := by omega
  rw [rot_get (by omega) hE] at hx
  rw [rot_get hj hE] at hy
  intro e
  exact h.unlike (mod_unlike (fr := fr) hij (by omega)) hx hy (by rw [e])
theorem hits_all {p : PL → Bool} {l : List PL} (hp : ∀ x ∈ l, p x = true) : hits p l = dist l := by
  unfold hits
  rw [List.filter_eq_self.2 hp]
theorem rot_hits {row : List PL} (h : MayRow row) {fr n : Nat} (hn : n ≤ row.length) : hits row.contains (rot row fr n) = n := by
  rcases Nat.eq_zero_or_pos n with rfl | h0
  · simp [rot, hits, dist_nil]
  · rw [hits_all (fun x hx => by simpa using rot_mem (show 0 < row.length by omega) x hx), dist_unlike (rot_unlike h hn), rot_length]
/-- all of a fragment's places cover it -/
theorem cov_all {row : List PL} (h : MayRow row) {w a : Int} (hw : 1 ≤ w ∧ w ≤ (row.length : Int)) (ha : 1 ≤ a) : covB row.contains row w a = true := by
  unfold covB
  rw [Bool.and_eq_true, List.all_eq_true]
  refine ⟨by simp [hasB, hw.1, hw.2], fun k _ => ?_⟩
  have := rot_hits h (fr := k) (n := w.toNat) (by omega)
  simp only [missB, this, Bool.or_eq_true, decide_eq_true_eq]
  omega
theorem step_append_ps {ops : Array Oper} {o : Oper} {a : Act} {w : World} {K : Act → World → Prop} {Q : Exit → Act → World → Prop} {E : Prop}
    (hg : o.guard = none) (s x : Operand) (hop : o.op = Op.call { callee := Callee.builtin Builtin.append, args := #[s, x], argTypes := #[23, 23] })
    (base : Nat) (v u : Value) (n l : List PL) (hown : OwnPs base w v n) (hu : PsAt w u l) (hs : a.eval s = v) (hx : a.eval x = u)
    (hsmall : n.length + l.length ≤ 1000000) (hbase : base ≤ w.heap.size)
    (hK : ∀ v' w', OwnPs base w' v' (n ++ l) → w.grownBy w' v.ownBlock → K (a.put o.dst v') w') :
    if Region.wanted o (yielded ops a.tmps) = true then Oper.wp Try.prog o a w K Q else E := by
  have hw : Region.wanted o (yielded ops a.tmps) = true := by simp [Region.wanted, hg]
  rw [if_pos hw]
  obtain ⟨i0, hi, hz0, hz1, hz2⟩ := info_parts info38
  obtain ⟨ad, cap, rfl, _, hlc, hn, hc⟩ := hu
  cases ad with
  | none =>
    have := hn rfl
    obtain rfl : l = [] := List.eq_nil_of_length_eq_zero (by omega)
    subst this
    have hrun := run_append_owned_none (P := Try.prog) (w := w) base 23 o.type 38 i0 2 Try.underlying23 hi v n.length (n.flatMap PL.cells) hown
    have hk := hK v w (by rw [List.append_nil]; exact hown) (World.grownBy.refl _ _)
    clear hK
    unfold Oper.wp
    simp [execOp, hop, resolve, invoke, builtin, hs, hx, hrun, Result.andThen]
    exact hk
  | some ad =>
    have hnews : ∀ (j : Nat) u, (l.flatMap PL.cells)[j]? = some u → w.cell? (ad.add j) = some u := by
      intro j u hj
      have hjl := (List.getElem?_eq_some_iff.1 hj).1
      rw [flat_len (k := 2) (enc := PL.cells) (fun _ => rfl)] at hjl
      obtain ⟨b, off, hab, _, hc2⟩ := hc (by omega)
      cases hab
      have hd : j / 2 * 2 + j % 2 = j := by omega
      rw [← hd, flat_at (k := 2) (enc := PL.cells) (fun _ => rfl) _ _ _ (Nat.mod_lt _ (by decide))] at hj
      obtain ⟨x, hx, hxr⟩ := Option.bind_eq_some_iff.1 hj
      rw [Addr.add_lit, ← hd, ← Nat.add_assoc, (hc2 (j / 2) x hx).2 _ (Nat.mod_lt _ (by decide))]
      exact hxr
    obtain ⟨v', w', hr, h2, h3, _⟩ := run_append_own_wide (P := Try.prog) w base 23 o.type 38 i0 _ 2 16 Try.underlying23 hi hz0 hz1 hz2 rfl (by decide) v n.length (n.flatMap PL.cells) hown ad l.length cap (l.flatMap PL.cells) (flat_len (k := 2) (enc := PL.cells) (fun _ => rfl) l) hnews (ps_oneCell l) (by unfold maxLen; omega) (by omega) hbase
    have h2' : OwnPs base w' v' (n ++ l) := by
      unfold OwnPs OwnRow
      rw [List.length_append, List.flatMap_append]
      exact h2
    have hk := hK v' w' h2' h3
    clear hK
    unfold Oper.wp
    simp only [execOp, hop, resolve, invoke, builtin, Sem.run_bind, Sem.run_pure, Result.andThen_ok, List.map_toArray, List.map_cons, List.map_nil, hs, hx, hr]
    exact hk
end Go.Proofs.Ytnfjhpdpeihheaa
