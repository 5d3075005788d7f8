/- into: messages go into a row. -/
import Derived.Test.YtclchlcfcnlmhaaFd
import Derived.Deep.RegionLaw
namespace Go.Proofs.Ytclchlcfcnlmhaa
open Go.RowKit Go.Maps Go.Shelf
set_option linter.unusedSimpArgs false
theorem ins_mid : ∀ {A B : List MK} {m : MK}, (∀ a ∈ A, a.p < m.p) → (∀ b ∈ B, m.p < b.p) → ins (A ++ B) m = A ++ m :: B
  | [], [], _, _, _ => rfl
  | [], y :: B, m, _, hB => by
    rw [List.nil_append, List.nil_append, ins, if_pos (hB y List.mem_cons_self)]
  | x :: A, B, m, hA, hB => by
    have hx := hA x List.mem_cons_self
    rw [List.cons_append, ins, if_neg (by omega), if_neg (by omega), ins_mid (fun a ha => hA a (List.mem_cons_of_mem _ ha)) hB]
    rfl
theorem ins_at : ∀ {R : List MK} {k : Nat} {q m : MK}, Ris R → R[k]? = some q → q.p = m.p → ins R m = if q.s < m.s then R.set k m else R
  | [], _, _, _, _, h, _ => by simp at h
  | x :: R, 0, q, m, _, h, hp => by
    simp at h
    subst h
    rw [ins, if_neg (by omega), if_pos hp.symm]
    rfl
  | x :: R, k + 1, q, m, hr, h, hp => by
    obtain ⟨h1, h2⟩ := List.pairwise_cons.1 hr
    have h' : R[k]? = some q := by simpa using h
    have := h1 q (List.mem_of_getElem? h')
    rw [ins, if_neg (by omega), if_neg (by omega), ins_at h2 h' hp]
    split <;> rfl
theorem step_append_ms {ops : Array Oper} {o : Oper} {a : Act} {w : World} {K : Act → World → Prop} {Q : Exit → Act → World → Prop} {E : Prop}
    (hg : o.guard = none) (s x : Operand) (hop : o.op = Op.call { callee := Callee.builtin Builtin.append, args := #[s, x], argTypes := #[22, 22] })
    (base : Nat) (v u : Value) (n l : List MK) (hown : OwnMs base w v n) (hu : MsAt w u l) (hs : a.eval s = v) (hx : a.eval x = u)
    (hsmall : n.length + l.length ≤ 1000000) (hbase : base ≤ w.heap.size)
    (hK : ∀ v' w', OwnMs base w' v' (n ++ l) → w.grownBy w' v.ownBlock → K (a.put o.dst v') w') :
    if Region.wanted o (yielded ops a.tmps) = true then Oper.wp Try.prog o a w K Q else E := by
  have hw : Region.wanted o (yielded ops a.tmps) = true := by simp [Region.wanted, hg]
  rw [if_pos hw]
  obtain ⟨i0, hi, hz0, hz1, hz2⟩ := info_parts info26
  obtain ⟨ad, cap, rfl, _, hlc, hn, hc⟩ := hu
  cases ad with
  | none =>
    have := hn rfl
    obtain rfl : l = [] := List.eq_nil_of_length_eq_zero (by omega)
    subst this
    have hrun := run_append_owned_none (P := Try.prog) (w := w) base 22 o.type 26 i0 3 Try.underlying22 hi v n.length (n.flatMap MK.cells) hown
    have hk := hK v w (by rw [List.append_nil]; exact hown) (World.grownBy.refl _ _)
    clear hK
    unfold Oper.wp
    simp [execOp, hop, resolve, invoke, builtin, hs, hx, hrun, Result.andThen]
    exact hk
  | some ad =>
    have hnews : ∀ (j : Nat) u, (l.flatMap MK.cells)[j]? = some u → w.cell? (ad.add j) = some u := by
      intro j u hj
      have hjl := (List.getElem?_eq_some_iff.1 hj).1
      rw [flat_len (k := 3) (enc := MK.cells) (fun _ => rfl)] at hjl
      obtain ⟨b, off, hab, _, hc2⟩ := hc (by omega)
      cases hab
      have hd : j / 3 * 3 + j % 3 = j := by omega
      rw [← hd, flat_at (k := 3) (enc := MK.cells) (fun _ => rfl) _ _ _ (Nat.mod_lt _ (by decide))] at hj
      obtain ⟨x, hx, hxr⟩ := Option.bind_eq_some_iff.1 hj
      rw [Addr.add_lit, ← hd, ← Nat.add_assoc, (hc2 (j / 3) x hx).2 _ (Nat.mod_lt _ (by decide))]
      exact hxr
    obtain ⟨v', w', hr, h2, h3, _⟩ := run_append_own_wide (P := Try.prog) w base 22 o.type 26 i0 _ 3 24 Try.underlying22 hi hz0 hz1 hz2 rfl (by decide) v n.length (n.flatMap MK.cells) hown ad l.length cap (l.flatMap MK.cells) (flat_len (k := 3) (enc := MK.cells) (fun _ => rfl) l) hnews (ms_oneCell l) (by unfold maxLen; omega) (by omega) hbase
    have h2' : OwnMs base w' v' (n ++ l) := by
      unfold OwnMs OwnRow
      rw [List.length_append, List.flatMap_append]
      exact h2
    have hk := hK v' w' h2' h3
    clear hK
    unfold Oper.wp
    simp only [execOp, hop, resolve, invoke, builtin, Sem.run_bind, Sem.run_pure, Result.andThen_ok, List.map_toArray, List.map_cons, List.map_nil, hs, hx, hr]
    exact hk
/-- a mark behind what a full slice reads as: a new row -/
theorem step_grow {ops : Array Oper} {o : Oper} {a : Act} {w : World} {K : Act → World → Prop} {Q : Exit → Act → World → Prop} {E : Prop}
    (hg : o.guard = none) (s x : Operand) (hop : o.op = Op.call { callee := Callee.builtin Builtin.append, args := #[s, x], argTypes := #[22, 22] })
    (ao : Option Addr) (n : Nat) (A : List MK) (y : MK) (zb : Nat) (hA : MsAt w (.slice ao n n) A) (hz : BoxC w zb 26 y.cells.toArray) (hs : a.eval s = .slice ao n n) (hx : a.eval x = .slice (some ⟨zb, 0, none⟩) 1 1)
    (hsmall : A.length ≤ 1000)
    (hK : ∀ v' w', OwnMs w.heap.size w' v' (A ++ [y]) → w.grownBy w' none → K (a.put o.dst v') w') :
    if Region.wanted o (yielded ops a.tmps) = true then Oper.wp Try.prog o a w K Q else E := by
  have hw : Region.wanted o (yielded ops a.tmps) = true := by simp [Region.wanted, hg]
  rw [if_pos hw]
  obtain ⟨i0, hi, hz0, hz1, hz2⟩ := info_parts info26
  obtain ⟨ad, cap, hv, _, hlc, hn, hc⟩ := hA
  cases hv
  have hone : ∀ u ∈ y.cells, u.oneCell' = true := fun u hu => ms_oneCell [y] u (by simpa using hu)
  have hnews : ∀ (j : Nat) u, y.cells[j]? = some u → w.cell? ((⟨zb, 0, none⟩ : Addr).add j) = some u := by
    intro j u hj
    rw [Addr.add_lit, Nat.zero_add, hz.cell, List.getElem?_toArray]
    exact hj
  have key : ∃ v' w', (Builtin.append_ #[22, 22] o.type #[.slice ao A.length A.length, .slice (some ⟨zb, 0, none⟩) 1 1]).run Try.prog w = .ok v' w' ∧ OwnMs w.heap.size w' v' (A ++ [y]) ∧ w.grownBy w' none := by
    have hfl : (A ++ [y]).flatMap MK.cells = A.flatMap MK.cells ++ y.cells := by rw [List.flatMap_append]; simp
    cases ao with
    | some b =>
      obtain ⟨v', w', hr, h2, h3⟩ := run_append_arg_grows (P := Try.prog) w 22 o.type 26 i0 _ 3 24 Try.underlying22 hi hz0 hz1 hz2 rfl (by decide) b A.length A.length (A.flatMap MK.cells) (flat_len (k := 3) (enc := MK.cells) (fun _ => rfl) A) (by
        intro j u hj
        have hjl := (List.getElem?_eq_some_iff.1 hj).1
        rw [flat_len (k := 3) (enc := MK.cells) (fun _ => rfl)] at hjl
        obtain ⟨b', off, hab, _, hc2⟩ := hc (by omega)
        cases hab
        have hd : j / 3 * 3 + j % 3 = j := by omega
        rw [← hd, flat_at (k := 3) (enc := MK.cells) (fun _ => rfl) _ _ _ (Nat.mod_lt _ (by decide))] at hj
        obtain ⟨x, hx, hxr⟩ := Option.bind_eq_some_iff.1 hj
        rw [Addr.add_lit, ← hd, ← Nat.add_assoc, (hc2 (j / 3) x hx).2 _ (Nat.mod_lt _ (by decide))]
        exact hxr) ⟨zb, 0, none⟩ 1 1 y.cells rfl hnews (by omega) (by unfold maxLen; omega) (by omega)
      refine ⟨v', w', hr, ?_, h3⟩
      unfold OwnMs OwnRow
      rw [List.length_append, hfl]
      exact h2
    | none =>
      have hl := hn rfl
      obtain rfl : A = [] := List.eq_nil_of_length_eq_zero (by omega)
      obtain ⟨v', w', hr, h2, h3, _⟩ := run_append_own (P := Try.prog) w w.heap.size 22 o.type 26 i0 _ 3 24 Try.underlying22 hi hz0 hz1 hz2 rfl (by decide) (.slice none 0 0) 0 [] (World.ownsRow_nil w _ 26 3) ⟨zb, 0, none⟩ 1 1 y.cells rfl hnews hone (by decide) (by decide) (Nat.le_refl _)
      refine ⟨v', w', hr, ?_, h3⟩
      unfold OwnMs OwnRow
      rw [hfl]
      exact h2
  obtain ⟨v', w', hr, h2, h3⟩ := key
  have hk := hK v' w' h2 h3
  clear hK
  unfold Oper.wp
  simp only [execOp, hop, resolve, invoke, builtin, Sem.run_bind, Sem.run_pure, Result.andThen_ok, List.map_toArray, List.map_cons, List.map_nil, hs, hx, hr]
  exact hk
theorem into_step {l ms R A B : List MK} {m : MK} {k : Nat} (hr : intoR l ms = intoR R (ms.drop k)) (hd : ms.drop k = m :: ms.drop (k + 1)) (hs : Ris R) (h6 : R.length < 6) (hok : ∀ q ∈ R, q.ok) (hm : m.ok) (hAB : R = A ++ B) (hA : ∀ a ∈ A, a.p < m.p) (hB : ∀ b ∈ B, m.p < b.p) :
    intoR l ms = intoR ((A ++ [m]) ++ B) (ms.drop (k + 1)) ∧ Ris ((A ++ [m]) ++ B) ∧ ((A ++ [m]) ++ B).length ≤ 6 ∧ ∀ q ∈ (A ++ [m]) ++ B, q.ok := by
  have e : (A ++ [m]) ++ B = ins R m := by rw [hAB, ins_mid hA hB]; simp
  rw [e]
  refine ⟨?_, ris_ins hs m, ?_, fun q hq => ?_⟩
  · rw [hr, hd, intoR_cons, if_neg (fun h => by omega)]
  · rw [len_ins hs]; split <;> omega
  · rcases mem_ins hq with h | h
    · exact hok q h
    · rw [h]; exact hm
theorem into_same {l ms R : List MK} {q m : MK} {k t : Nat} (hr : intoR l ms = intoR R (ms.drop k)) (hd : ms.drop k = m :: ms.drop (k + 1)) (hs : Ris R) (h6 : R.length ≤ 6) (hok : ∀ q ∈ R, q.ok) (hm : m.ok) (hq : R[t]? = some q) (hp : q.p = m.p) :
    intoR l ms = intoR (ins R m) (ms.drop (k + 1)) ∧ Ris (ins R m) ∧ (ins R m).length ≤ 6 ∧ ∀ q ∈ ins R m, q.ok := by
  have hl : look R m.p = some q := by rw [← hp]; exact look_of_mem hs (List.mem_of_getElem? hq)
  refine ⟨?_, ris_ins hs m, ?_, fun q hq => ?_⟩
  · rw [hr, hd, intoR_cons, if_neg (fun h => by rw [hl] at h; cases h.1)]
  · rw [len_ins hs, hl, if_neg (by simp)]; exact h6
  · rcases mem_ins hq with h | h
    · exact hok q h
    · rw [h]; exact hm
theorem into_split {R : List MK} {q m : MK} {t : Nat} (hs : Ris R) (hq : R[t]? = some q) (hlt : q.p < m.p) (hall : ∀ j x, t < j → R[j]? = some x → decide (x.p ≤ m.p) = false) :
    (∀ a ∈ R.take (t + 1), a.p < m.p) ∧ ∀ b ∈ R.drop (t + 1), m.p < b.p := by
  refine ⟨fun a ha => ?_, fun b hb => ?_⟩
  · rw [take_snoc hq] at ha
    rcases List.mem_append.1 ha with ha | ha
    · have h2 := List.Pairwise.sublist (List.take_sublist (t + 1) R) hs
      rw [take_snoc hq] at h2
      have := (List.pairwise_append.1 h2).2.2 a ha q (by simp)
      omega
    · rw [List.mem_singleton.1 ha]; exact hlt
  · obtain ⟨j, hj⟩ := List.getElem?_of_mem hb
    rw [List.getElem?_drop] at hj
    have := hall (t + 1 + j) b (by omega) hj
    simp at this
    omega
theorem into_none {R : List MK} {q m : MK} {t : Nat} (hs : Ris R) (hq : R[t]? = some q) (hlt : q.p < m.p) (hall : ∀ j x, t < j → R[j]? = some x → decide (x.p ≤ m.p) = false) : look R m.p = none := by
  obtain ⟨h1, h2⟩ := into_split hs hq hlt hall
  rw [look_none]
  intro y hy
  rw [← List.take_append_drop (t + 1) R] at hy
  rcases List.mem_append.1 hy with h | h
  · have := h1 y h; omega
  · have := h2 y h; omega
theorem wrap_i64 {x : Int} (h1 : -9223372036854775808 ≤ x) (h2 : x ≤ 9223372036854775807) : IntKind.i64.wrap x = x := by
  simp [IntKind.wrap, IntKind.bits, IntKind.signed]
  omega
theorem MsAt.take {w : World} {a : Option Addr} {n cap : Nat} {l : List MK} (h : MsAt w (.slice a n cap) l) {k : Nat} (hk : k ≤ l.length) : MsAt w (.slice a k k) (l.take k) := by
  obtain ⟨a', cap', hv, hl, hlc, hn, h⟩ := h
  cases hv
  have hlen : (l.take k).length = k := by rw [List.length_take]; omega
  refine ⟨a, k, by rw [hlen], by rw [hlen]; omega, by rw [hlen]; exact Nat.le_refl _, fun e => by have := hn e; omega, fun h0 => ?_⟩
  rw [hlen] at h0
  obtain ⟨b, off, ha, hb, hc⟩ := h (by omega)
  refine ⟨b, off, ha, hb, fun j x hj => hc j x ?_⟩
  rw [List.getElem?_take] at hj
  split at hj
  · exact hj
  · cases hj
theorem MsAt.drop {w : World} {g n cap : Nat} {l : List MK} (h : MsAt w (.slice (some ⟨g, 0, none⟩) n cap) l) {k : Nat} (hk : k ≤ l.length) : MsAt w (.slice (some ⟨g, k * 3, none⟩) (n - k) (cap - k)) (l.drop k) := by
  obtain ⟨a', cap', hv, hl, hlc, hn, h⟩ := h
  cases hv
  have hlen : (l.drop k).length = l.length - k := List.length_drop
  refine ⟨_, cap - k, by rw [hlen], by rw [hlen]; omega, by rw [hlen]; omega, (fun e => by cases e), fun h0 => ?_⟩
  rw [hlen] at h0
  obtain ⟨b, off, ha, hb, hc⟩ := h (by omega)
  cases ha
  refine ⟨g, k * 3, rfl, hb, fun j x hj => ?_⟩
  rw [List.getElem?_drop] at hj
  have := hc (k + j) x hj
  refine ⟨this.1, fun r hr => ?_⟩
  rw [show k * 3 + j * 3 + r = 0 + (k + j) * 3 + r by omega]
  exact this.2 r hr
theorem via {G : World → Prop} {w : World} (p : World → Prop) (hp : p w) (h : ∀ X, p X → G X) : G w := h w hp
/-- what into answers -/
def IntoPost (base : Nat) (w : World) (v : Value) (z : Int) (r : Option (List MK)) : Prop :=
  (∃ x, r = some x ∧ z = 0 ∧ OwnMs base w v x) ∨ (r = none ∧ z = 3 ∧ v = .slice none 0 0)
theorem drop_cons {α : Type} {l : List α} {k : Nat} {x : α} (h : l[k]? = some x) : l.drop k = x :: l.drop (k + 1) := by
  obtain ⟨hk, rfl⟩ := List.getElem?_eq_some_iff.1 h
  exact List.drop_eq_getElem_cons hk
set_option maxHeartbeats 4000000 in
theorem into_any (v u : Value) (l ms : List MK) (w : World) (hp : MsAt w v l) (hq : MsAt w u ms) (hr : Ris l) (h6 : l.length ≤ 6) :
    Calls Try.prog 41 #[v, u] w fun e w' => ∃ v' z, e = .returned (.tuple #[v', .int .i64 z]) ∧ IntoPost w.heap.size w' v' z (intoR l ms) ∧ Below w.heap.size w w' := by
  have HC := Lib.hid (clone_any v l w hp (by omega))
  have HOK := Lib.hid hp.ok
  have HQ := Lib.hid hq
  obtain ⟨ua, ucap, rfl, hlen, -⟩ := hq
  obtain ⟨M, hM⟩ : ∃ M, ms.length = M := ⟨_, rfl⟩
  rw [hM] at hlen HQ ⊢
  have HM := Lib.hid hM
  have HR0 := Lib.hid (And.intro hr h6)
  clear hM hp hr h6
  go_enter Try.func41, Try.ntmps41
  go_wp2_with fail
  refine HC.out.mono ?_
  rintro e w1 ⟨v1, rfl, ho, hb⟩
  have H1 := Lib.hid (And.intro ho hb)
  clear ho hb HC
  go_wp2
  go_loopw [6, 14] (fun rv i wr => ∃ k : Nat, ∃ R, k ≤ M ∧ i = .int .i64 (k : Nat) ∧ Hid ((intoR l ms = intoR R (ms.drop k) ∧ Ris R ∧ R.length ≤ 6 ∧ ∀ q ∈ R, q.ok) ∧ OwnMs w.heap.size wr rv R ∧ Below w.heap.size w wr)) (fun _ i _ => M - (intOf i).toNat)
  case atStart => exact ⟨0, l, Nat.zero_le _, rfl, ⟨rfl, HR0.out.1, HR0.out.2, HOK.out⟩, H1.out.1, H1.out.2⟩
  case round =>
    obtain ⟨k, R, hk, rfl, HR⟩ := hrel
    obtain ⟨rv, rfl⟩ : ∃ rv, rv = u6 := ⟨_, rfl⟩
    by_cases hlt : k < M
    · obtain ⟨m, hm⟩ : ∃ x, ms[k]? = some x := ⟨_, List.getElem?_eq_getElem (by rw [HM.out]; exact hlt)⟩
      have hltz : (k : Int) < (M : Int) := by omega
      have HMO := Lib.hid (HQ.out.ok m (List.mem_of_getElem? hm))
      obtain ⟨b, off, rfl, hb, hc⟩ := MsAt.cell (HQ.out.below HR.out.2.2) hm
      obtain ⟨c0, c1, c2⟩ := hc wr (Below.refl _ _)
      have HD := Lib.hid (drop_cons hm)
      obtain ⟨gx, hgx⟩ : ∃ gx, wr.heap.size = gx := ⟨_, rfl⟩
      obtain ⟨W1, hW1⟩ : ∃ W1, W1 = wr.alloc (.cells #[.int .i64 m.p, .int .u64 m.s, .int .u64 m.o] 26) := ⟨_, rfl⟩
      have hB1 : Below wr.heap.size wr W1 := by rw [hW1]; exact Go.Joins.below_alloc1 wr _
      have hx1 : BoxC W1 gx 26 m.cells.toArray := by rw [hW1, ← hgx]; exact BoxC.new wr 26 m.cells.toArray
      have HLF := Lib.hid (lastf_any rv R 52 (.pointer (some ⟨gx, 0, none⟩)) _ W1 ((HR.out.2.1.at HR.out.1.2.2.2).below hB1) (asks_upto m gx W1 (hx1.cell 0)))
      have H2 := Lib.hid (And.intro hx1 (And.intro (HR.out.2.1.kept hB1 (Nat.le_refl _)) (And.intro (HR.out.2.2.trans (hB1.mono HR.out.2.2.size)) (show w.heap.size ≤ gx ∧ (∀ j, rv.ownBlock = some j → j < gx) from ⟨by rw [← hgx]; exact HR.out.2.2.size, fun j hj => by rw [← hgx]; exact (OwnRow.lt HR.out.2.1 j hj).2⟩))))
      clear hb hm hc hB1 hx1
      go_upto_region 5 with fail
      rw [← hW1]
      clear hW1 c0 c1 c2 hgx
      go_wp2_with fail
      refine HLF.out.mono ?_
      rintro e W2 ⟨z, rfl, hz, hb2⟩
      have HX2 := Lib.hid (H2.out.1.below hb2)
      have HO2 := Lib.hid (And.intro (H2.out.2.1.kept hb2 (Nat.le_refl _)) (H2.out.2.2.1.trans (hb2.mono H2.out.2.2.1.size)))
      have x0 : W2.cell? ⟨gx, 0, none⟩ = some (.int .i64 m.p) := HX2.out.cell 0
      have x1 : W2.cell? ⟨gx, 1, none⟩ = some (.int .u64 m.s) := HX2.out.cell 1
      have x2 : W2.cell? ⟨gx, 2, none⟩ = some (.int .u64 m.o) := HX2.out.cell 2
      clear hb2 HLF
      obtain ⟨N, hN⟩ : ∃ N, R.length = N := ⟨_, rfl⟩
      have HN := Lib.hid hN
      obtain ⟨ra, rcap, rfl, -, hrl, hrn⟩ := (HO2.out.1.at HR.out.1.2.2.2).form
      rw [hN] at hrl HO2 ⊢
      have HN6 := Lib.hid (show N ≤ 6 by rw [← hN]; exact HR.out.1.2.2.1)
      clear hN
      rcases hz with ⟨rfl, hall⟩ | ⟨t, rfl, ⟨q, hq, hqp⟩, hall⟩
      · have HA := Lib.hid hall
        clear hall
        have HLK := Lib.hid (show look R m.p = none from look_none.2 fun y hy => by have := HA.out y hy; simp at this; omega)
        by_cases hfull : 6 ≤ N
        · have hfz : (6 : Int) ≤ (N : Int) := by omega
          have HRES := Lib.hid (show intoR l ms = none by
            rw [HR.out.1.1, HD.out, intoR_cons, if_pos ⟨HLK.out, by rw [HN.out]; exact hfull⟩])
          go_wp2_with fail
          go_quiet (fail)
          go_wp2
          refine bodyPost_ret (results_tmp2 rfl _ _ _) rfl ?_
          exact ⟨_, _, rfl, .inr ⟨HRES.out, rfl, rfl⟩, drewN_below HO2.out.2 _⟩
        · have hfz : ¬ (6 : Int) ≤ (N : Int) := by omega
          have HRES := Lib.hid (into_step (A := []) (B := R) HR.out.1.1 HD.out HR.out.1.2.1 (by rw [HN.out]; omega) HR.out.1.2.2.2 HMO.out rfl (by simp) (fun y hy => by have := HA.out y hy; simp at this; omega))
          go_wp2_with fail
          go_quiet (fail)
          go_wp2_with fail
          refine via (fun X => BoxC X gx 26 m.cells.toArray ∧ OwnMs w.heap.size X (.slice ra N rcap) R ∧ Below w.heap.size w X) ⟨HX2.out, HO2.out.1, drewN_below HO2.out.2 _⟩ (fun X hX => ?_)
          clear x0 x1 x2
          have x0 : X.cell? ⟨gx, 0, none⟩ = some (.int .i64 m.p) := hX.1.cell 0
          have x1 : X.cell? ⟨gx, 1, none⟩ = some (.int .u64 m.s) := hX.1.cell 1
          have x2 : X.cell? ⟨gx, 2, none⟩ = some (.int .u64 m.o) := hX.1.cell 2
          have HX := Lib.hid hX
          have hw0 : IntKind.i64.wrap 0 = 0 := by decide
          rcases hX.2.1.2 with ⟨hv, h0⟩ | ⟨g, cap, cur, hv, hgb, hg, hnc, hcm, hcs, htk⟩
          · cases hv
            have HBK := Lib.hid (hX.2.1.at HR.out.1.2.2.2)
            clear hX
            have HY := Lib.hid (show Below X.heap.size X (X.drew.alloc (.cells #[.int .i64 m.p, .int .u64 m.s, .int .u64 m.o] 26)) from (Below.drew (Below.refl _ X)).alloc (Nat.le_refl _) _)
            have HBX := Lib.hid (show BoxC (X.drew.alloc (.cells #[.int .i64 m.p, .int .u64 m.s, .int .u64 m.o] 26)) X.heap.size 26 m.cells.toArray from BoxC.new X.drew 26 m.cells.toArray)
            have HSM := Lib.hid (show (([] : List MK)).length ≤ 1000 ∧ (([] : List MK) ++ [m]).length + (R).length ≤ 1000000 from ⟨by have := HN6.out; have := HN.out; simp; try omega, by have := HN6.out; have := HN.out; simp; try omega⟩)
            have HFR := Lib.hid (show MsAt X (.slice none 0 0) [] from MsAt.nil X)
            have HG0 := Lib.hid (HFR.out.below HY.out)
            go_region_law (first
              | (refine step_grow rfl (.tmp 26) (.tmp 28) rfl none 0 ([] : List MK) m X.heap.size HG0.out HBX.out (by simp [Act.eval]) (by simp [Act.eval]) HSM.out.1 ?_; intro v3 w3 ho3 hg3; have H3 := Lib.hid (show OwnMs X.heap.size w3 v3 (([] : List MK) ++ [m]) ∧ Below X.heap.size X w3 from ⟨ho3.base_le HY.out.size, HY.out.grown hg3 HY.out.size (by intro j hj; cases hj)⟩); clear ho3 hg3)
              | (refine step_append_ms rfl (.tmp 29) (.tmp 33) rfl X.heap.size v3 _ (([] : List MK) ++ [m]) R H3.out.1 (HBK.out.below H3.out.2) (by simp [Act.eval]) (by simp [Act.eval]) HSM.out.2 H3.out.2.size ?_; intro v5 w5 ho5 hg5; have H5 := Lib.hid (show OwnMs w.heap.size w5 v5 ((([] : List MK) ++ [m]) ++ R) ∧ Below w.heap.size w w5 from ⟨ho5.base_le HX.out.2.2.size, HX.out.2.2.trans ((H3.out.2.grown hg5 H3.out.2.size (fun j hj => H3.out.1.own j hj)).mono HX.out.2.2.size)⟩); clear ho5 hg5))
            all_goals go_wp2
            all_goals go_roundw
            all_goals (first | exact ⟨k + 1, _, by omega, by go_num, HRES.out, H5.out⟩ | (simp [intOf]; omega))
          · rw [HN.out] at hv
            cases hv
            have HBK := Lib.hid (hX.2.1.at HR.out.1.2.2.2)
            clear hX hgb hg hcm hcs htk
            have HY := Lib.hid (show Below X.heap.size X (X.drew.alloc (.cells #[.int .i64 m.p, .int .u64 m.s, .int .u64 m.o] 26)) from (Below.drew (Below.refl _ X)).alloc (Nat.le_refl _) _)
            have HBX := Lib.hid (show BoxC (X.drew.alloc (.cells #[.int .i64 m.p, .int .u64 m.s, .int .u64 m.o] 26)) X.heap.size 26 m.cells.toArray from BoxC.new X.drew 26 m.cells.toArray)
            have HSM := Lib.hid (show (([] : List MK)).length ≤ 1000 ∧ (([] : List MK) ++ [m]).length + (R).length ≤ 1000000 from ⟨by have := HN6.out; have := HN.out; simp; try omega, by have := HN6.out; have := HN.out; simp; try omega⟩)
            have HFR := Lib.hid (show MsAt X (.slice (some ⟨g, 0, none⟩) 0 0) [] from ⟨_, 0, rfl, by simp, by simp, fun _ => rfl, fun h => absurd h (by simp)⟩)
            have HG0 := Lib.hid (HFR.out.below HY.out)
            go_region_law (first
              | (refine step_grow rfl (.tmp 26) (.tmp 28) rfl (some ⟨g, 0, none⟩) 0 ([] : List MK) m X.heap.size HG0.out HBX.out (by simp [Act.eval]) (by simp [Act.eval]) HSM.out.1 ?_; intro v3 w3 ho3 hg3; have H3 := Lib.hid (show OwnMs X.heap.size w3 v3 (([] : List MK) ++ [m]) ∧ Below X.heap.size X w3 from ⟨ho3.base_le HY.out.size, HY.out.grown hg3 HY.out.size (by intro j hj; cases hj)⟩); clear ho3 hg3)
              | (refine step_append_ms rfl (.tmp 29) (.tmp 33) rfl X.heap.size v3 _ (([] : List MK) ++ [m]) R H3.out.1 (HBK.out.below H3.out.2) (by simp [Act.eval]) (by simp [Act.eval]) HSM.out.2 H3.out.2.size ?_; intro v5 w5 ho5 hg5; have H5 := Lib.hid (show OwnMs w.heap.size w5 v5 ((([] : List MK) ++ [m]) ++ R) ∧ Below w.heap.size w w5 from ⟨ho5.base_le HX.out.2.2.size, HX.out.2.2.trans ((H3.out.2.grown hg5 H3.out.2.size (fun j hj => H3.out.1.own j hj)).mono HX.out.2.2.size)⟩); clear ho5 hg5))
            all_goals go_wp2
            all_goals go_roundw
            all_goals (first | exact ⟨k + 1, _, by omega, by go_num, HRES.out, H5.out⟩ | (simp [intOf]; omega))
      · have HA := Lib.hid hall
        have HQQ := Lib.hid hq
        have htN : t < N := by rw [← HN.out]; exact (List.getElem?_eq_some_iff.1 hq).1
        have htz : (t : Int) < (N : Int) := by omega
        have ht0 : (0 : Int) ≤ (t : Int) := by omega
        have hqp' : q.p ≤ m.p := of_decide_eq_true hqp
        rcases HO2.out.1.2 with ⟨hv, h0⟩ | ⟨g, cap, cur, hv, hgb, hg, hnc, hcm, hcs, htk⟩
        · exfalso; have := HN.out; omega
        rw [HN.out] at hv hnc
        cases hv
        obtain ⟨b', off', he, -, hcx⟩ := MsAt.cell (HO2.out.1.at HR.out.1.2.2.2) hq
        cases he
        obtain ⟨d0, d1, d2⟩ := hcx W2 (Below.refl _ _)
        rw [Nat.zero_add] at d0 d1 d2
        clear hall hgb hg hnc hcm hcs htk hcx
        by_cases hpe : q.p = m.p
        · have hbb : (q.p == m.p) = true := by simp [hpe]
          have HRES := Lib.hid (show intoR l ms = intoR (ins R m) (ms.drop (k + 1)) ∧ Ris (ins R m) ∧ (ins R m).length ≤ 6 ∧ ∀ q ∈ ins R m, q.ok from into_same HR.out.1.1 HD.out HR.out.1.2.1 (by rw [HN.out]; exact HN6.out) HR.out.1.2.2.2 HMO.out hq hpe)
          have hins := ins_at HR.out.1.2.1 hq hpe
          by_cases hs : q.s < m.s
          · rw [if_pos hs] at hins
            have HI := Lib.hid hins
            clear hins hpe hqp' hqp hq
            go_wp2_with fail
            go_quiet (fail)
            go_wp2_with fail
            go_quiet (fail)
            go_upto_region 9 with fail
            refine via (fun X => BoxC X gx 26 m.cells.toArray ∧ OwnMs w.heap.size X (.slice (some ⟨g, 0, none⟩) N rcap) R ∧ Below w.heap.size w X) ⟨HX2.out, HO2.out.1, drewN_below (drewN_below HO2.out.2 _) _⟩ (fun X hX => ?_)
            clear x0 x1 x2 d0 d1 d2
            have x0 : X.cell? ⟨gx, 0, none⟩ = some (.int .i64 m.p) := hX.1.cell 0
            have x1 : X.cell? ⟨gx, 1, none⟩ = some (.int .u64 m.s) := hX.1.cell 1
            have x2 : X.cell? ⟨gx, 2, none⟩ = some (.int .u64 m.o) := hX.1.cell 2
            obtain ⟨⟨e0, f0⟩, ⟨e1, f1⟩, ⟨e2, f2⟩, z0, z1, z2⟩ := OwnMs.has HN.out hX.2.1 t htN
            have HZ := Lib.hid (show OwnMs w.heap.size (put3 X g (t * 3) m) (.slice (some ⟨g, 0, none⟩) N rcap) (ins R m) ∧ Below w.heap.size w (put3 X g (t * 3) m) from ⟨by rw [HI.out]; exact hX.2.1.set HN.out t m, put3_below hX.2.2 ((OwnRow.lt hX.2.1 g rfl).1) _ _⟩)
            clear hX
            go_wp2
            go_roundw
            case rel => exact ⟨k + 1, _, by omega, by go_num, HRES.out, HZ.out⟩
            case measure => simp [intOf]; omega
          · rw [if_neg hs] at hins
            have HI := Lib.hid hins
            clear hins hpe hqp' hqp hq
            go_wp2_with fail
            go_quiet (fail)
            go_wp2_with fail
            go_quiet (fail)
            go_wp2
            go_roundw
            case rel => exact ⟨k + 1, ins R m, by omega, by go_num, HRES.out, by rw [HI.out]; exact HO2.out.1, drewN_below HO2.out.2 _⟩
            case measure => simp [intOf]; omega
        · have hbb : (q.p == m.p) = false := by simp [hpe]
          have hsp := into_split HR.out.1.2.1 hq (show q.p < m.p by omega) HA.out
          have HSP := Lib.hid hsp
          by_cases hfull : 6 ≤ N
          · have hfz : (6 : Int) ≤ (N : Int) := by omega
            have HRES := Lib.hid (show intoR l ms = none by
              rw [HR.out.1.1, HD.out, intoR_cons, if_pos ⟨into_none HR.out.1.2.1 hq (show q.p < m.p by omega) HA.out, by rw [HN.out]; exact hfull⟩])
            clear hsp hpe hqp' hqp hq
            go_wp2_with fail
            go_quiet (fail)
            go_wp2
            refine bodyPost_ret (results_tmp2 rfl _ _ _) rfl ?_
            exact ⟨_, _, rfl, .inr ⟨HRES.out, rfl, rfl⟩, drewN_below HO2.out.2 _⟩
          · have hfz : ¬ (6 : Int) ≤ (N : Int) := by omega
            have HRES := Lib.hid (into_step (A := R.take (t + 1)) (B := R.drop (t + 1)) HR.out.1.1 HD.out HR.out.1.2.1 (by rw [HN.out]; omega) HR.out.1.2.2.2 HMO.out (List.take_append_drop _ _).symm hsp.1 hsp.2)
            clear hsp hpe hqp' hqp hq
            go_wp2_with fail
            go_quiet (fail)
            go_wp2_with fail
            refine via (fun X => BoxC X gx 26 m.cells.toArray ∧ OwnMs w.heap.size X (.slice (some ⟨g, 0, none⟩) N rcap) R ∧ Below w.heap.size w X) ⟨HX2.out, HO2.out.1, drewN_below HO2.out.2 _⟩ (fun X hX => ?_)
            clear x0 x1 x2 d0 d1 d2
            have x0 : X.cell? ⟨gx, 0, none⟩ = some (.int .i64 m.p) := hX.1.cell 0
            have x1 : X.cell? ⟨gx, 1, none⟩ = some (.int .u64 m.s) := hX.1.cell 1
            have x2 : X.cell? ⟨gx, 2, none⟩ = some (.int .u64 m.o) := hX.1.cell 2
            have HX := Lib.hid hX
            have HMS := Lib.hid (hX.2.1.at HR.out.1.2.2.2)
            clear hX
            obtain ⟨c, hc⟩ : ∃ c, t + 1 = c := ⟨_, rfl⟩
            have hw0 : IntKind.i64.wrap ((t : Int) + 1) = (c : Int) := by rw [wrap_i64 (by omega) (by omega)]; omega
            rw [hc] at HRES
            have hcN : c ≤ N := by omega
            have HFR := Lib.hid (HMS.out.take (k := c) (by rw [HN.out]; exact hcN))
            have HCL := Lib.hid (show (R.take c).length = c ∧ (R.drop c).length = N - c from ⟨by rw [List.length_take, HN.out]; omega, by rw [List.length_drop, HN.out]⟩)
            have HSM := Lib.hid (show (R.take c).length ≤ 1000 ∧ (R.take c ++ [m]).length + (R.drop c).length ≤ 1000000 from ⟨by rw [HCL.out.1]; have := HN6.out; omega, by rw [List.length_append, HCL.out.1, HCL.out.2]; have := HN6.out; simp; omega⟩)
            have hcr : c ≤ rcap := by omega
            by_cases hrc : rcap = c
            · obtain rfl : rcap = N := by omega
              subst hrc
              have HBK := Lib.hid (show MsAt X (.slice (some ⟨g, 0, none⟩) 0 0) (R.drop rcap) from by
                rw [List.drop_of_length_le (by rw [HN.out]; exact Nat.le_refl _)]
                exact ⟨_, 0, rfl, by simp, by simp, fun _ => rfl, fun h => absurd h (by simp)⟩)
              clear hc
              have HY := Lib.hid (show Below X.heap.size X (X.drew.alloc (.cells #[.int .i64 m.p, .int .u64 m.s, .int .u64 m.o] 26)) from (Below.drew (Below.refl _ X)).alloc (Nat.le_refl _) _)
              have HBX := Lib.hid (show BoxC (X.drew.alloc (.cells #[.int .i64 m.p, .int .u64 m.s, .int .u64 m.o] 26)) X.heap.size 26 m.cells.toArray from BoxC.new X.drew 26 m.cells.toArray)

              have HG0 := Lib.hid (HFR.out.below HY.out)
              go_region_law (first
                | (refine step_grow rfl (.tmp 26) (.tmp 28) rfl (some ⟨g, 0, none⟩) rcap (R.take rcap) m X.heap.size HG0.out HBX.out (by simp [Act.eval]) (by simp [Act.eval]) HSM.out.1 ?_; intro v3 w3 ho3 hg3; have H3 := Lib.hid (show OwnMs X.heap.size w3 v3 ((R.take rcap) ++ [m]) ∧ Below X.heap.size X w3 from ⟨ho3.base_le HY.out.size, HY.out.grown hg3 HY.out.size (by intro j hj; cases hj)⟩); clear ho3 hg3)
                | (refine step_append_ms rfl (.tmp 29) (.tmp 33) rfl X.heap.size v3 _ ((R.take rcap) ++ [m]) (R.drop rcap) H3.out.1 (HBK.out.below H3.out.2) (by simp [Act.eval]) (by simp [Act.eval]) HSM.out.2 H3.out.2.size ?_; intro v5 w5 ho5 hg5; have H5 := Lib.hid (show OwnMs w.heap.size w5 v5 (((R.take rcap) ++ [m]) ++ (R.drop rcap)) ∧ Below w.heap.size w w5 from ⟨ho5.base_le HX.out.2.2.size, HX.out.2.2.trans ((H3.out.2.grown hg5 H3.out.2.size (fun j hj => H3.out.1.own j hj)).mono HX.out.2.2.size)⟩); clear ho5 hg5))
              all_goals go_wp2
              all_goals go_roundw
              all_goals (first | exact ⟨k + 1, _, by omega, by go_num, HRES.out, H5.out⟩ | (simp [intOf]; omega))
            · have HBK := Lib.hid (HMS.out.drop (k := c) (by rw [HN.out]; exact hcN))
              clear hc
              have HY := Lib.hid (show Below X.heap.size X (X.drew.alloc (.cells #[.int .i64 m.p, .int .u64 m.s, .int .u64 m.o] 26)) from (Below.drew (Below.refl _ X)).alloc (Nat.le_refl _) _)
              have HBX := Lib.hid (show BoxC (X.drew.alloc (.cells #[.int .i64 m.p, .int .u64 m.s, .int .u64 m.o] 26)) X.heap.size 26 m.cells.toArray from BoxC.new X.drew 26 m.cells.toArray)

              have HG0 := Lib.hid (HFR.out.below HY.out)
              go_region_law (first
                | (refine step_grow rfl (.tmp 26) (.tmp 28) rfl (some ⟨g, 0, none⟩) c (R.take c) m X.heap.size HG0.out HBX.out (by simp [Act.eval]) (by simp [Act.eval]) HSM.out.1 ?_; intro v3 w3 ho3 hg3; have H3 := Lib.hid (show OwnMs X.heap.size w3 v3 ((R.take c) ++ [m]) ∧ Below X.heap.size X w3 from ⟨ho3.base_le HY.out.size, HY.out.grown hg3 HY.out.size (by intro j hj; cases hj)⟩); clear ho3 hg3)
                | (refine step_append_ms rfl (.tmp 29) (.tmp 33) rfl X.heap.size v3 _ ((R.take c) ++ [m]) (R.drop c) H3.out.1 (HBK.out.below H3.out.2) (by simp [Act.eval]) (by simp [Act.eval]) HSM.out.2 H3.out.2.size ?_; intro v5 w5 ho5 hg5; have H5 := Lib.hid (show OwnMs w.heap.size w5 v5 (((R.take c) ++ [m]) ++ (R.drop c)) ∧ Below w.heap.size w w5 from ⟨ho5.base_le HX.out.2.2.size, HX.out.2.2.trans ((H3.out.2.grown hg5 H3.out.2.size (fun j hj => H3.out.1.own j hj)).mono HX.out.2.2.size)⟩); clear ho5 hg5))
              all_goals go_wp2
              all_goals go_roundw
              all_goals (first | exact ⟨k + 1, _, by omega, by go_num, HRES.out, H5.out⟩ | (simp [intOf]; omega))
    · obtain rfl : k = M := by omega
      have HD := Lib.hid (show intoR l ms = some R by have := HR.out.1.1; rw [List.drop_of_length_le (by rw [HM.out]; exact Nat.le_refl _)] at this; exact this)
      have H2 := Lib.hid HR.out.2
      obtain ⟨ra, rcap, rfl, -⟩ := (HR.out.2.1.at HR.out.1.2.2.2).form
      clear HR
      go_wp2
      refine bodyPost_ret (results_tmp2 rfl _ _ _) rfl ?_
      exact ⟨_, _, rfl, .inl ⟨R, HD.out, rfl, H2.out.1⟩, H2.out.2⟩
end Go.Proofs.Ytclchlcfcnlmhaa
