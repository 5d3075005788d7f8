/- append from whatever reads as bytes: where what is appended to lies behind it: where it lay, or in a new block. -/
import Derived.Test.YtniogemgkcoimaaOwn
namespace Go.Proofs.Ytniogemgkcoimaa
open Go.RowKit
/-- where v' lies: where v lay, or in a block that w has not -/
def Placed (w : World) (v v' : Value) : Prop := v'.ownBlock = v.ownBlock ∨ ∀ k, v'.ownBlock = some k → w.heap.size ≤ k
theorem Placed.refl (w : World) (v : Value) : Placed w v v := .inl rfl
theorem Placed.trans {w w1 : World} {v v1 v2 : Value} (h : Placed w v v1) (h1 : Placed w1 v1 v2) (hs : w.heap.size ≤ w1.heap.size) : Placed w v v2 := by
  rcases h1 with h1 | h1
  · rcases h with h | h
    · exact .inl (h1.trans h)
    · exact .inr fun k hk => h k (by rw [← h1]; exact hk)
  · exact .inr fun k hk => Nat.le_trans hs (h1 k hk)
theorem run_append_place (w : World) (ty : TypeId) (base : Nat) (v : Value) (n l : List UInt8) (hown : OwnBytes base w v n) (ad : Addr) (cap : Nat) (hb : BytesAt w (.slice (some ad) l.length cap) l) (hsmall : n.length + l.length ≤ 175921860444160) (hbase : base ≤ w.heap.size) :
    ∃ v' w', (Builtin.append_ #[27, 27] ty #[v, .slice (some ad) l.length cap]).run Try.prog w = .ok v' w' ∧ OwnBytes base w' v' (n ++ l) ∧ w.grownBy w' v.ownBlock ∧ Placed w v v' := by
  obtain ⟨i0, hi, hz0, hz1, hz2⟩ := info_parts info5
  have hc : 0 < l.length → ∃ b off, ad = ⟨b, off, none⟩ ∧ b < w.heap.size ∧ ∀ j, j < l.length → w.cell? ⟨b, off + j, none⟩ = some (.int .u8 ((l.getD j 0).toNat : Int)) := by
    obtain ⟨a', cap', hv, _, _, h⟩ := hb.form
    cases hv
    intro h0
    obtain ⟨b, off, he, h1, h2⟩ := h h0
    cases he
    exact ⟨b, off, rfl, h1, h2⟩
  have hnews : ∀ (j : Nat) u, (l.map byteV)[j]? = some u → w.cell? (ad.add j) = some u := by
    intro j u hj
    have hjl : j < l.length := by
      have := (List.getElem?_eq_some_iff.1 hj).1; simpa using this
    rw [getD_cell l j hjl] at hj
    obtain ⟨b, off, rfl, _, hc⟩ := hc (by omega)
    rw [← hj, Addr.add_lit]
    exact hc j hjl
  have hone : ∀ u ∈ l.map byteV, u.oneCell' = true := by
    intro u hu
    obtain ⟨y, _, rfl⟩ := List.mem_map.1 hu
    rfl
  obtain ⟨v', w', hr, ho, hg, hiff⟩ := run_append_own_wide (P := Try.prog) w base 27 ty 5 i0 (.int .u8 0) 1 1 Try.underlying27 hi hz0 hz1 hz2 rfl (by decide) v n.length (n.map byteV) hown ad l.length cap (l.map byteV) (by simp) hnews hone (by unfold maxLen; omega) (by omega) hbase
  refine ⟨v', w', hr, ?_, hg, ?_⟩
  · unfold OwnBytes
    rw [List.length_append, List.map_append]
    exact ho
  · rcases hown.2 with ⟨rfl, h0⟩ | ⟨g, cap', cur, rfl, hbg, hgc, hnc, hcm, hcs, htake⟩
    · rcases Nat.eq_zero_or_pos l.length with h1 | h1
      · rw [hiff.2 ⟨rfl, h1⟩]; exact .inl rfl
      · have hr2 := run_append_nil (P := Try.prog) w 27 ty 5 i0 (.int .u8 0) Try.underlying27 hi hz0 ad l.length cap (l.map byteV) (by simp [hz1]) hnews h1 (by omega) (by rw [hz2]; omega)
        rw [hr] at hr2
        injection hr2 with h2 h3
        right
        intro k hk
        rw [h2] at hk
        simp [Value.ownBlock] at hk
        omega
    · by_cases hroom : n.length + l.length ≤ cap'
      · have hr2 := run_append_room (P := Try.prog) w 27 ty 5 i0 Try.underlying27 hi g n.length cap' cur hgc ad l.length cap (l.map byteV) (by simp [hz1]) hnews hone hroom (by simp [hz1]; omega)
        rw [hr] at hr2
        injection hr2 with h2 h3
        left
        rw [h2]; rfl
      · have hr2 := run_append_grow (P := Try.prog) w 27 ty 5 i0 (.int .u8 0) Try.underlying27 hi hz0 ⟨g, 0, none⟩ n.length cap' (n.map byteV) (by simp [hz1]) (World.ownsRow.cells hown rfl) ad l.length cap (l.map byteV) (by simp [hz1]) hnews (by omega) (by omega) (growslice_fits_wide (by omega) (by rw [hz2]; omega))
        rw [hr] at hr2
        injection hr2 with h2 h3
        right
        intro k hk
        rw [h2] at hk
        simp [Value.ownBlock] at hk
        omega
theorem wpList_append_place {w : World} {ops : Array Oper} {rest : List Oper} {o : Oper} {a : Act} {Q : Exit → Act → World → Prop} (hgd : o.guard = none) (s x : Operand)
    (ho : o.op = .call { callee := .builtin .append, args := #[s, x], argTypes := #[27, 27] }) (base : Nat) (v u : Value) (n l : List UInt8) (hs : a.eval s = v) (hx : a.eval x = u)
    (hown : OwnBytes base w v n) (hb : BytesAt w u l) (hsmall : n.length + l.length ≤ 175921860444160) (hbase : base ≤ w.heap.size)
    (h : ∀ v' w', OwnBytes base w' v' (n ++ l) → w.grownBy w' v.ownBlock → Placed w v v' → wpList Try.prog ops Q rest (a.put o.dst v') w') : wpList Try.prog ops Q (o :: rest) a w := by
  obtain ⟨i0, hi, hz0, hz1, hz2⟩ := info_parts info5
  rcases hb with ⟨rfl, rfl⟩ | ⟨ad, cap, rfl, hl, hc⟩
  · exact wpList_append_own_none hgd s x 27 ho base 5 i0 1 Try.underlying27 hi v n.length (n.map byteV) hs hown hx (h v w (by rw [List.append_nil]; exact hown) (World.grownBy.refl _ _) (Placed.refl _ _))
  · refine wpList_plain hgd fun K hK => ?_
    obtain ⟨v', w', hr, h2, h3, h4⟩ := run_append_place w o.type base v n l hown ad cap (.inr ⟨ad, cap, rfl, hl, hc⟩) hsmall hbase
    unfold Oper.wp execOp
    simp only [ho, resolve, invoke, builtin, Sem.run_bind, Sem.run_pure, Result.andThen_ok, List.map_toArray, List.map_cons, List.map_nil, hs, hx, hr]
    exact hK _ _ (h v' w' h2 h3 h4)
end Go.Proofs.Ytniogemgkcoimaa
