/- The document's net: Heal. -/
import Derived.Test.YtbmebmkpjbgdoaaRef8
namespace Go.Proofs.Ytbmebmkpjbgdoaa
open Go.RowKit
theorem wpList_append_ps {w : World} {ops : Array Oper} {rest : List Oper} {o : Oper} {a : Act} {Q : Exit → Act → World → Prop} (hgd : o.guard = none) (s x : Operand)
    (ho : o.op = .call { callee := .builtin .append, args := #[s, x], argTypes := #[62, 62] }) (v : Value) (vs us : List Pr) (hown : OwnPs w v vs) (ad : Addr) (m cap : Nat) (hs : a.eval s = v) (hx : a.eval x = .slice (some ad) m cap) (hm : m = us.length)
    (hnews : ∀ (j : Nat) u, (us.flatMap pc)[j]? = some u → w.cell? (ad.add j) = some u) (hone : ∀ u ∈ us.flatMap pc, u.oneCell' = true) (hsmall : vs.length + us.length ≤ 1000000)
    (h : ∀ v' w', OwnPs w' v' (vs ++ us) → w.grownBy w' v.ownBlock → Placed w v v' → wpList Try.prog ops Q rest (a.put o.dst v') w') : wpList Try.prog ops Q (o :: rest) a w := by
  subst hm
  refine wpList_plain hgd fun K hK => ?_
  obtain ⟨v', w', hr, h2, h3, h4⟩ := run_append_ps w o.type v vs us hown ad cap hnews hone hsmall
  unfold Oper.wp execOp
  simp only [ho, resolve, invoke, builtin, Sem.run_bind, Sem.run_pure, Result.andThen_ok, List.map_toArray, List.map_cons, List.map_nil, hs, hx, hr]
  exact hK _ _ (h v' w' h2 h3 h4)
theorem RefP.healed {w w5 : World} {R : Bks} {q : Nat} {d : Nt} {bv cv v5 : Value} {vs : List MV} {ps : List Pr} {a b : Int} (h : RefP w R q d bv cv vs ps) (hok : d.ok) (hl : d.links a b = true) (hb5 : Below w.heap.size w w5) (hv5 : ∀ k, v5.ownBlock = some k → w.heap.size ≤ k) (ho5 : OwnPs w5 v5 (ps.filter fun p => p != (min a b, max a b))) :
    RDoes w R q (d.turn a b false).2 (w5.setCell ⟨q, 2, none⟩ v5) := by
  have hlt5 := ho5.lt
  have hokt := hok.turn a b false
  have ht : (d.turn a b false).2 = { d with cuts := d.cuts.set (place a b) false } := by unfold Nt.turn; rw [if_pos hl]
  rw [ht] at hokt ⊢
  obtain ⟨hx, hc⟩ := h.paired (R' := fun k => R k ∨ v5.ownBlock = some k) hb5 (lt_of_block h.block) ho5 (cutsAre_heal hok h.cuts hl) (h.nd.sublist List.filter_sublist) (fun p hp => h.few p (List.mem_filter.1 hp).1) (fun _ hk => .inl hk) (fun k hk => hk.imp id fun h => ⟨hv5 k h, hlt5 k h⟩) (fun k hk => .inr hk)
  exact ⟨_, ⟨hokt, _, _, _, _, hx⟩, fun k hk => hk.imp id fun h => hv5 k h, hc⟩
theorem filter_take_succ (ps : List Pr) (l x : Pr) {k : Nat} (h : ps[k]? = some x) : (ps.take (k + 1)).filter (fun p => p != l) = (ps.take k).filter (fun p => p != l) ++ (if x = l then [] else [x]) := by
  obtain ⟨hk, he⟩ := List.getElem?_eq_some_iff.1 h
  rw [List.take_succ_eq_append_getElem hk, he, List.filter_append]
  by_cases hx : x = l
  · rw [if_pos hx]; simp [hx]
  · rw [if_neg hx]; simp [hx]
def HealInv (W1 : World) (ps : List Pr) (l : Pr) (k n : Nat) (v : Value) (wr : World) : Prop := ((ps.take k).filter fun p => p != l).length = n ∧ OwnPs wr v ((ps.take k).filter fun p => p != l) ∧ Below W1.heap.size W1 wr ∧ ∀ j, v.ownBlock = some j → W1.heap.size ≤ j
set_option maxRecDepth 100000 in
set_option maxHeartbeats 2000000 in
theorem rheal_any {w : World} {R : Bks} {q : Nat} {d : Nt} (h : RefAt w R q d) (a b : Int) :
    Calls Try.prog 39 #[.pointer (some ⟨q, 0, none⟩), .int .i64 a, .int .i64 b] w fun e w' => e = .returned (.int .i64 (d.turn a b false).1) ∧ RDoes w R q (d.turn a b false).2 w' := by
  have hA := h
  obtain ⟨ho, bv, cv, vs, ps, h⟩ := h
  have HST : Hid (∀ W, Below w.heap.size w W → RDoes w R q d W) := fun W hb => RDoes.still hA hb
  cases hl : d.links a b
  · have hres : d.turn a b false = (1, d) := by unfold Nt.turn; rw [if_neg (by simp [hl])]
    rw [hres]
    have HL := Lib.hid (link_false d a b w h.c0 hl)
    clear h ho hA hl hres
    go_enter Try.func39, Try.ntmps39
    go_wp2_with (go_at_call 51; refine HL.out.mono ?_; rintro e w1 ⟨rfl, hb⟩; have HB := Lib.hid hb; clear hb)
    go_ret
    exact ⟨rfl, HST.out _ (HB.out.alloc HB.out.size _)⟩
  · have HL := Lib.hid (link_true d a b w h.c0 hl)
    have hres : (d.turn a b false).1 = 0 := by unfold Nt.turn; rw [if_pos hl]
    rw [hres]
    obtain ⟨lo, hlo⟩ : ∃ lo, min a b = lo := ⟨_, rfl⟩
    obtain ⟨hi, hhi⟩ : ∃ hi, max a b = hi := ⟨_, rfl⟩
    have hg81 := guard81
    have HFIN : Hid (∀ w5 v5, Below w.heap.size w w5 → (∀ k, v5.ownBlock = some k → w.heap.size ≤ k) → OwnPs w5 v5 (ps.filter fun p => p != (lo, hi)) → RDoes w R q (d.turn a b false).2 (w5.setCell ⟨q, 2, none⟩ v5)) := fun w5 v5 h1 h2 h3 => by
      rw [← hlo, ← hhi] at h3
      exact h.healed ho hl h1 h2 h3
    rw [hlo, hhi] at HL
    obtain ⟨ca, cc, rfl⟩ := h.prs.form
    obtain ⟨L, hL⟩ : ∃ L, ps.length = L := ⟨_, rfl⟩
    have HLL := Lib.hid hL
    have hmany := h.many
    rw [hL] at hmany
    have HP := Lib.hid h
    clear h ho hA hl hres hlo hhi hL HST
    go_enter Try.func39, Try.ntmps39
    go_wp2_with (go_at_call 51; refine HL.out.mono ?_; rintro e w1 ⟨rfl, hb⟩; have HB := Lib.hid hb; clear hb)
    obtain ⟨W1, hW1⟩ : ∃ W1, W1 = w1.alloc (.cells #[.int .i64 lo, .int .i64 hi] 81) := ⟨_, rfl⟩
    have HB1 : Hid (Below w.heap.size w W1 ∧ W1.heap[w1.heap.size]? = some (.cells #[.int .i64 lo, .int .i64 hi] 81 (0, 0))) := by rw [hW1]; exact ⟨HB.out.alloc HB.out.size _, heap_alloc_new _ _⟩
    rw [← hW1]
    clear hW1 HL HB
    have HK : Hid (∀ W, Below W1.heap.size W1 W → (W.cell? ⟨q, 2, none⟩ = some (.slice ca L cc) ∧ W.frozen? ⟨q, 2, none⟩ = false ∧ W.cell? ⟨w1.heap.size, 0, none⟩ = some (.int .i64 lo) ∧ W.cell? ⟨w1.heap.size, 1, none⟩ = some (.int .i64 hi)) ∧ OwnPs W (.slice ca ps.length cc) ps ∧ Below w.heap.size w W) := fun W hb => by
      have h1 := HB1.out.1.trans (hb.mono HB1.out.1.size)
      have h2 := (hb.block _ (lt_of_block HB1.out.2)).trans HB1.out.2
      have h3 := HP.out.below h1
      exact ⟨⟨by rw [h3.c2, HLL.out], h3.fz 2, by rw [Go.Joins.cell_of_block h2]; rfl, by rw [Go.Joins.cell_of_block h2]; rfl⟩, h3.prs, h1⟩
    go_loopw [9, 10] (fun v i wr => ∃ (k n : Nat) (ao : Option Addr) (cv : Nat), k ≤ L ∧ n ≤ k ∧ i = .int .i64 (k : Nat) ∧ v = .slice ao n cv ∧ Hid (HealInv W1 ps (lo, hi) k n (.slice ao n cv) wr)) (fun _ i _ => L - (intOf i).toNat)
    case atStart => exact ⟨0, 0, none, 0, Nat.zero_le _, Nat.le_refl _, rfl, rfl, by simp, World.ownsRow_nil _ _ _ _, Below.refl _ _, fun j hj => by simp [Value.ownBlock] at hj⟩
    case round =>
      obtain ⟨k, n, ao, cv, hk, hn, rfl, rfl, HI⟩ := hrel
      obtain ⟨⟨c2, f2, q0, q1⟩, hps, hbw⟩ := HK.out wr HI.out.2.2.1
      have HBW := Lib.hid hbw
      clear hbw
      by_cases hlt : k < L
      · obtain ⟨⟨x, y⟩, hx⟩ : ∃ x, ps[k]? = some x := ⟨_, List.getElem?_eq_getElem (by rw [HLL.out]; exact hlt)⟩
        have hg : ∃ g, ca = some ⟨g, 0, none⟩ := by
          rcases HP.out.prs.2 with ⟨h1, h0⟩ | ⟨g, cap', cur, hv', _⟩
          · rw [HLL.out] at h0; omega
          · injection hv' with e1; exact ⟨g, e1⟩
        obtain ⟨g, rfl⟩ := hg
        have e0 : wr.cell? ⟨g, k * 2, none⟩ = some (.int .i64 x) := hps.cell hx 0 (by omega)
        have e1 : wr.cell? ⟨g, k * 2 + 1, none⟩ = some (.int .i64 y) := hps.cell hx 1 (by omega)
        have HF := Lib.hid (filter_take_succ ps (lo, hi) (x, y) hx)
        clear hx hps
        by_cases heq : x = lo ∧ y = hi
        · obtain ⟨rfl, rfl⟩ := heq
          have keq : ∀ w, (Op.equalIn 10000 81 (.agg #[.int .i64 x, .int .i64 y]) (.agg #[.int .i64 x, .int .i64 y])).run Try.prog w = .ok true w := fun w => by rw [equalIn_pair]; simp
          go_wp2
          go_region_held (fun W => (W.cell? ⟨q, 2, none⟩ = some (.slice (some ⟨g, 0, none⟩) L cc) ∧ W.cell? ⟨w1.heap.size, 0, none⟩ = some (.int .i64 x) ∧ W.cell? ⟨w1.heap.size, 1, none⟩ = some (.int .i64 y)) ∧ W.cell? ⟨g, k * 2, none⟩ = some (.int .i64 x) ∧ W.cell? ⟨g, k * 2 + 1, none⟩ = some (.int .i64 y)) (exact ⟨⟨c2, q0, q1⟩, e0, e1⟩) (fail)
          go_wp2
          go_roundw
          case rel => exact ⟨k + 1, n, ao, cv, by omega, by omega, by go_num, rfl, by
            obtain ⟨i1, i2, i3, i4⟩ := HI.out
            unfold HealInv
            rw [HF.out, if_pos trivial, List.append_nil]
            exact ⟨i1, i2.chg ((Chg.refl (fun _ => False) wr).drew) fun _ _ h => h, i3.drew, i4⟩⟩
          case measure => simp [intOf]; omega
        · have keq : ∀ w, (Op.equalIn 10000 81 (.agg #[.int .i64 x, .int .i64 y]) (.agg #[.int .i64 lo, .int .i64 hi])).run Try.prog w = .ok false w := fun w => by
            rw [equalIn_pair]
            have : (x == lo && y == hi) = false := by simpa using heq
            rw [this]
          go_wp2
          go_region_held (fun W => (W.cell? ⟨q, 2, none⟩ = some (.slice (some ⟨g, 0, none⟩) L cc) ∧ W.cell? ⟨w1.heap.size, 0, none⟩ = some (.int .i64 lo) ∧ W.cell? ⟨w1.heap.size, 1, none⟩ = some (.int .i64 hi)) ∧ W.cell? ⟨g, k * 2, none⟩ = some (.int .i64 x) ∧ W.cell? ⟨g, k * 2 + 1, none⟩ = some (.int .i64 y)) (exact ⟨⟨c2, q0, q1⟩, e0, e1⟩) (fail)
          have HOWN : Hid (∀ o, OwnPs (wr.drew.alloc o) (.slice ao n cv) ((ps.take k).filter fun p => p != (lo, hi))) := fun o => HI.out.2.1.chg (((Chg.refl (fun _ => False) wr).drew).alloc o) fun _ _ h => h
          have HBD : Hid (∀ o, Below W1.heap.size W1 (wr.drew.alloc o)) := fun o => HI.out.2.2.1.drew.alloc HI.out.2.2.1.size o
          have HNEW : Hid (∀ (j : Nat) t, ([((x, y) : Pr)].flatMap pc)[j]? = some t → (wr.drew.alloc (.cells #[.int .i64 x, .int .i64 y] 81)).cell? ((⟨wr.heap.size, 0, none⟩ : Addr).add j) = some t) := pnews_block (heap_alloc_new wr.drew _)
          have HSM : Hid (((ps.take k).filter fun p => p != (lo, hi)).length + [((x, y) : Pr)].length ≤ 1000000) := by
            unfold Hid; rw [HI.out.1]; simp; omega
          go_wp2_with (at_builtin; refine wpList_append_ps rfl _ _ rfl _ ((ps.take k).filter fun p => p != (lo, hi)) [((x, y) : Pr)] (HOWN.out _) ⟨wr.heap.size, 0, none⟩ 1 1 rfl rfl rfl HNEW.out (pone x y) HSM.out ?_; intro v2 w2 hown2 hgrow2 hpl2; have HE := Lib.hid (And.intro hown2 (dup_end (HBD.out _) HI.out.2.2.2 hgrow2 hpl2)); obtain ⟨a2, c2', e2⟩ := hown2.form; rw [List.length_append, HI.out.1, List.length_singleton] at e2; subst e2; clear hown2 hgrow2 hpl2)
          go_roundw
          case rel => exact ⟨k + 1, n + 1, a2, c2', by omega, by omega, by go_num, rfl, by
            obtain ⟨i1, i2, i3⟩ := HE.out
            unfold HealInv
            rw [HF.out, if_neg (fun h => heq (by injection h with h1 h2; exact ⟨h1, h2⟩))]
            exact ⟨by rw [List.length_append, HI.out.1]; rfl, i1, i2, i3⟩⟩
          case measure => simp [intOf]; omega
      · obtain rfl : k = L := by omega
        clear hps
        go_wp2
        go_ret
        refine ⟨rfl, HFIN.out wr _ HBW.out (fun j hj => Nat.le_trans HB1.out.1.size (HI.out.2.2.2 j hj)) ?_⟩
        have := HI.out.2.1
        rwa [List.take_of_length_le (by rw [HLL.out]; exact Nat.le_refl _)] at this
end Go.Proofs.Ytbmebmkpjbgdoaa
