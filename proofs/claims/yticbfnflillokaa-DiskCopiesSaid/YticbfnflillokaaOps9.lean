/- slices.Clone of what waits, Copy. -/
import Derived.Test.YticbfnflillokaaOps8
namespace Go.Proofs.Yticbfnflillokaa
open Go.RowKit Go.Maps Go.WideMaps
theorem wpList_append_ch {w : World} {ops : Array Oper} {rest : List Oper} {o : Oper} {a : Act} {Q : Exit → Act → World → Prop} (hgd : o.guard = none) (s x : Operand)
    (ho : o.op = .call { callee := .builtin .append, args := #[s, x], argTypes := #[45, 45] }) (v : Value) (vs us : List (Value × Value)) (hown : OwnChs w v vs) (ad : Addr) (m cap : Nat) (hs : a.eval s = v) (hx : a.eval x = .slice (some ad) m cap) (hm : m = us.length)
    (hnews : ∀ (j : Nat) u, (us.flatMap chc)[j]? = some u → w.cell? (ad.add j) = some u) (hone : ∀ u ∈ us.flatMap chc, u.oneCell' = true) (hsmall : vs.length + us.length ≤ 1000000)
    (h : ∀ v' w', OwnChs w' v' (vs ++ us) → w.grownBy w' v.ownBlock → Placed w v v' → wpList Try.prog ops Q rest (a.put o.dst v') w') : wpList Try.prog ops Q (o :: rest) a w := by
  subst hm
  refine wpList_plain hgd fun K hK => ?_
  obtain ⟨v', w', hr, h2, h3, h4⟩ := run_append_ch w o.type v vs us hown ad cap hnews hone hsmall
  unfold Oper.wp execOp
  simp only [ho, resolve, invoke, builtin, Sem.run_bind, Sem.run_pure, Result.andThen_ok, List.map_toArray, List.map_cons, List.map_nil, hs, hx, hr]
  exact hK _ _ (h v' w' h2 h3 h4)
theorem OwnChs.made (w : World) : OwnChs (w.alloc (.cells #[] 75)) (.slice (some ⟨w.heap.size, 0, none⟩) 0 0) [] :=
  World.ownsRow_made w #[] 0 (Nat.zero_le _) (Nat.zero_le _) rfl
def GivesChs (w : World) (vs : List (Value × Value)) (e : Ending) (w' : World) : Prop := ∃ v, e = .returned v ∧ OwnChs w' v vs ∧ (∀ k, v.ownBlock = some k → w.heap.size ≤ k) ∧ Below w.heap.size w w'
set_option maxRecDepth 100000 in
theorem chclone_any (v : Value) (vs : List (Value × Value)) (w : World) (h : OwnChs w v vs) (hone : ∀ u ∈ vs.flatMap chc, u.oneCell' = true) (hl : vs.length ≤ 500000) : Calls Try.prog 37 #[v] w (GivesChs w vs) := by
  rcases h.2 with ⟨rfl, h0⟩ | ⟨g, cap, cur, rfl, hbg, hg, hnc, hcm, hcs, htake⟩
  · have k := fun wx => Lib.run_eql_slice_nil (P := Try.prog) wx 45 75 none 0 0 0 0 Try.underlying45
    obtain rfl : vs = [] := List.eq_nil_of_length_eq_zero h0
    go_enter Try.func37, Try.ntmps37
    go_wp2
    go_ret
    exact ⟨_, rfl, World.ownsRow_nil _ _ _ _, (fun k hk => by simp [Value.ownBlock] at hk), Below.refl _ _⟩
  · have k := fun wx => Lib.run_eql_slice_nil (P := Try.prog) wx 45 75 (some ⟨g, 0, none⟩) vs.length cap 0 0 Try.underlying45
    have HA : Hid (OwnChs (w.alloc (.cells #[] 75)) (.slice (some ⟨w.heap.size, 0, none⟩) 0 0) []) := OwnChs.made w
    have HB : Hid (Below w.heap.size w (w.alloc (.cells #[] 75))) := (Below.refl _ _).alloc (Nat.le_refl _) _
    have HN : Hid (∀ (j : Nat) u, (vs.flatMap chc)[j]? = some u → (w.alloc (.cells #[] 75)).cell? ((⟨g, 0, none⟩ : Addr).add j) = some u) := fun j u hj =>
      World.ownsRow.cells (World.ownsRow.alloc h (.cells #[] 75)) rfl j u hj
    have HO := Lib.hid hone
    clear h hbg hg hcs htake hone
    go_enter Try.func37, Try.ntmps37
    go_wp2_with (at_builtin; refine wpList_append_ch rfl _ _ rfl _ [] vs HA.out ⟨g, 0, none⟩ _ cap rfl rfl rfl HN.out HO.out (by simp; omega) ?_; intro v2 w2 hown2 hgrow2 hpl2; have HO2 : Hid (OwnChs w2 v2 vs) := hown2; have HB2 : Hid (Below w.heap.size w w2) := HB.out.grown hgrow2 HB.out.size (fun k hk => (Nat.le_of_eq (Option.some.inj hk))); have HP2 : Hid (Placed (w.alloc (.cells #[] 75)) (.slice (some ⟨w.heap.size, 0, none⟩) 0 0) v2) := hpl2; clear hown2 hgrow2 hpl2)
    go_ret
    refine ⟨_, rfl, HO2.out, fun k hk => ?_, HB2.out⟩
    rcases HP2.out with h | h
    · have e : v2.ownBlock = some k := hk
      rw [h] at e
      exact Nat.le_of_eq (Option.some.inj e)
    · have := h k hk
      rw [World.size_alloc] at this
      omega
theorem DiskP.oneCells {w : World} {O I : Nat → Prop} {p n1 n2 : Nat} {d : Dk} {m1 m2 : Nat} {wv : Value} {vs : List (Value × Value)} {S1 S2 : Nat → Prop} (h : DiskP w O I p n1 n2 d m1 m2 wv vs S1 S2) : ∀ u ∈ vs.flatMap chc, u.oneCell' = true := by
  intro u hu
  obtain ⟨v, hv, hu⟩ := List.mem_flatMap.1 hu
  obtain ⟨j, hj⟩ := List.getElem?_of_mem hv
  have hjl := (List.getElem?_eq_some_iff.1 hj).1
  obtain ⟨c, hc⟩ : ∃ c, d.waits[j]? = some c := ⟨_, List.getElem?_eq_getElem (by rw [← h.len]; exact hjl)⟩
  have hch := h.chs j c v hc hj
  simp only [chc, List.mem_cons, List.not_mem_nil, or_false] at hu
  rcases hu with rfl | rfl
  · obtain ⟨f, lb, e, _⟩ := hch.1; rw [e]; rfl
  · rcases hch.2 with ⟨e, _⟩ | e
    · rw [e]; rfl
    · obtain ⟨f, lb, e, _⟩ := e 0; rw [e]; rfl
end Go.Proofs.Yticbfnflillokaa
