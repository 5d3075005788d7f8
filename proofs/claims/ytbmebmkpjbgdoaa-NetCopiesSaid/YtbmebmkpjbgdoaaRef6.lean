/- The document's net: Double. -/
import Derived.Test.YtbmebmkpjbgdoaaRef5
import Derived.Test.YtbmebmkpjbgdoaaBag
namespace Go.Proofs.Ytbmebmkpjbgdoaa
open Go.RowKit
theorem step_append_row {ops : Array Oper} {o : Oper} {a : Act} {w : World} {K : Act → World → Prop} {Q : Exit → Act → World → Prop} {E : Prop}
    (hg : o.guard = none) (s x : Operand) (hop : o.op = Op.call { callee := Callee.builtin Builtin.append, args := #[s, x], argTypes := #[40, 40] })
    (b : Nat) (u : Value) (us : List MV) (hown : OwnMs w (.slice (some ⟨b, 0, none⟩) 0 0) []) (hu : OwnMs w u us) (hs : a.eval s = .slice (some ⟨b, 0, none⟩) 0 0) (hx : a.eval x = u)
    (hone : ∀ u ∈ us.flatMap mc, u.oneCell' = true) (hsmall : us.length ≤ 1000000)
    (hK : ∀ a' len' cap' w', OwnMs w' (.slice a' len' cap') us → w.grownBy w' (some b) → Placed w (.slice (some ⟨b, 0, none⟩) 0 0) (.slice a' len' cap') → K (a.put o.dst (.slice a' len' cap')) w') :
    if Region.wanted o (yielded ops a.tmps) = true then Oper.wp Try.prog o a w K Q else E := by
  rcases hu.2 with ⟨rfl, h0⟩ | ⟨g, cap, cur, rfl, hbg, hg2, hnc, hcm, hcs, htake⟩
  · obtain rfl : us = [] := List.eq_nil_of_length_eq_zero h0
    have hw : Region.wanted o (yielded ops a.tmps) = true := by simp [Region.wanted, hg]
    rw [if_pos hw]
    obtain ⟨i0, hi, hz0, hz1, hz2⟩ := info_parts info49
    have hrun := run_append_owned_none (P := Try.prog) (w := w) 0 40 o.type 49 i0 3 Try.underlying40 hi (.slice (some ⟨b, 0, none⟩) 0 0) 0 [] hown
    have hk := hK (some ⟨b, 0, none⟩) 0 0 w hown (World.grownBy.refl _ _) (Placed.refl _ _)
    clear hK
    unfold Oper.wp
    simp [execOp, hop, resolve, invoke, builtin, hs, hx, hrun, Result.andThen]
    exact hk
  · exact step_append_ms hg s x hop _ [] us hown ⟨g, 0, none⟩ us.length cap hs hx rfl (World.ownsRow.cells hu rfl) hone (by simpa using hsmall) (fun a' l' c' w' h1 h2 h3 => hK a' l' c' w' (by simpa using h1) h2 h3)
/-- one message more that lies there already -/
theorem RefP.doubled {w w5 : World} {R : Bks} {q : Nat} {d : Nt} {bv cv v5 u : Value} {vs : List MV} {ps : List Pr} {m : Msg} (h : RefP w R q d bv cv vs ps) (hok : ({ d with bag := d.bag ++ [m] } : Nt).ok) (hb5 : Below w.heap.size w w5) (hv5 : ∀ k, v5.ownBlock = some k → w.heap.size ≤ k) (hu : BytesIn R w u m.b) (ho5 : OwnMs w5 v5 (vs ++ [(m, u)])) :
    (w5.cell? ⟨q, 1, none⟩ = some bv ∧ w5.frozen? ⟨q, 1, none⟩ = false) ∧ RDoes w R q { d with bag := d.bag ++ [m] } (w5.setCell ⟨q, 1, none⟩ v5) := by
  have hlt5 := ho5.lt
  have hP5 := h.below hb5
  have hbu := hu.below hb5 (Nat.le_refl _)
  obtain ⟨hx, hc⟩ := h.rowed (R' := fun k => R k ∨ v5.ownBlock = some k) (bag := d.bag ++ [m]) hb5 (lt_of_block h.block) ho5 (by rw [List.map_append, h.bag]; rfl) (fun _ hk => .inl hk) (fun k hk => hk.imp id fun h => ⟨hv5 k h, hlt5 k h⟩) (fun k hk => .inr hk) (fun v hv => by
    rcases List.mem_append.1 hv with hv | hv
    · exact (hP5.byt v hv).wide fun k _ hk => .inl hk
    · simp at hv
      subst hv
      exact hbu.wide fun k _ hk => .inl hk)
  exact ⟨⟨hP5.c1, hP5.fz 1⟩, _, ⟨hok, _, _, _, _, hx⟩, fun k hk => hk.imp id fun h => hv5 k h, hc⟩
theorem dup_mid {W1 W w3 : World} {b : Nat} {v3 : Value} (hW : Chg (fun _ => False) W1 W) (hb : W1.heap.size ≤ b) (hg : W.grownBy w3 (some b)) (hp : Placed W (.slice (some ⟨b, 0, none⟩) 0 0) v3) : Below W1.heap.size W1 w3 ∧ ∀ k, v3.ownBlock = some k → W1.heap.size ≤ k :=
  ⟨(hW.grown hg fun k hk => .inr (by have := Option.some.inj hk; omega)).below (Nat.le_refl _) fun _ h => h.elim, placed_new hp hb hW.size⟩
theorem dup_end {W1 W w5 : World} {v3 v5 : Value} (hb : Below W1.heap.size W1 W) (hv : ∀ k, v3.ownBlock = some k → W1.heap.size ≤ k) (hg : W.grownBy w5 v3.ownBlock) (hp : Placed W v3 v5) : Below W1.heap.size W1 w5 ∧ ∀ k, v5.ownBlock = some k → W1.heap.size ≤ k :=
  ⟨hb.grown hg hb.size hv, fun k hk => by
    rcases hp with e | e
    · exact hv k (e.symm.trans hk)
    · exact Nat.le_trans hb.size (e k hk)⟩
theorem news_block {w3 : World} {z : Nat} {x y : Int} {b : Bs} {u : Value} (h : w3.heap[z]? = some (.cells #[.int .i64 x, .int .i64 y, u] 49 (0, 0))) : ∀ (j : Nat) t, ([((⟨x, y, b⟩, u) : MV)].flatMap mc)[j]? = some t → w3.cell? ((⟨z, 0, none⟩ : Addr).add j) = some t := fun j t hj => by
  rw [Addr.add_lit, Nat.zero_add, Go.Joins.cell_of_block h]
  simpa [mc] using hj
theorem kept_block {W w3 : World} {b z : Nat} {o : Obj} (hg : W.grownBy w3 (some b)) (hz : W.heap[z]? = some o) (hn : z ≠ b) : w3.heap[z]? = some o :=
  ((Chg.refl (fun k => k = b) W).grown hg fun _ hk => .inl (Option.some.inj hk).symm).heap hz hn
set_option maxRecDepth 100000 in
set_option maxHeartbeats 2000000 in
theorem rdouble_any {w : World} {R : Bks} {q : Nat} {d : Nt} (h : RefAt w R q d) (i : Int) :
    Calls Try.prog 37 #[.pointer (some ⟨q, 0, none⟩), .int .i64 i] w fun e w' => e = .returned (.int .i64 (d.double i).1) ∧ RDoes w R q (d.double i).2 w' := by
  have hA := h
  obtain ⟨ho, bv, cv, vs, ps, h⟩ := h
  have HAT := Lib.hid (rat_any h i)
  have HST : Hid (∀ W, Below w.heap.size w W → RDoes w R q d W) := fun W hb => RDoes.still hA hb
  cases hi : d.has i
  · have hres : d.double i = (4, d) := by unfold Nt.double; rw [if_pos hi]
    have hat : d.at i = (noMsg, 4) := by unfold Nt.at; rw [if_neg (by simp [hi])]
    rw [hres]
    rw [hat] at HAT
    clear h ho hA hi hat hres
    go_enter Try.func37, Try.ntmps37
    go_wp2_with (go_at_call 33; refine HAT.out.mono ?_; rintro e w1 ⟨ta, tc, rfl, _, hb⟩; have HB := Lib.hid hb; clear hb)
    go_ret
    exact ⟨rfl, HST.out _ (HB.out.alloc HB.out.size _)⟩
  · have hat : d.at i = (d.msg i, 0) := by unfold Nt.at; rw [if_pos hi]
    rw [hat] at HAT
    obtain ⟨sa, sc, rfl⟩ := h.row.form
    obtain ⟨BL, hBL⟩ : ∃ BL, vs.length = BL := ⟨_, rfl⟩
    have HC1 : Hid (∀ W, Below w.heap.size w W → W.cell? ⟨q, 1, none⟩ = some (.slice sa BL sc)) := fun W hb => by rw [(h.below hb).c1, hBL]
    have hvl : BL = d.bag.length := by rw [← hBL, h.len]
    by_cases hf : 64 ≤ d.bag.length
    · have hres : d.double i = (3, d) := by unfold Nt.double; rw [if_neg (by simp [hi]), if_pos hf]
      rw [hres]
      rw [← hvl] at hf
      generalize d.msg i = m at HAT
      clear h ho hA hi hat hres hBL hvl
      go_enter Try.func37, Try.ntmps37
      go_wp2_with (go_at_call 33; refine HAT.out.mono ?_; rintro e w1 ⟨ta, tc, rfl, _, hb⟩; have HB := Lib.hid hb; have c1 : ∀ o, (w1.alloc o).cell? ⟨q, 1, none⟩ = some (.slice sa BL sc) := (fun o => HC1.out _ (HB.out.alloc HB.out.size o)); clear hb)
      go_ret
      exact ⟨rfl, HST.out _ (HB.out.alloc HB.out.size _)⟩
    · have hres : d.double i = (0, { d with bag := d.bag ++ [d.msg i] }) := by unfold Nt.double; rw [if_neg (by simp [hi]), if_neg hf]
      have hok : ({ d with bag := d.bag ++ [d.msg i] } : Nt).ok := by have := ho.double i; rw [hres] at this; exact this
      rw [hres]
      rw [← hvl] at hf
      have hbl : BL < 64 := by omega
      have HOK := Lib.hid hok
      have HP := Lib.hid h
      have HBL := Lib.hid hBL
      have HONE := Lib.hid h.oneCells
      generalize d.msg i = m at HAT HOK ⊢
      clear h ho hA hi hat hres hBL hvl hok hf
      go_enter Try.func37, Try.ntmps37
      go_wp2_with (go_at_call 33; refine HAT.out.mono ?_; rintro e w1 ⟨ta, tc, rfl, hbt, hb⟩; have HB := Lib.hid hb; have HBT := Lib.hid hbt; have c1 : ∀ o, (w1.alloc o).cell? ⟨q, 1, none⟩ = some (.slice sa BL sc) := (fun o => HC1.out _ (HB.out.alloc HB.out.size o)); clear hb hbt)
      obtain ⟨ML, hML⟩ : ∃ ML, m.b.length = ML := ⟨_, rfl⟩
      rw [hML] at HBT ⊢
      clear hML
      generalize hW1 : w1.alloc (.cells #[.int .i64 m.fr, .int .i64 m.to, .slice ta ML tc] 49) = W1
      have hB1 : Below w.heap.size w W1 := by rw [← hW1]; exact HB.out.alloc HB.out.size _
      have hz : W1.heap[w1.heap.size]? = some (.cells #[.int .i64 m.fr, .int .i64 m.to, .slice ta ML tc] 49 (0, 0)) := by rw [← hW1]; exact heap_alloc_new _ _
      have hbt1 : BytesIn R w (.slice ta ML tc) m.b → True := fun _ => trivial
      have HF : Hid (∀ W, Below W1.heap.size W1 W → W.cell? ⟨q, 1, none⟩ = some (.slice sa BL sc) ∧ W.heap[w1.heap.size]? = some (.cells #[.int .i64 m.fr, .int .i64 m.to, .slice ta ML tc] 49 (0, 0))) := fun W hb => ⟨HC1.out W (hB1.trans (hb.mono hB1.size)), (hb.block _ (lt_of_block hz)).trans hz⟩
      have HK : Hid (∀ W, Below W1.heap.size W1 W → W.cell? ⟨q, 1, none⟩ = some (.slice sa BL sc) ∧ W.cell? ⟨w1.heap.size, 0, none⟩ = some (.int .i64 m.fr) ∧ W.cell? ⟨w1.heap.size, 1, none⟩ = some (.int .i64 m.to) ∧ W.cell? ⟨w1.heap.size, 2, none⟩ = some (.slice ta ML tc)) := fun W hb => by
        obtain ⟨h1, h2⟩ := HF.out W hb
        exact ⟨h1, by rw [Go.Joins.cell_of_block h2]; rfl, by rw [Go.Joins.cell_of_block h2]; rfl, by rw [Go.Joins.cell_of_block h2]; rfl⟩
      have HFIN : Hid (∀ w5 v5, Below W1.heap.size W1 w5 → (∀ k, v5.ownBlock = some k → W1.heap.size ≤ k) → OwnMs w5 v5 (vs ++ [(m, .slice ta ML tc)]) → (w5.cell? ⟨q, 1, none⟩ = some (.slice sa BL sc) ∧ w5.frozen? ⟨q, 1, none⟩ = false) ∧ RDoes w R q { d with bag := d.bag ++ [m] } (w5.setCell ⟨q, 1, none⟩ v5)) := fun w5 v5 h1 h2 h3 => by
        have hP1 := HP.out.below HB.out
        have hsz : w1.heap.size ≤ W1.heap.size := by rw [← hW1, World.size_alloc]; omega
        have hb15 : Below w1.heap.size w1 w5 := by
          have hA := Go.Joins.below_alloc1 w1 (.cells #[.int .i64 m.fr, .int .i64 m.to, .slice ta ML tc] 49)
          rw [hW1] at hA
          exact hA.trans (h1.mono hA.size)
        obtain ⟨k1, k2⟩ := hP1.doubled HOK.out hb15 (fun k hk => Nat.le_trans hsz (h2 k hk)) HBT.out h3
        rw [HBL.out] at k1
        exact ⟨k1, k2.behind HB.out⟩
      have HR : Hid (∀ W, Below W1.heap.size W1 W → OwnMs W (.slice sa BL sc) vs) := fun W hb => by
        rw [← HBL.out]
        exact (HP.out.below (hB1.trans (hb.mono hB1.size))).row
      have HSM : Hid (vs.length ≤ 1000000 ∧ vs.length + [((m, .slice ta ML tc) : MV)].length ≤ 1000000) := by
        unfold Hid; rw [HBL.out]; simp; omega
      have HO1 : Hid (∀ z ∈ [((m, .slice ta ML tc) : MV)].flatMap mc, z.oneCell' = true) := fun z hz => by
        simp [mc] at hz
        rcases hz with rfl | rfl | rfl <;> rfl
      clear hW1 hB1 hz HF HC1 HBT HB
      obtain ⟨x, y, mb⟩ := m
      have hc0 := HK.out W1 (Below.refl _ _)
      obtain ⟨c1, z0, z1, z2⟩ := hc0
      have ca : ∀ o, _ := fun o => HK.out (W1.alloc o) (Go.Joins.below_alloc1 W1 o)
      have caa : ∀ o o', _ := fun o o' => HK.out ((W1.alloc o).alloc o') ((Go.Joins.below_alloc1 W1 o).alloc (by rw [World.size_alloc]; omega) o')
      have c1a := fun o => (ca o).1
      have z0a := fun o => (ca o).2.1
      have z1a := fun o => (ca o).2.2.1
      have z2a := fun o => (ca o).2.2.2
      have c1b := fun o o' => (caa o o').1
      have z0b := fun o o' => (caa o o').2.1
      have z1b := fun o o' => (caa o o').2.2.1
      have z2b := fun o o' => (caa o o').2.2.2
      clear ca caa
      have HA : Hid (∀ o, Chg (fun _ => False) W1 (W1.drew.alloc o)) := fun o => ((Chg.refl _ W1).drew).alloc o
      have HAA : Hid (∀ o o', Chg (fun _ => False) W1 ((W1.drew.alloc o).alloc o')) := fun o o' => (((Chg.refl _ W1).drew).alloc o).alloc o'
      have HM1 : Hid (OwnMs (W1.drew.alloc (.cells #[] 49)) (.slice (some ⟨W1.heap.size, 0, none⟩) 0 0) []) := OwnMs.made W1.drew
      have HM2 : Hid (∀ o, OwnMs ((W1.drew.alloc (.cells #[] 49)).alloc o) (.slice (some ⟨W1.heap.size, 0, none⟩) 0 0) []) := fun o => (OwnMs.made W1.drew).chg ((Chg.refl (fun _ => False) _).alloc o) fun _ _ h => h
      have HM3 : Hid (∀ o, OwnMs ((W1.drew.alloc o).alloc (.cells #[] 49)) (.slice (some ⟨W1.heap.size + 1, 0, none⟩) 0 0) []) := fun o => by
        have := OwnMs.made (W1.drew.alloc o)
        rw [World.size_alloc] at this
        exact this
      have HZ3 : Hid (∀ o, ((W1.drew.alloc (.cells #[.int .i64 x, .int .i64 y, .slice ta ML tc] 49)).alloc o).heap[W1.heap.size]? = some (.cells #[.int .i64 x, .int .i64 y, .slice ta ML tc] 49 (0, 0))) := fun o => by
        have h1 : (W1.drew.alloc (.cells #[.int .i64 x, .int .i64 y, .slice ta ML tc] 49)).heap[W1.heap.size]? = some (.cells #[.int .i64 x, .int .i64 y, .slice ta ML tc] 49 (0, 0)) := heap_alloc_new W1.drew _
        rw [heap_alloc_old (h := lt_of_block h1)]
        exact h1
      go_region_law (first
        | (refine step_append_row rfl (.tmp 23) (.tmp 27) rfl W1.heap.size (.slice sa BL sc) vs HM1.out (HR.out _ ((HA.out _).below (Nat.le_refl _) fun _ h => h.elim)) (by simp [Act.eval]) (by simp [Act.eval]) HONE.out HSM.out.1 ?_; intro a3 l3 c3 w3 ho3 hg3 hp3; obtain ⟨b3, v3⟩ := dup_mid (HA.out _) (Nat.le_refl _) hg3 hp3; have HB3 := Lib.hid b3; have HV3 := Lib.hid v3; have HO3 := Lib.hid ho3; obtain ⟨d1, e0, e1, e2⟩ := HK.out w3 b3; clear ho3 hg3 hp3 b3 v3)
        | (refine step_append_row rfl (.tmp 23) (.tmp 27) rfl W1.heap.size (.slice sa BL sc) vs (HM2.out _) (HR.out _ ((HAA.out _ _).below (Nat.le_refl _) fun _ h => h.elim)) (by simp [Act.eval]) (by simp [Act.eval]) HONE.out HSM.out.1 ?_; intro a3 l3 c3 w3 ho3 hg3 hp3; obtain ⟨b3, v3⟩ := dup_mid (HAA.out _ _) (Nat.le_refl _) hg3 hp3; have HN3 := Lib.hid (news_block (b := mb) (kept_block hg3 (heap_alloc_new _ _) (by rw [World.size_alloc]; exact Nat.succ_ne_self _))); have HB3 := Lib.hid b3; have HV3 := Lib.hid v3; have HO3 := Lib.hid ho3; obtain ⟨d1, e0, e1, e2⟩ := HK.out w3 b3; clear ho3 hg3 hp3 b3 v3)
        | (refine step_append_row rfl (.tmp 23) (.tmp 27) rfl (W1.heap.size + 1) (.slice sa BL sc) vs (HM3.out _) (HR.out _ ((HAA.out _ _).below (Nat.le_refl _) fun _ h => h.elim)) (by simp [Act.eval]) (by simp [Act.eval]) HONE.out HSM.out.1 ?_; intro a3 l3 c3 w3 ho3 hg3 hp3; obtain ⟨b3, v3⟩ := dup_mid (HAA.out _ _) (Nat.le_succ _) hg3 hp3; have HN3 := Lib.hid (news_block (b := mb) (kept_block hg3 (HZ3.out _) (Nat.ne_of_lt (Nat.lt_succ_self _)))); have HB3 := Lib.hid b3; have HV3 := Lib.hid v3; have HO3 := Lib.hid ho3; obtain ⟨d1, e0, e1, e2⟩ := HK.out w3 b3; clear ho3 hg3 hp3 b3 v3)
        | (refine step_append_ms rfl (.tmp 28) (.tmp 30) rfl (.slice a3 l3 c3) vs [((⟨x, y, mb⟩, .slice ta ML tc) : MV)] (HO3.out.chg ((Chg.refl (fun _ => False) w3).alloc _) fun _ _ h => h) ⟨w3.heap.size, 0, none⟩ 1 1 (by simp [Act.eval]) (by simp [Act.eval]) rfl (row_news1 w3 x y mb _) HO1.out HSM.out.2 ?_; intro a5 l5 c5 w5 ho5 hg5 hp5; obtain ⟨b5, v5⟩ := dup_end (HB3.out.alloc HB3.out.size _) HV3.out hg5 hp5; obtain ⟨⟨c15, f15⟩, hx⟩ := HFIN.out w5 _ b5 v5 ho5; have HX := Lib.hid hx; clear ho5 hg5 hp5 b5 v5 hx)
        | (refine step_append_ms rfl (.tmp 28) (.tmp 30) rfl (.slice a3 l3 c3) vs [((⟨x, y, mb⟩, .slice ta ML tc) : MV)] HO3.out ⟨_, 0, none⟩ 1 1 (by simp [Act.eval]) (by simp [Act.eval]) rfl HN3.out HO1.out HSM.out.2 ?_; intro a5 l5 c5 w5 ho5 hg5 hp5; obtain ⟨b5, v5⟩ := dup_end HB3.out HV3.out hg5 hp5; obtain ⟨⟨c15, f15⟩, hx⟩ := HFIN.out w5 _ b5 v5 ho5; have HX := Lib.hid hx; clear ho5 hg5 hp5 b5 v5 hx))
      all_goals go_wp2
      all_goals go_ret
      all_goals exact ⟨rfl, HX.out⟩
end Go.Proofs.Ytbmebmkpjbgdoaa
