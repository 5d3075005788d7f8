/- The document's disk: Do (ask_low). -/
import Derived.Test.YticbfnflillokaaRowA
namespace Go.Proofs.Yticbfnflillokaa
open Go.RowKit
set_option maxRecDepth 100000 in
set_option maxHeartbeats 8000000 in
theorem ask_low {w : World} {R : Bks} {q N : Nat} {d : Dk} (h : RefAt w R q N d) (hN : N ≤ 400000) (c : CV) (hc : BytesAt w c.u c.b) (ho : 0 ≤ c.o ∧ c.o ≤ 3) (hb : c.b.length ≤ 100000) (hn : c.n.length ≤ maxLen) (ht : c.t.length ≤ maxLen) (hm : ¬ 2 ≤ c.o) :
    Calls Try.prog 47 #[.pointer (some ⟨q, 0, none⟩), .agg c.enc.toArray] w (DoEnd w R q N (d.says c)) := by
  obtain ⟨o, n, t, b, ca, cc⟩ := c
  dsimp only [CV.u] at hc ho hb hn ht hm
  have HM := Lib.hid hm
  clear hm
  show Calls Try.prog 47 #[.pointer (some ⟨q, 0, none⟩), .agg #[.int .i64 o, .string ⟨n.toArray⟩, .string ⟨t.toArray⟩, .slice ca b.length cc]] w (DoEnd w R q N (d.says ⟨o, n, t, b, ca, cc⟩))
  obtain ⟨c, hce⟩ : ∃ c : CV, c = ⟨o, n, t, b, ca, cc⟩ := ⟨_, rfl⟩
  rw [← hce]
  obtain ⟨CL, hCL⟩ : ∃ CL, b.length = CL := ⟨_, rfl⟩
  rw [hCL] at hb hc ⊢
  have hA := h
  obtain ⟨W1, hW1⟩ : ∃ W1, W1 = CBox w o n t ca CL cc := ⟨_, rfl⟩
  have hbW : Below w.heap.size w W1 := by rw [hW1]; exact Go.Joins.below_alloc1 w _
  have hsz1 : W1.heap.size = w.heap.size + 1 := by rw [hW1]; exact World.size_alloc _ _
  have HSEEN := Lib.hid (seen_any (h.below hbW) hN (fun k => R k ∨ w.heap.size ≤ k) (fun k hk => .inl hk) fun k hk => .inr (Nat.le_trans hbW.size hk))
  have HSTILL : Hid (∀ W, Below W1.heap.size W1 W → RDoes w R q (N + 1) d W) := fun W hb => RDoes.still hA (Nat.le_succ N) (hbW.trans (hb.mono hbW.size))
  have HNM : Hid (∀ W, Calls Try.prog 67 #[.string ⟨n.toArray⟩] W fun e w' => e = .returned (.bool (isName n)) ∧ W = w') := fun W => named_any n W hn
  have HTM : Hid (∀ W, Calls Try.prog 67 #[.string ⟨t.toArray⟩] W fun e w' => e = .returned (.bool (isName t)) ∧ W = w') := fun W => named_any t W ht
  obtain ⟨hok, hlen, hs, la, wa, lc, wc, vs, cs, h⟩ := h
  have HBOX : Hid (∀ W, Below W1.heap.size W1 W → W.cell? ⟨w.heap.size, 0, none⟩ = some (.int .i64 o) ∧ W.cell? ⟨w.heap.size, 1, none⟩ = some (.string ⟨n.toArray⟩) ∧ W.cell? ⟨w.heap.size, 2, none⟩ = some (.string ⟨t.toArray⟩) ∧ W.cell? ⟨w.heap.size, 3, none⟩ = some (.slice ca CL cc)) := fun W hb => by rw [hW1] at hb; exact CBox.cells hb
  have HQ : Hid (∀ W, Below W1.heap.size W1 W → W.cell? ⟨q, 4, none⟩ = some (.bool d.down) ∧ W.cell? ⟨q, 2, none⟩ = some (.int .i64 (d.cap : Nat))) := fun W hb => by
    have := h.below (hbW.trans (hb.mono hbW.size))
    exact ⟨this.c4, this.c2⟩
  have hcsl : cs.length = d.waits.length := by rw [← h.waitsAre, List.length_map]
  have hsl : d.seen.length ≤ 400000 := by rw [hok.sees]; have := doAll_length d.waits d.synced; omega
  have htot := hok.total
  have hcap := hok.cap
  have hseen := hok.seenok
  have HBIG : Hid (∀ {x y : Nat}, x = w.heap.size → y = q → x ≠ y) := fun {x y} hx hy => by subst hx hy; have := lt_of_block h.block; omega
  have HDT : Hid ((c.ch.do d.seen).total ≤ 1000000) := by
    show (c.ch.do d.seen).total ≤ 1000000
    rw [hce]
    unfold CV.ch
    dsimp only
    split
    · have h1 := Fs.total_put hseen n ((d.seen.get n).getD [] ++ b)
      have h2 := Fs.size_le hseen n
      rw [List.length_append] at h1
      have h3 : d.seen.size n = ((d.seen.get n).getD []).length := rfl
      show (d.seen.put n ((d.seen.get n).getD [] ++ b)).total ≤ _
      omega
    · split
      · have h1 := Fs.total_put hseen n b
        show (d.seen.put n b).total ≤ _
        omega
      · split
        · have := ren_total hseen n t
          show ((d.seen.put t ((d.seen.get n).getD [])).del n).total ≤ _
          omega
        · have := Fs.total_del hseen n
          show (d.seen.del n).total ≤ _
          omega
  -- the files with the change done, and their size
  have HDONE : Hid ((c.o = 2 → c.n ≠ c.t) → ∀ W us a k, Below W1.heap.size W1 W → FilesIn (fun _ => True) W (.slice a us.length k) us → fsOf us = d.seen → Calls Try.prog 69 #[.slice a us.length k, .agg #[.int .i64 o, .string ⟨n.toArray⟩, .string ⟨t.toArray⟩, .slice ca CL cc]] W (GivesFs (fun _ => True) W (c.ch.do d.seen))) := fun hne W us a k hb hf hF => by
    have h2 : BytesIn (fun _ => True) W c.u c.b := by
      rw [hce]
      show BytesIn (fun _ => True) W (.slice ca b.length cc) b
      rw [hCL]
      exact (hc.below hbW (Nat.le_refl _)).below hb (Nat.le_refl _)
    have husl : us.length ≤ 900000 := by
      have : us.length = d.seen.length := by rw [← hF, List.length_map]
      omega
    have := done_any (R := fun _ => True) (.slice a us.length k) us c W hf h2 ⟨by rw [hce]; exact ho, hne, by rw [hce]; show b.length ≤ _; omega⟩ (fun _ _ => trivial) husl (by rw [hF]; exact hseen) (by rw [hF]; omega)
    rw [hF] at this
    rw [hce] at this ⊢
    show Calls Try.prog 69 #[.slice a us.length k, .agg #[.int .i64 o, .string ⟨n.toArray⟩, .string ⟨t.toArray⟩, .slice ca CL cc]] W _
    rw [← hCL]
    exact this
  have HSIZE : Hid (∀ W us a k, FilesIn (fun _ => True) W (.slice a us.length k) us → fsOf us = c.ch.do d.seen → Calls Try.prog 54 #[.slice a us.length k] W fun e w' => e = .returned (.int .i64 ((c.ch.do d.seen).total : Nat)) ∧ W = w') := fun W us a k hf hF => by
    have := rsize_any (.slice a us.length k) us W hf (by rw [hF]; exact HDT.out)
    rw [hF] at this
    exact this
  -- the store of the bytes of its own
  have HOWN : Hid (∀ W, Below W1.heap.size W1 W → BytesAt W (.slice ca CL cc) b) := fun W hb => (hc.below hbW (Nat.le_refl _)).below hb (Nat.le_refl _)
  have HFZ : Hid (∀ W, Below W1.heap.size W1 W → W.frozen? ⟨w.heap.size, 3, none⟩ = false) := fun W hb => by
    have h0 : W1.heap[w.heap.size]? = some (.cells #[.int .i64 o, .string ⟨n.toArray⟩, .string ⟨t.toArray⟩, .slice ca CL cc] 84 (0, 0)) := by rw [hW1]; exact heap_alloc_new _ _
    have h1 := (hb.block _ (lt_of_block h0)).trans h0
    simp [World.frozen?, h1]
  have H5 : Hid (∀ W4 a4 c4 base, Below W1.heap.size W1 W4 → W1.heap.size ≤ base → OwnBytes base W4 (.slice a4 CL c4) b → ∃ W5, W5 = W4.setCell ⟨w.heap.size, 3, none⟩ (.slice a4 CL c4) ∧
      (∀ W, Below W5.heap.size W5 W → (W.cell? ⟨w.heap.size, 0, none⟩ = some (.int .i64 o) ∧ W.cell? ⟨w.heap.size, 1, none⟩ = some (.string ⟨n.toArray⟩) ∧ W.cell? ⟨w.heap.size, 2, none⟩ = some (.string ⟨t.toArray⟩) ∧ W.cell? ⟨w.heap.size, 3, none⟩ = some (.slice a4 CL c4)) ∧ W.cell? ⟨q, 1, none⟩ = some (.slice wa cs.length wc) ∧ W.frozen? ⟨q, 1, none⟩ = false) ∧
      (∀ W, Below W5.heap.size W5 W → RowIn R 4 CV.enc W (.slice wa cs.length wc) cs) ∧
      ∀ W a7 c7 base7, Below W5.heap.size W5 W → W5.heap.size ≤ base7 → OwnRow 84 4 CV.enc base7 W (.slice a7 (cs.length + 1) c7) (cs ++ [(⟨o, n, t, b, a4, c4⟩ : CV)]) → (c.o = 2 → c.n ≠ c.t) → (c.ch.do d.seen).total ≤ d.cap → RDoes w R q (N + 1) (d.add c.ch) (W.setCell ⟨q, 1, none⟩ (.slice a7 (cs.length + 1) c7))) := by
    intro W4 a4 c4 base hb4 hbase ho4
    refine ⟨_, rfl, ?_⟩
    generalize hW5 : W4.setCell ⟨w.heap.size, 3, none⟩ (.slice a4 CL c4) = W5
    have hbq : w.heap.size ≠ q := HBIG.out rfl rfl
    have hb14 : Below w.heap.size w W4 := hbW.trans (hb4.mono hbW.size)
    have hc5 : Chg (fun k => k = w.heap.size) W4 W5 := by rw [← hW5]; exact (Chg.refl (fun k => k = w.heap.size) W4).setCell (p := ⟨w.heap.size, 3, none⟩) (.inl rfl) _
    have hb5 : Below w.heap.size w W5 := hb14.trans (hc5.below hb14.size fun k hk => by omega)
    have h0 : W1.heap[w.heap.size]? = some (.cells #[.int .i64 o, .string ⟨n.toArray⟩, .string ⟨t.toArray⟩, .slice ca CL cc] 84 (0, 0)) := by rw [hW1]; exact heap_alloc_new _ _
    have h4 := (hb4.block _ (lt_of_block h0)).trans h0
    have h5 : W5.heap[w.heap.size]? = some (.cells #[.int .i64 o, .string ⟨n.toArray⟩, .string ⟨t.toArray⟩, .slice a4 CL c4] 84 (0, 0)) := by
      rw [← hW5, Go.Joins.block_setCell h4 (i := 3)]; rfl
    refine ⟨fun W hb => ?_, fun W hb => ?_, fun W a7 c7 base7 hb hbase7 ho7 hne hfit => ?_⟩
    · have h6 := (hb.block _ (lt_of_block h5)).trans h5
      have hq := h.below (hb5.trans (hb.mono hb5.size))
      refine ⟨⟨?_, ?_, ?_, ?_⟩, hq.c1, hq.fz 1⟩ <;> (rw [Go.Joins.cell_of_block h6]; rfl)
    · exact (h.below (hb5.trans (hb.mono hb5.size))).waits.1
    · have hbW7 := hb5.trans (hb.mono hb5.size)
      have hq := h.below hbW7
      have hown5 : BytesIn (fun k => R k ∨ w.heap.size ≤ k) W5 (.slice a4 CL c4) b := by
        refine BytesIn.wide ((ho4.chg hc5 fun k hk he => ?_).bytesIn) fun k _ hk => .inr ?_
        · have := ho4.own k hk; omega
        · have := ho4.own k hk; have := hbW.size; omega
      have hbb : ({ o := o, n := n, t := t, b := b, a := a4, c := c4 } : CV).ch = c.ch := by rw [hce]; rfl
      have e : (cs ++ [(⟨o, n, t, b, a4, c4⟩ : CV)]).length = cs.length + 1 := by rw [List.length_append]; rfl
      refine h.turn (d' := d.add c.ch) (vs' := vs) (cs' := cs ++ [(⟨o, n, t, b, a4, c4⟩ : CV)]) (la' := la) (wa' := a7) (lc' := lc) (wc' := c7) hbW7 (chg1 _ _ _ _) ?_ (hq.last.wide fun k _ hk => .inl hk) h.lastIs ⟨?_, fun x hx => ?_⟩ ?_ (hok.add c.ch hfit) ?_ ?_
      · rw [Go.Joins.block_setCell hq.block (i := 1), e]; rfl
      · rw [e]
        exact (OwnRow.rowIn (enc := CV.enc) (fun _ => rfl) ho7).wide fun k _ hk => .inr (by have := (OwnRow.lt ho7 k hk).1; have := hb5.size; omega)
      · rcases List.mem_append.1 hx with hx | hx
        · have := hq.waits.2 x hx
          exact ⟨this.1.wide fun k _ hk => .inl hk, this.2⟩
        · rw [List.mem_singleton] at hx
          subst hx
          refine ⟨?_, ho, ?_, ?_⟩
          · show BytesIn _ W (.slice a4 b.length c4) b
            rw [hCL]
            exact hown5.below hb (Nat.le_refl _)
          · rw [hce] at hne; exact hne
          · show b.length ≤ _; omega
      · rw [List.map_append, h.waitsAre, List.map_singleton, hbb]; rfl
      · show d.synced.length + (d.waits ++ [c.ch]).length ≤ N + 1
        rw [List.length_append, List.length_singleton]; omega
      · show d.serial ≤ N + 1 + 1; omega
  have HREST := Lib.hid (fun (h1 : d.down = false) (h2 : ¬ (isName c.n = false ∨ (c.o = 2 ∧ isName c.t = false))) => says_rest c h1 h2)
  have HSD := Lib.hid (fun (h1 : d.down = true) => says_down c h1)
  have HSN := Lib.hid (fun (h1 : d.down = false) (h2 : isName c.n = false ∨ (c.o = 2 ∧ isName c.t = false)) => says_name c h1 h2)
  have HCN : Hid (c.n = n ∧ c.t = t ∧ c.o = o) := by rw [hce]; exact ⟨rfl, rfl, rfl⟩
  have hcl4 : cs.length ≤ 400000 := by omega
  have c4 := fun o => (h.below (Go.Joins.below_alloc1 w o)).c4
  have hTT := HDT.out
  obtain ⟨TT, hTe⟩ : ∃ TT, (c.ch.do d.seen).total = TT := ⟨_, rfl⟩
  rw [hTe] at HSIZE H5 hTT
  have HTE := Lib.hid hTe
  obtain ⟨cap, hce2⟩ : ∃ cap, d.cap = cap := ⟨_, rfl⟩
  rw [hce2] at HQ H5 hcap
  have HCE := Lib.hid hce2
  obtain ⟨K, hK⟩ : ∃ K, cs.length = K := ⟨_, rfl⟩
  rw [hK] at H5 hcl4
  have HK := Lib.hid hK
  have HW1S := Lib.hid hbW
  obtain ⟨B0, hB0⟩ : ∃ B0, w.heap.size = B0 := ⟨_, rfl⟩
  rw [hB0] at HBOX HFZ H5
  have hlb2 := hCL
  clear hTe hce2 hK hA h hc hok hlen hs hcsl htot hseen hbW hsz1 hce hCL hsl
  unfold CBox at hW1
  cases hd : d.down
  case true =>
    rw [hd] at c4
    have HE := Lib.hid (HSD.out hd)
    have HR := Lib.hid (HSTILL.out W1 (Below.refl _ _))
    go_enter Try.func47, Try.ntmps47
    go_wp2
    rw [← hW1]
    go_ret
    rw [HE.out]
    exact ⟨rfl, HR.out⟩
  case false =>
  rw [hd] at c4
  cases hnn : isName n
  case false =>
    rw [hnn] at HNM
    have HE := Lib.hid (HSN.out hd (.inl (by rw [HCN.out.1]; exact hnn)))
    have HR := Lib.hid (HSTILL.out W1 (Below.refl _ _))
    have cb := (HBOX.out W1 (Below.refl _ _)).2.1
    go_enter Try.func47, Try.ntmps47
    go_wp2_with fail
    rw [← hW1]
    clear hW1
    refine (HNM.out W1).mono ?_
    rintro e w2 ⟨rfl, rfl⟩
    go_wp2
    go_ret
    rw [HE.out]
    exact ⟨rfl, HR.out⟩
  case true =>
  rw [hnn] at HNM
  have h2z : ¬ (2 : Int) ≤ o := HM.out
  have e2 : (o == 2) = false := by simp; omega
  have hne2 : ¬ c.o = 2 := by rw [HCN.out.2.2]; omega
  have hnr : ¬ (isName c.n = false ∨ (c.o = 2 ∧ isName c.t = false)) := by rw [HCN.out.1, hnn]; simp [hne2]
  have hr := HREST.out hd hnr
  rw [if_neg (by rw [HCN.out.2.2]; omega), if_neg (by simp [hne2]), HTE.out] at hr
  have HRR := Lib.hid hr
  have HNE2 := Lib.hid hne2
  have cb := HBOX.out W1 (Below.refl _ _)
  obtain ⟨cb0, cb1, cb2, cb3⟩ := cb
  have HLB := Lib.hid hlb2
  clear hr hnr hne2 hlb2
  go_enter Try.func47, Try.ntmps47
  go_wp2_with fail
  rw [← hW1]
  clear hW1
  refine (HNM.out W1).mono ?_
  rintro e w8 ⟨rfl, rfl⟩
  go_wp2_with fail
  refine HSEEN.out.mono ?_
  rintro e w2 ⟨us, ua, uc, rfl, hf, hF, hb2⟩
  have HB2 : Hid (Below W1.heap.size W1 w2) := hb2
  have HUF : Hid (FilesIn (fun _ => True) w2.drew (.slice ua us.length uc) us) := (hf.wide fun _ _ _ => trivial).below (Below.refl _ _).drew
  have HUE : Hid (fsOf us = d.seen) := hF
  obtain ⟨⟨x0, x1, x2, x3⟩⟩ := And.intro (HBOX.out w2 hb2) trivial
  clear hf hF hb2 cb0 cb1 cb2 cb3 c4
  have HFULL : Hid (¬ (d.cap < TT) → d.says c = (0, d.add c.ch)) := fun h => by rw [HRR.out, if_neg h]
  have HOVER : Hid (d.cap < TT → d.says c = (3, d)) := fun h => by rw [HRR.out, if_pos h]
  have HDN := Lib.hid (HDONE.out (fun h => absurd h HNE2.out))
  have H6 : Hid (∀ W4 a4 c4 base, Below W1.heap.size W1 W4 → W1.heap.size ≤ base → OwnBytes base W4 (.slice a4 CL c4) b → ∃ W5, W5 = W4.setCell ⟨B0, 3, none⟩ (.slice a4 CL c4) ∧
        (∀ W, Below W5.heap.size W5 W → (W.cell? ⟨B0, 0, none⟩ = some (.int .i64 o) ∧ W.cell? ⟨B0, 1, none⟩ = some (.string ⟨n.toArray⟩) ∧ W.cell? ⟨B0, 2, none⟩ = some (.string ⟨t.toArray⟩) ∧ W.cell? ⟨B0, 3, none⟩ = some (.slice a4 CL c4)) ∧ W.cell? ⟨q, 1, none⟩ = some (.slice wa K wc) ∧ W.frozen? ⟨q, 1, none⟩ = false) ∧
        (∀ W, Below W5.heap.size W5 W → RowIn R 4 CV.enc W (.slice wa K wc) cs) ∧
        ∀ W a7 c7 base7, Below W5.heap.size W5 W → W5.heap.size ≤ base7 → OwnRow 84 4 CV.enc base7 W (.slice a7 (K + 1) c7) (cs ++ [(⟨o, n, t, b, a4, c4⟩ : CV)]) → TT ≤ cap → RDoes w R q (N + 1) (d.add c.ch) (W.setCell ⟨q, 1, none⟩ (.slice a7 (K + 1) c7))) := fun W4 a4 c4 base h1 h2 h3 => by
      obtain ⟨W5, e, g1, g2, g3⟩ := H5.out W4 a4 c4 base h1 h2 h3
      exact ⟨W5, e, g1, g2, fun W a7 c7 base7 k1 k2 k3 k4 => g3 W a7 c7 base7 k1 k2 k3 (fun h => absurd h HNE2.out) k4⟩
  have HS0 : Hid (∀ W, Below W1.heap.size W1 W → (W.cell? ⟨B0, 0, none⟩ = some (.int .i64 o) ∧ W.cell? ⟨B0, 1, none⟩ = some (.string ⟨n.toArray⟩) ∧ W.cell? ⟨B0, 2, none⟩ = some (.string ⟨t.toArray⟩) ∧ W.cell? ⟨B0, 3, none⟩ = some (.slice ca CL cc)) ∧ W.cell? ⟨q, 2, none⟩ = some (.int .i64 (cap : Nat))) := fun W hb => ⟨HBOX.out W hb, (HQ.out W hb).2⟩
  have HD0 : Hid (Below W1.heap.size W1 w2.drew) := HB2.out.drew
  have HDC := Lib.hid (HDN.out w2.drew us ua uc HD0.out HUF.out HUE.out)
  obtain ⟨UL, hUL⟩ : ∃ UL, us.length = UL := ⟨_, rfl⟩
  rw [hUL] at HDC ⊢
  have hs0 := HS0.out w2 HB2.out
  clear hUL H5
  go_wp2_with fail
  go_region_held_law (fun W => (W.cell? ⟨B0, 0, none⟩ = some (.int .i64 o) ∧ W.cell? ⟨B0, 1, none⟩ = some (.string ⟨n.toArray⟩) ∧ W.cell? ⟨B0, 2, none⟩ = some (.string ⟨t.toArray⟩) ∧ W.cell? ⟨B0, 3, none⟩ = some (.slice ca CL cc)) ∧ W.cell? ⟨q, 2, none⟩ = some (.int .i64 (cap : Nat))) ((refine HS0.out _ ?_; first | exact HD0.out | exact HB3.out)) (first
    | (go_at_call 69; refine HDC.out.mono ?_; rintro e w3 ⟨vs3, a3, c3, rfl, hf3, hF3, hb3⟩; have HB3 := Lib.hid (HD0.out.trans (hb3.mono HD0.out.size)); have HSZ := Lib.hid (HSIZE.out w3 vs3 a3 c3 hf3 hF3); clear hf3 hF3 hb3)
    | (go_at_call 54; refine HSZ.out.mono ?_; rintro e w9 ⟨rfl, rfl⟩))
  all_goals clear hs0
  by_cases hcp : cap < TT
  · have hcpz : (cap : Int) < (TT : Int) := by omega
    have HE := Lib.hid (HOVER.out (by rw [HCE.out]; exact hcp))
    have HR := Lib.hid (HSTILL.out w3 HB3.out)
    go_wp2
    go_ret
    rw [HE.out]
    exact ⟨rfl, HR.out⟩
  · have hcpz : ¬ (cap : Int) < (TT : Int) := by omega
    have HE := Lib.hid (HFULL.out (by rw [HCE.out]; exact hcp))
    have HFIT : Hid (TT ≤ cap) := Nat.le_of_not_lt hcp
    obtain ⟨⟨b0, b1, b2, b3⟩, _⟩ := HS0.out w3 HB3.out
    have b3a := fun o => (HS0.out (w3.alloc o) (HB3.out.alloc HB3.out.size o)).1.2.2.2
    have HMADE : Hid (OwnBytes w3.heap.size (w3.alloc (.cells #[] 5)) (.slice (some ⟨w3.heap.size, 0, none⟩) 0 0) []) := OwnBytes.made w3 w3.heap.size (Nat.le_refl _)
    have HBA : Hid (∀ o, Below W1.heap.size W1 (w3.alloc o) ∧ w3.heap.size ≤ (w3.alloc o).heap.size) := fun o => ⟨HB3.out.alloc HB3.out.size o, by rw [World.size_alloc]; omega⟩
    go_wp2_with (at_builtin; (refine wpList_append_place rfl _ _ rfl w3.heap.size _ (.slice ca CL cc) [] b rfl (by simp [Act.eval]) HMADE.out (HOWN.out _ (HBA.out _).1) (by rw [HLB.out]; show 0 + CL ≤ 175921860444160; omega) (HBA.out _).2 ?_; intro v4 w4 ho4 hg4 _; obtain ⟨a4, k4, e4⟩ := ho4.form; rw [List.nil_append, HLB.out] at e4; subst e4; have HB4 := Lib.hid ((HBA.out (.cells #[] 5)).1.grown hg4 (HBA.out _).1.size fun k hk => Nat.le_trans HB3.out.size (Nat.le_of_eq (Option.some.inj hk))); have z3 := (HBOX.out w4 HB4.out).2.2.2; have f3 := HFZ.out w4 HB4.out; have HX5 := Lib.hid (H6.out w4 a4 k4 w3.heap.size HB4.out HB3.out.size ho4); clear ho4 hg4))
    obtain ⟨W5, hW5, g1, g2, g3⟩ := HX5.out
    rw [← hW5]
    have HG1 := Lib.hid g1
    have HG2 := Lib.hid g2
    have HG3 := Lib.hid g3
    clear g1 g2 g3 hW5 HX5 b0 b1 b2 b3 b3a z3 f3
    obtain ⟨nv, hnv⟩ : ∃ nv : CV, nv = ⟨o, n, t, b, a4, k4⟩ := ⟨_, rfl⟩
    rw [← hnv] at HG3
    have HNV : Hid (nv.enc.toArray = #[.int .i64 o, .string ⟨n.toArray⟩, .string ⟨t.toArray⟩, .slice a4 CL k4]) := by
      rw [hnv]
      show #[Value.int .i64 o, .string ⟨n.toArray⟩, .string ⟨t.toArray⟩, .slice a4 b.length k4] = _
      rw [HLB.out]
    clear hnv
    have HE0 : Hid (Below W5.heap.size W5 W5.drew) := (Below.refl _ _).drew
    have HEA : Hid (∀ o, Below W5.heap.size W5 (W5.drew.alloc o)) := fun o => HE0.out.alloc (Nat.le_refl _) o
    have HEAA : Hid (∀ o o', Below W5.heap.size W5 ((W5.drew.alloc o).alloc o')) := fun o o' => (HEA.out o).alloc (HEA.out o).size o'
    have HM1 : Hid (OwnRow 84 4 CV.enc W5.heap.size (W5.drew.alloc (.cells #[] 84)) (.slice (some ⟨W5.heap.size, 0, none⟩) 0 0) ([] : List CV)) := World.ownsRow_made W5.drew #[] 0 (Nat.le_refl _) (Nat.zero_le _) (by simp)
    have HM2 : Hid (∀ o, OwnRow 84 4 CV.enc W5.heap.size ((W5.drew.alloc (.cells #[] 84)).alloc o) (.slice (some ⟨W5.heap.size, 0, none⟩) 0 0) ([] : List CV)) := fun o => World.ownsRow.alloc HM1.out o
    have HM3 : Hid (∀ o, OwnRow 84 4 CV.enc W5.heap.size ((W5.drew.alloc o).alloc (.cells #[] 84)) (.slice (some ⟨W5.heap.size + 1, 0, none⟩) 0 0) ([] : List CV)) := fun o => by
      have := World.ownsRow_made (W5.drew.alloc o) (base := W5.heap.size) (e := 84) (size := 4) #[] 0 (HEA.out o).size (Nat.zero_le _) (by simp)
      rwa [World.size_alloc] at this
    have hs1 := HG1.out W5 (Below.refl _ _)
    have HLIT : Hid (∀ W g fr, W.heap[g]? = some (.cells #[.int .i64 o, .string ⟨n.toArray⟩, .string ⟨t.toArray⟩, .slice a4 CL k4] 84 fr) → RowIn (fun _ => True) 4 CV.enc W (.slice (some ⟨g, 0, none⟩) 1 1) [nv]) := fun W g fr hg => RowIn.of_block (by rw [HNV.out]; exact hg)
    have ca : ∀ x, _ := fun x => HG1.out (W5.alloc x) (Go.Joins.below_alloc1 W5 x)
    have caa : ∀ x x', _ := fun x x' => HG1.out ((W5.alloc x).alloc x') ((Go.Joins.below_alloc1 W5 x).alloc (by rw [World.size_alloc]; omega) x')
    have zza := fun x => (ca x).1.1
    have zzb := fun x => (ca x).1.2.1
    have zzc := fun x => (ca x).1.2.2.1
    have zzd := fun x => (ca x).1.2.2.2
    have zze := fun x => (ca x).2.1
    have yya := fun x x' => (caa x x').1.1
    have yyb := fun x x' => (caa x x').1.2.1
    have yyc := fun x x' => (caa x x').1.2.2.1
    have yyd := fun x x' => (caa x x').1.2.2.2
    have yye := fun x x' => (caa x x').2.1
    obtain ⟨⟨za, zb, zc, zd⟩, ze, zf⟩ := hs1
    clear ca caa
    have HZ3 : Hid (∀ x, ((W5.drew.alloc (.cells #[.int .i64 o, .string ⟨n.toArray⟩, .string ⟨t.toArray⟩, .slice a4 CL k4] 84)).alloc x).heap[W5.heap.size]? = some (.cells #[.int .i64 o, .string ⟨n.toArray⟩, .string ⟨t.toArray⟩, .slice a4 CL k4] 84 (0, 0))) := fun x => by
      have h1 : (W5.drew.alloc (.cells #[.int .i64 o, .string ⟨n.toArray⟩, .string ⟨t.toArray⟩, .slice a4 CL k4] 84)).heap[W5.heap.size]? = some (.cells #[.int .i64 o, .string ⟨n.toArray⟩, .string ⟨t.toArray⟩, .slice a4 CL k4] 84 (0, 0)) := heap_alloc_new W5.drew _
      rw [heap_alloc_old (h := lt_of_block h1)]
      exact h1
    have HKL : Hid (K = ([] : List CV).length + cs.length ∧ K + 1 = cs.length + [nv].length) := by unfold Hid; rw [HK.out]; simp
    go_region_law (first
      | (refine step_append_chs rfl (.tmp 62) (.tmp 66) rfl W5.heap.size _ _ [] cs K HKL.out.1 R (by simp [Act.eval]) (by simp [Act.eval]) HM1.out (HG2.out _ (HEA.out _)) (by omega) (HEA.out _).size ?_; intro a6 k6 w6 ho6 hg6; have HB6 := Lib.hid ((HEA.out _).grown hg6 (HEA.out _).size fun k hk => Nat.le_of_eq (Option.some.inj hk)); have HO6 := Lib.hid ho6; have HLA := Lib.hid (HLIT.out (w6.alloc (.cells #[.int .i64 o, .string ⟨n.toArray⟩, .string ⟨t.toArray⟩, .slice a4 CL k4] 84)) w6.heap.size (0, 0) (heap_alloc_new w6 _)); obtain ⟨⟨d0, d1, d2, d3⟩, d4, d5⟩ := HG1.out w6 HB6.out; clear ho6 hg6)
      | (refine step_append_chs rfl (.tmp 62) (.tmp 66) rfl W5.heap.size _ _ [] cs K HKL.out.1 R (by simp [Act.eval]) (by simp [Act.eval]) (HM2.out _) (HG2.out _ (HEAA.out _ _)) (by omega) (HEAA.out _ _).size ?_; intro a6 k6 w6 ho6 hg6; have HB6 := Lib.hid ((HEAA.out _ _).grown hg6 (HEAA.out _ _).size fun k hk => Nat.le_of_eq (Option.some.inj hk)); have HO6 := Lib.hid ho6; have HLB2 := Lib.hid (HLIT.out w6 _ (0, 0) (kept_block hg6 (heap_alloc_new _ _) (by rw [World.size_alloc]; exact Nat.succ_ne_self _))); obtain ⟨⟨d0, d1, d2, d3⟩, d4, d5⟩ := HG1.out w6 HB6.out; clear ho6 hg6)
      | (refine step_append_chs rfl (.tmp 62) (.tmp 66) rfl W5.heap.size _ _ [] cs K HKL.out.1 R (by simp [Act.eval]) (by simp [Act.eval]) (HM3.out _) (HG2.out _ (HEAA.out _ _)) (by omega) (HEAA.out _ _).size ?_; intro a6 k6 w6 ho6 hg6; have HB6 := Lib.hid ((HEAA.out _ _).grown hg6 (HEAA.out _ _).size fun k hk => Nat.le_trans (Nat.le_succ _) (Nat.le_of_eq (Option.some.inj hk))); have HO6 := Lib.hid ho6; have HLB2 := Lib.hid (HLIT.out w6 _ (0, 0) (kept_block hg6 (HZ3.out _) (Nat.ne_of_lt (Nat.lt_succ_self _)))); obtain ⟨⟨d0, d1, d2, d3⟩, d4, d5⟩ := HG1.out w6 HB6.out; clear ho6 hg6)
      | (refine step_append_chs rfl (.tmp 67) (.tmp 69) rfl W5.heap.size _ _ cs [nv] (K + 1) HKL.out.2 (fun _ => True) (by simp [Act.eval]) (by simp [Act.eval]) (World.ownsRow.alloc HO6.out _) HLA.out (by omega) (HB6.out.alloc HB6.out.size _).size ?_; intro a7 k7 w7 ho7 hg7; have HB7 := Lib.hid ((HB6.out.alloc HB6.out.size _).grown hg7 (HB6.out.alloc HB6.out.size _).size fun k hk => (OwnRow.lt HO6.out k hk).1); obtain ⟨⟨h0, h1, h2, h3⟩, h4, h5⟩ := HG1.out w7 HB7.out; have HX := Lib.hid (HG3.out w7 a7 k7 W5.heap.size HB7.out (Nat.le_refl _) ho7 HFIT.out); clear ho7 hg7)
      | (refine step_append_chs rfl (.tmp 67) (.tmp 69) rfl W5.heap.size _ _ cs [nv] (K + 1) HKL.out.2 (fun _ => True) (by simp [Act.eval]) (by simp [Act.eval]) HO6.out HLB2.out (by omega) HB6.out.size ?_; intro a7 k7 w7 ho7 hg7; have HB7 := Lib.hid (HB6.out.grown hg7 HB6.out.size fun k hk => (OwnRow.lt HO6.out k hk).1); obtain ⟨⟨h0, h1, h2, h3⟩, h4, h5⟩ := HG1.out w7 HB7.out; have HX := Lib.hid (HG3.out w7 a7 k7 W5.heap.size HB7.out (Nat.le_refl _) ho7 HFIT.out); clear ho7 hg7))
    all_goals go_wp2
    all_goals go_ret
    all_goals rw [HE.out]
    all_goals exact ⟨rfl, HX.out⟩
end Go.Proofs.Yticbfnflillokaa
