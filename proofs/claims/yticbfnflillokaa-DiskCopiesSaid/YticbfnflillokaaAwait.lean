/- append to what waits; await. -/
import Derived.Test.YticbfnflillokaaDisk
import Derived.Deep.RegionLaw
namespace Go.Proofs.Yticbfnflillokaa
open Go.RowKit Go.Maps Go.WideMaps
theorem info75 : (Try.prog.info? 75).map (fun i => (i.zero, i.size, i.bytes)) = some (some (.agg #[.nilFunc, .nilFunc]), 2, 16) := by kernel_rfl
theorem run_append_ch (w : World) (ty : TypeId) (v : Value) (vs us : List (Value × Value)) (hown : OwnChs w v vs) (ad : Addr) (cap : Nat) (hnews : ∀ (j : Nat) u, (us.flatMap chc)[j]? = some u → w.cell? (ad.add j) = some u) (hone : ∀ u ∈ us.flatMap chc, u.oneCell' = true) (hsmall : vs.length + us.length ≤ 1000000) :
    ∃ v' w', (Builtin.append_ #[45, 45] ty #[v, .slice (some ad) us.length cap]).run Try.prog w = .ok v' w' ∧ OwnChs w' v' (vs ++ us) ∧ w.grownBy w' v.ownBlock ∧ Placed w v v' := by
  obtain ⟨i0, hi, hz0, hz1, hz2⟩ := info_parts info75
  obtain ⟨v', w', hr, ho, hg, hiff⟩ := run_append_own_wide (P := Try.prog) w 0 45 ty 75 i0 (.agg #[.nilFunc, .nilFunc]) 2 16 Try.underlying45 hi hz0 hz1 hz2 rfl (by decide) v vs.length (vs.flatMap chc) hown ad us.length cap (us.flatMap chc) (chc_length us) hnews hone (by unfold maxLen; omega) (by omega) (Nat.zero_le _)
  refine ⟨v', w', hr, ?_, hg, ?_⟩
  · unfold OwnChs
    rw [List.length_append, List.flatMap_append]
    exact ho
  · rcases hown.2 with ⟨rfl, h0⟩ | ⟨g, cap', cur, rfl, hbg, hgc, hnc, hcm, hcs, htake⟩
    · rcases Nat.eq_zero_or_pos us.length with h1 | h1
      · rw [hiff.2 ⟨rfl, h1⟩]; exact .inl rfl
      · have hr2 := run_append_nil (P := Try.prog) w 45 ty 75 i0 (.agg #[.nilFunc, .nilFunc]) Try.underlying45 hi hz0 ad us.length cap (us.flatMap chc) (by rw [hz1]; exact chc_length us) hnews h1 (by omega) (by rw [hz2]; omega)
        rw [hr] at hr2
        injection hr2 with h2 h3
        right
        intro k hk
        rw [h2] at hk
        simp [Value.ownBlock] at hk
        omega
    · by_cases hroom : vs.length + us.length ≤ cap'
      · have hr2 := run_append_room (P := Try.prog) w 45 ty 75 i0 Try.underlying45 hi g vs.length cap' cur hgc ad us.length cap (us.flatMap chc) (by rw [hz1]; exact chc_length us) hnews hone hroom (by rw [hz1, chc_length]; omega)
        rw [hr] at hr2
        injection hr2 with h2 h3
        left
        rw [h2]; rfl
      · have hr2 := run_append_grow (P := Try.prog) w 45 ty 75 i0 (.agg #[.nilFunc, .nilFunc]) Try.underlying45 hi hz0 ⟨g, 0, none⟩ vs.length cap' (vs.flatMap chc) (by rw [hz1]; exact chc_length vs) (World.ownsRow.cells hown rfl) ad us.length cap (us.flatMap chc) (by rw [hz1]; exact chc_length us) hnews (by omega) (by omega) (growslice_fits_wide (by omega) (by rw [hz2]; omega))
        rw [hr] at hr2
        injection hr2 with h2 h3
        right
        intro k hk
        rw [h2] at hk
        simp [Value.ownBlock] at hk
        omega
theorem OwnChs.form {w : World} {v : Value} {vs : List (Value × Value)} (h : OwnChs w v vs) : ∃ a cap, v = .slice a vs.length cap := by
  rcases h.2 with ⟨rfl, h0⟩ | ⟨g, cap, cur, rfl, _⟩
  · exact ⟨none, 0, by rw [h0]⟩
  · exact ⟨_, _, rfl⟩
theorem Placed.le {w0 w1 : World} {v v' : Value} (h : Placed w1 v v') (hs : w0.heap.size ≤ w1.heap.size) : Placed w0 v v' := h.imp id fun h k hk => Nat.le_trans hs (h k hk)
theorem snoc_at {α β : Type} {l : List α} {m : List β} {x a : α} {y b : β} {j : Nat} (hl : l.length = m.length) (h : (l ++ [x])[j]? = some a) (k : (m ++ [y])[j]? = some b) : (l[j]? = some a ∧ m[j]? = some b) ∨ (a = x ∧ b = y) := by
  by_cases hj : j < l.length
  · rw [List.getElem?_append_left hj] at h
    rw [List.getElem?_append_left (by omega)] at k
    exact .inl ⟨h, k⟩
  · rw [List.getElem?_append_right (by omega)] at h
    rw [List.getElem?_append_right (by omega)] at k
    have hj0 : j - l.length = 0 := by
      have := (List.getElem?_eq_some_iff.1 h).1
      simp at this; omega
    rw [hj0] at h
    rw [← hl, hj0] at k
    simp at h k
    exact .inr ⟨h.symm, k.symm⟩
theorem step_append_ch {ops : Array Oper} {o : Oper} {a : Act} {w : World} {K : Act → World → Prop} {Q : Exit → Act → World → Prop} {E : Prop}
    (hg : o.guard = none) (s x : Operand) (hop : o.op = Op.call { callee := Callee.builtin Builtin.append, args := #[s, x], argTypes := #[45, 45] })
    (v : Value) (vs us : List (Value × Value)) (hown : OwnChs w v vs) (ad : Addr) (m cap : Nat) (hs : a.eval s = v) (hx : a.eval x = .slice (some ad) m cap) (hm : m = us.length)
    (hnews : ∀ (j : Nat) u, (us.flatMap chc)[j]? = some u → w.cell? (ad.add j) = some u) (hone : ∀ u ∈ us.flatMap chc, u.oneCell' = true) (hsmall : vs.length + us.length ≤ 1000000)
    (hK : ∀ a' len' cap' w', OwnChs w' (.slice a' len' cap') (vs ++ us) → w.grownBy w' v.ownBlock → Placed w v (.slice a' len' cap') → K (a.put o.dst (.slice a' len' cap')) w') :
    if Region.wanted o (yielded ops a.tmps) = true then Oper.wp Try.prog o a w K Q else E := by
  have hw : Region.wanted o (yielded ops a.tmps) = true := by simp [Region.wanted, hg]
  rw [if_pos hw]
  subst hm
  obtain ⟨v', w', hrun, r1, r2, r3⟩ := run_append_ch w o.type v vs us hown ad cap hnews hone hsmall
  obtain ⟨a', c', rfl⟩ := r1.form
  have hk := hK a' _ c' w' r1 r2 r3
  clear hK r1 r2 r3
  generalize (vs ++ us).length = N at hk hrun
  unfold Oper.wp
  simp [execOp, hop, resolve, invoke, builtin, hs, hx, hrun, Result.andThen]
  exact hk
/-- a disk behind a change more that waits -/
theorem DiskP.awaited {w wa w2 w3 : World} {O I : Nat → Prop} {p n1 n2 : Nat} {d : Dk} {m1 m2 : Nat} {wv v3 : Value} {vs : List (Value × Value)} {S1 S2 S2' : Nat → Prop} (h : DiskP w O I p n1 n2 d m1 m2 wv vs S1 S2) {c : Ch} {x : Value × Value} (hc : ChAt w I c x)
    (hA : Chg (fun _ => False) w wa) (hblk : w2.heap[p]? = some (.cells #[.map (some m1), .int .i64 (d.synced.total : Nat), .int .i64 (d.cap : Nat), .int .u64 (d.serial : Nat), .bool d.down, .map (some m2), .int .i64 ((c.do d.seen).total : Nat), wv, .pointer (some ⟨p, 0, none⟩)] 47 (0, 0))) (h2 : ShelfOf w2 S2' m2 (n2 + 1) (c.do d.seen))
    (hs2 : ∀ k, S2' k → S2 k ∨ wa.heap.size ≤ k) (hc2 : Chg (fun i => S2 i ∨ i = p) wa w2) (ho : OwnChs w3 v3 (vs ++ [x])) (hc3 : Chg (fun k => wv.ownBlock = some k) w2 w3) (hp3 : Placed w2 wv v3) :
    ∃ O', DiskRaw (w3.setCell ⟨p, 7, none⟩ v3) O' I p n1 (n2 + 1) { d with seen := c.do d.seen, waits := d.waits ++ [c] } ∧ (∀ k, O' k → O k ∨ w.heap.size ≤ k) ∧ Chg O w (w3.setCell ⟨p, 7, none⟩ v3) := by
  have hAs := hA.size
  have h2s := hc2.size
  have h3s := hc3.size
  have hcw2 : Chg (fun i => S2 i ∨ i = p) w w2 := (hA.mono (S' := fun i => S2 i ∨ i = p) fun _ h => h.elim).then hc2 fun k hk => .inl hk
  have hcw3 : Chg (fun i => (S2 i ∨ i = p) ∨ wv.ownBlock = some i) w w3 := (hcw2.mono (S' := fun i => (S2 i ∨ i = p) ∨ wv.ownBlock = some i) fun _ h => .inl (.inl h)).then hc3 fun k hk => .inl (.inr hk)
  have hcw4 : Chg (fun i => (S2 i ∨ i = p) ∨ wv.ownBlock = some i) w (w3.setCell ⟨p, 7, none⟩ v3) := hcw3.setCell (p := ⟨p, 7, none⟩) (.inl (.inl (.inr rfl))) _
  have hc24 : Chg (fun i => wv.ownBlock = some i ∨ i = p) w2 (w3.setCell ⟨p, 7, none⟩ v3) := (hc3.mono (S' := fun i => wv.ownBlock = some i ∨ i = p) fun _ h => .inl (.inl h)).setCell (p := ⟨p, 7, none⟩) (.inl (.inr rfl)) _
  have hpl : p < w.heap.size := h.lt p (.inl h.op)
  have hwl : ∀ k, wv.ownBlock = some k → k < w.heap.size := fun k hk => h.lt k (.inl (h.ow k hk))
  have hv3 : ∀ k, v3.ownBlock = some k → wv.ownBlock = some k ∨ w2.heap.size ≤ k := fun k hk => by
    rcases hp3 with e | e
    · exact .inl (e.symm.trans hk)
    · exact .inr (e k hk)
  have hv3p : v3.ownBlock ≠ some p := fun e => by
    rcases hv3 p e with h' | h'
    · exact h.dw h'
    · omega
  have hO : ∀ k, (O k ∨ S2' k ∨ v3.ownBlock = some k) → O k ∨ w.heap.size ≤ k := fun k hk => by
    rcases hk with hk | hk | hk
    · exact .inl hk
    · rcases hs2 k hk with h' | h'
      · exact .inl (h.o2 k h')
      · exact .inr (by omega)
    · rcases hv3 k hk with h' | h'
      · exact .inl (h.ow k h')
      · exact .inr (by omega)
  have hkeep : Keep I w (w3.setCell ⟨p, 7, none⟩ v3) := hcw4.keep fun k hk hI => by
    rcases hk with (hk | hk) | hk
    · exact h.di k (h.o2 k hk) hI
    · rw [hk] at hI; exact h.di p h.op hI
    · exact h.di k (h.ow k hk) hI
  have hb3 := hc3.heap hblk (fun e => h.dw e)
  refine ⟨fun k => O k ∨ S2' k ∨ v3.ownBlock = some k, ⟨m1, m2, v3, vs ++ [x], S1, S2', ?_⟩, hO, hcw4.mono fun k hk => .inl ?_⟩
  · exact {
      block := Go.Joins.block_setCell (i := 7) hb3 v3
      one := h.one.chg hcw4 fun k hk hS => by
        have hd := h.d1 k hS
        rcases hk with (hk | hk) | hk
        · exact hd.1 hk
        · exact hd.2.2 hk
        · exact hd.2.1 hk
      two := h2.chg hc24 fun k hk hS => by
        rcases hs2 k hS with h' | h'
        · rcases hk with hk | hk
          · exact (h.d2 k h').1 hk
          · exact (h.d2 k h').2 hk
        · rcases hk with hk | hk
          · have := hwl k hk; omega
          · omega
      row := ho.chg (Chg.one w3 ⟨p, 7, none⟩ v3) fun k hk e => by
        have e : k = p := e
        rw [e] at hk; exact hv3p hk
      len := by simp [h.len]
      chs := fun j c' v hj hv => by
        rcases snoc_at (x := c) (y := x) h.len.symm hj hv with ⟨h1, h1'⟩ | ⟨rfl, rfl⟩
        · exact (h.chs j c' v h1 h1').keep hkeep
        · exact hc.keep hkeep
      o1 := fun k hk => .inl (h.o1 k hk)
      o2 := fun k hk => .inr (.inl hk)
      ow := fun k hk => .inr (.inr hk)
      op := .inl h.op
      d1 := fun k hk => by
        have hkl := h.lt k (.inl (h.o1 k hk))
        have hd := h.d1 k hk
        refine ⟨fun h' => ?_, fun h' => ?_, hd.2.2⟩
        · rcases hs2 k h' with e | e
          · exact hd.1 e
          · omega
        · rcases hv3 k h' with e | e
          · exact hd.2.1 e
          · omega
      d2 := fun k hk => by
        have hk2 := h2.lt k hk
        refine ⟨fun h' => ?_, fun e => ?_⟩
        · rcases hv3 k h' with e | e
          · rcases hs2 k hk with e' | e'
            · exact (h.d2 k e').1 e
            · have := hwl k e; omega
          · omega
        · rcases hs2 k hk with e' | e'
          · exact (h.d2 k e').2 e
          · omega
      dw := hv3p
      di := fun k hk hI => by
        rcases hO k hk with e | e
        · exact h.di k e hI
        · have := h.lt k (.inr hI); omega
      lt := fun k hk => by
        have hsz := hcw4.size
        have hs4 : (w3.setCell ⟨p, 7, none⟩ v3).heap.size = w3.heap.size := by simp [World.setCell]
        rcases hk with (hk | hk | hk) | hk
        · have := h.lt k (.inl hk); omega
        · have := h2.lt k hk; omega
        · have := (World.ownsRow.lt ho k hk).2; omega
        · have := h.lt k (.inr hk); omega }
  · rcases hk with (hk | hk) | hk
    · exact h.o2 k hk
    · rw [hk]; exact h.op
    · exact h.ow k hk
set_option maxRecDepth 100000 in
set_option maxHeartbeats 2000000 in
theorem await_any (w : World) (O I : Nat → Prop) (p n1 n2 : Nat) (d : Dk) (h : DiskRaw w O I p n1 n2 d) (c : Ch) (vd vt : Value) (hc : ChAt w I c (vd, vt)) (hw : d.waits.length ≤ 500000) (hn2 : n2 ≤ 1000000) (ht : d.seen.total ≤ 100000) :
    Calls Try.prog 42 #[.pointer (some ⟨p, 0, none⟩), .agg #[vd, vt]] w fun e w' => e = .returned (.tuple #[]) ∧ ∃ O', DiskRaw w' O' I p n1 (n2 + 1) { d with seen := c.do d.seen, waits := d.waits ++ [c] } ∧ (∀ k, O' k → O k ∨ w.heap.size ≤ k) ∧ Chg O w w' := by
  obtain ⟨m1, m2, wv, vs, S1, S2, h⟩ := h
  have HH := Lib.hid h
  have HCH := Lib.hid hc
  obtain ⟨wa', wc', rfl⟩ := h.row.form
  have hvt : vt.oneCell' = true := by
    rcases hc.2 with h | h
    · have h := h.1; dsimp only at h; rw [h]; rfl
    · obtain ⟨f2, lb2, h, _⟩ := h 0; dsimp only at h; rw [h]; rfl
  obtain ⟨f, lb, hvf, heg, hdo⟩ := hc.1
  dsimp only at hvf
  subst hvf
  have hA : Chg (fun _ => False) w (w.alloc (.cells #[.func (.func f) #[] lb, vt] 75)).drew := ((Chg.refl _ w).alloc _).drew
  have hP := h.chg hA fun _ h => h.elim
  have HD : Hid (Calls Try.prog f (#[.pointer (some ⟨p, 5, none⟩)] ++ #[] ++ lb) (w.alloc (.cells #[.func (.func f) #[] lb, vt] 75)).drew (ShPost (w.alloc (.cells #[.func (.func f) #[] lb, vt] 75)).drew S2 p 5 m2 (n2 + 1) (c.do d.seen))) := by
    refine hdo _ (hA.keep fun _ h => h.elim) p 5 m2 n2 S2 _ ⟨_, 47, hP.block, rfl, rfl⟩ hP.two (fun k hk => ?_) (fun hS => (h.d2 p hS).2 rfl) hn2 ht
    rcases hk with hk | hk
    · exact h.di k (h.o2 k hk)
    · rw [hk]; exact h.di p h.op
  have q0 : (w.alloc (.cells #[.func (.func f) #[] lb, vt] 75)).cell? ⟨w.heap.size, 0, none⟩ = some (.func (.func f) #[] lb) := by rw [World.cell?_alloc_new]; rfl
  have q1 : (w.alloc (.cells #[.func (.func f) #[] lb, vt] 75)).drew.heap[w.heap.size]? = some (.cells #[.func (.func f) #[] lb, vt] 75 (0, 0)) := heap_alloc_new _ _
  have HQ1 := Lib.hid q1
  have HA := Lib.hid hA
  have HP := Lib.hid hP
  have hBp : w.heap.size ≠ p := fun e => by have := h.lt p (.inl h.op); omega
  have hBS : ¬ S2 w.heap.size := fun hS => by have := h.lt _ (.inl (h.o2 _ hS)); omega
  have HL := Lib.hid h.len
  unfold Enters at heg
  clear h hc hdo hA hP q1
  go_enter Try.func42, Try.ntmps42
  go_wp2_with fail
  generalize w.alloc (.cells #[.func (.func f) #[] lb, vt] 75) = wa at q0 HD HQ1 HA HP ⊢
  go_still_tail 5, (by kernel_rfl)
  change wpList _ _ _ _ _ wa.drew
  go_wp2_with fail
  refine HD.out.mono ?_
  rintro e w2 ⟨rfl, S2', hq1, hq2, hq3, hq4⟩
  have hblk : w2.heap[p]? = some (.cells #[.map (some m1), .int .i64 (d.synced.total : Nat), .int .i64 (d.cap : Nat), .int .u64 (d.serial : Nat), .bool d.down, .map (some m2), .int .i64 ((c.do d.seen).total : Nat), .slice wa' vs.length wc', .pointer (some ⟨p, 0, none⟩)] 47 (0, 0)) := hq4 _ _ HP.out.block
  have hB2 := hq3.heap HQ1.out (fun h => by
    rcases h with h | h
    · exact hBS h
    · exact hBp h)
  have hrow2 := HP.out.row.chg hq3 (fun k hk hC => by
    rcases hC with hC | hC
    · exact (HP.out.d2 k hC).1 hk
    · exact HP.out.dw (by rw [← hC]; exact hk))
  have c7 : w2.cell? ⟨p, 7, none⟩ = some (.slice wa' vs.length wc') := by rw [Go.Joins.cell_of_block hblk]; rfl
  have f7 : w2.frozen? ⟨p, 7, none⟩ = false := by simp [World.frozen?, hblk]
  have e0 : w2.cell? ⟨w.heap.size, 0, none⟩ = some (.func (.func f) #[] lb) := by rw [Go.Joins.cell_of_block hB2]; rfl
  have e1 : w2.cell? ⟨w.heap.size, 1, none⟩ = some vt := by rw [Go.Joins.cell_of_block hB2]; rfl
  have HX2 : Hid (w2.heap[p]? = some (.cells #[.map (some m1), .int .i64 (d.synced.total : Nat), .int .i64 (d.cap : Nat), .int .u64 (d.serial : Nat), .bool d.down, .map (some m2), .int .i64 ((c.do d.seen).total : Nat), .slice wa' vs.length wc', .pointer (some ⟨p, 0, none⟩)] 47 (0, 0)) ∧ ShelfOf w2 S2' m2 (n2 + 1) (c.do d.seen) ∧ (∀ k, S2' k → S2 k ∨ wa.drew.heap.size ≤ k) ∧ Chg (fun i => S2 i ∨ i = p) wa.drew w2) := ⟨hblk, hq1, hq2, hq3⟩
  have HROWA : Hid (∀ o, OwnChs (w2.alloc o) (.slice wa' vs.length wc') vs) := fun o => hrow2.chg ((Chg.refl (fun _ => False) w2).alloc o) fun _ _ h => h
  obtain ⟨wn, hwn⟩ : ∃ wn, vs.length = wn := ⟨_, rfl⟩
  rw [hwn] at c7 HX2 HROWA
  have HWN := Lib.hid hwn
  clear hq1 hq2 hq3 hq4 hblk hB2 hrow2 hwn
  have HNEWS : Hid (∀ (j : Nat) u, ([(Value.func (.func f) #[] lb, vt)].flatMap chc)[j]? = some u → (w2.alloc (.cells #[.func (.func f) #[] lb, vt] 75)).cell? ((⟨w2.heap.size, 0, none⟩ : Addr).add j) = some u) := fun j u hj => by
    rw [Addr.add_lit, Nat.zero_add, World.cell?_alloc_new]
    simpa [chc] using hj
  have HONE : Hid (∀ u ∈ [(Value.func (.func f) #[] lb, vt)].flatMap chc, u.oneCell' = true) := fun u hu => by
    simp [chc] at hu
    rcases hu with rfl | rfl
    · rfl
    · exact hvt
  have HSM : Hid (vs.length + [(Value.func (.func f) #[] lb, vt)].length ≤ 1000000) := by
    have := HL.out
    unfold Hid
    simp only [List.length_singleton]
    omega
  have HC3 : Hid (∀ w3, Chg (fun k => (Value.slice wa' wn wc').ownBlock = some k) w2 w3 → w3.cell? ⟨p, 7, none⟩ = some (.slice wa' wn wc') ∧ w3.frozen? ⟨p, 7, none⟩ = false) := fun w3 hc3 => by
    have hb := hc3.heap HX2.out.1 (fun h => HP.out.dw (by rw [HWN.out]; exact h))
    exact ⟨by rw [Go.Joins.cell_of_block hb]; rfl, by simp [World.frozen?, hb]⟩
  have HFIN : Hid (∀ a3 l3 c3 w3, OwnChs w3 (.slice a3 l3 c3) (vs ++ [(.func (.func f) #[] lb, vt)]) → Chg (fun k => (Value.slice wa' wn wc').ownBlock = some k) w2 w3 → Placed w2 (.slice wa' wn wc') (.slice a3 l3 c3) →
      ∃ O', DiskRaw (w3.setCell ⟨p, 7, none⟩ (.slice a3 l3 c3)) O' I p n1 (n2 + 1) { d with seen := c.do d.seen, waits := d.waits ++ [c] } ∧ (∀ k, O' k → O k ∨ w.heap.size ≤ k) ∧ Chg O w (w3.setCell ⟨p, 7, none⟩ (.slice a3 l3 c3))) := fun a3 l3 c3 w3 h1 h2 h3 => by
    have hP := HH.out
    rw [HWN.out] at hP
    exact hP.awaited HCH.out HA.out HX2.out.1 HX2.out.2.1 HX2.out.2.2.1 HX2.out.2.2.2 h1 h2 h3
  have c7a : ∀ o, (w2.alloc o).cell? ⟨p, 7, none⟩ = some (.slice wa' wn wc') := fun o => (HC3.out _ ((Chg.refl _ w2).alloc o)).1
  go_wp2_with fail
  go_region_law (refine step_append_ch rfl (.tmp 14) (.tmp 16) rfl _ vs [(.func (.func f) #[] lb, vt)] (HROWA.out _) ⟨w2.heap.size, 0, none⟩ 1 1 (by simp [Act.eval]) (by simp [Act.eval]) rfl HNEWS.out HONE.out HSM.out ?_; intro a3 l3 c3 w3 ho3 hg3 hp3; have hch3 := Chg.grown (S := fun k => (Value.slice wa' wn wc').ownBlock = some k) (((Chg.refl _ w2).alloc _).drew) hg3 (fun k hk => Or.inl hk); have c7' := (HC3.out w3 hch3).1; have f7' := (HC3.out w3 hch3).2; have HO3 := Lib.hid (HFIN.out a3 l3 c3 w3 ho3 hch3 (hp3.le (Chg.size (((Chg.refl (fun _ => False) w2).alloc _).drew)))); clear ho3 hg3 hp3 hch3)
  all_goals exact bodyPost_end (results_none rfl _ _ _) rfl ⟨rfl, HO3.out⟩
end Go.Proofs.Yticbfnflillokaa
