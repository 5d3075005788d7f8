/- The bag: put, take, clone. -/
import Derived.Test.YtbmebmkpjbgdoaaSmall
import Derived.Deep.RegionLaw
namespace Go.Proofs.Ytbmebmkpjbgdoaa
open Go.RowKit
def zMsg : Value := .agg #[.int .i64 0, .int .i64 0, .slice none 0 0]
theorem info49 : (Try.prog.info? 49).map (fun i => (i.zero, i.size, i.bytes)) = some (some zMsg, 3, 40) := by kernel_rfl
theorem run_append_ms (w : World) (ty : TypeId) (v : Value) (vs us : List MV) (hown : OwnMs w v vs) (ad : Addr) (cap : Nat) (hnews : ∀ (j : Nat) u, (us.flatMap mc)[j]? = some u → w.cell? (ad.add j) = some u) (hone : ∀ u ∈ us.flatMap mc, u.oneCell' = true) (hsmall : vs.length + us.length ≤ 1000000) :
    ∃ v' w', (Builtin.append_ #[40, 40] ty #[v, .slice (some ad) us.length cap]).run Try.prog w = .ok v' w' ∧ OwnMs w' v' (vs ++ us) ∧ w.grownBy w' v.ownBlock ∧ Placed w v v' := by
  obtain ⟨i0, hi, hz0, hz1, hz2⟩ := info_parts info49
  obtain ⟨v', w', hr, ho, hg, hiff⟩ := run_append_own_wide (P := Try.prog) w 0 40 ty 49 i0 zMsg 3 40 Try.underlying40 hi hz0 hz1 hz2 rfl (by decide) v vs.length (vs.flatMap mc) hown ad us.length cap (us.flatMap mc) (mc_length us) hnews hone (by unfold maxLen; omega) (by omega) (Nat.zero_le _)
  refine ⟨v', w', hr, ?_, hg, ?_⟩
  · unfold OwnMs
    rw [List.length_append, List.flatMap_append]
    exact ho
  · rcases hown.2 with ⟨rfl, h0⟩ | ⟨g, cap', cur, rfl, hbg, hgc, hnc, hcm, hcs, htake⟩
    · rcases Nat.eq_zero_or_pos us.length with h1 | h1
      · rw [hiff.2 ⟨rfl, h1⟩]; exact .inl rfl
      · have hr2 := run_append_nil (P := Try.prog) w 40 ty 49 i0 zMsg Try.underlying40 hi hz0 ad us.length cap (us.flatMap mc) (by rw [hz1]; exact mc_length us) hnews h1 (by omega) (by rw [hz2]; omega)
        rw [hr] at hr2
        injection hr2 with h2 h3
        right
        intro k hk
        rw [h2] at hk
        simp [Value.ownBlock] at hk
        omega
    · by_cases hroom : vs.length + us.length ≤ cap'
      · have hr2 := run_append_room (P := Try.prog) w 40 ty 49 i0 Try.underlying40 hi g vs.length cap' cur hgc ad us.length cap (us.flatMap mc) (by rw [hz1]; exact mc_length us) hnews hone hroom (by rw [hz1, mc_length]; omega)
        rw [hr] at hr2
        injection hr2 with h2 h3
        left
        rw [h2]; rfl
      · have hr2 := run_append_grow (P := Try.prog) w 40 ty 49 i0 zMsg Try.underlying40 hi hz0 ⟨g, 0, none⟩ vs.length cap' (vs.flatMap mc) (by rw [hz1]; exact mc_length vs) (World.ownsRow.cells hown rfl) ad us.length cap (us.flatMap mc) (by rw [hz1]; exact mc_length us) hnews (by omega) (by omega) (growslice_fits_wide (by omega) (by rw [hz2]; omega))
        rw [hr] at hr2
        injection hr2 with h2 h3
        right
        intro k hk
        rw [h2] at hk
        simp [Value.ownBlock] at hk
        omega
theorem Placed.le {w0 w1 : World} {v v' : Value} (h : Placed w1 v v') (hs : w0.heap.size ≤ w1.heap.size) : Placed w0 v v' := h.imp id fun h k hk => Nat.le_trans hs (h k hk)
theorem step_append_ms {ops : Array Oper} {o : Oper} {a : Act} {w : World} {K : Act → World → Prop} {Q : Exit → Act → World → Prop} {E : Prop}
    (hg : o.guard = none) (s x : Operand) (hop : o.op = Op.call { callee := Callee.builtin Builtin.append, args := #[s, x], argTypes := #[40, 40] })
    (v : Value) (vs us : List MV) (hown : OwnMs w v vs) (ad : Addr) (m cap : Nat) (hs : a.eval s = v) (hx : a.eval x = .slice (some ad) m cap) (hm : m = us.length)
    (hnews : ∀ (j : Nat) u, (us.flatMap mc)[j]? = some u → w.cell? (ad.add j) = some u) (hone : ∀ u ∈ us.flatMap mc, u.oneCell' = true) (hsmall : vs.length + us.length ≤ 1000000)
    (hK : ∀ a' len' cap' w', OwnMs w' (.slice a' len' cap') (vs ++ us) → w.grownBy w' v.ownBlock → Placed w v (.slice a' len' cap') → K (a.put o.dst (.slice a' len' cap')) w') :
    if Region.wanted o (yielded ops a.tmps) = true then Oper.wp Try.prog o a w K Q else E := by
  have hw : Region.wanted o (yielded ops a.tmps) = true := by simp [Region.wanted, hg]
  rw [if_pos hw]
  subst hm
  obtain ⟨v', w', hrun, r1, r2, r3⟩ := run_append_ms w o.type v vs us hown ad cap hnews hone hsmall
  obtain ⟨a', c', rfl⟩ := r1.form
  have hk := hK a' _ c' w' r1 r2 r3
  clear hK r1 r2 r3
  generalize (vs ++ us).length = N at hk hrun
  unfold Oper.wp
  simp [execOp, hop, resolve, invoke, builtin, hs, hx, hrun, Result.andThen]
  exact hk
/-- a net behind another row of messages -/
theorem NetP.rowed {w w3 : World} {O I : Nat → Prop} {p : Nat} {d : Nt} {sv v3 : Value} {vs us : List MV} {bag : List Msg} (h : NetP w O I p d sv vs) (ho : OwnMs w3 v3 us) (hc : Chg (fun k => sv.ownBlock = some k) w w3) (hp : Placed w sv v3) (hb : us.map (·.1) = bag) (hby : ∀ v ∈ us, BytesIn I w v.2 v.1.b) :
    ∃ O', NetP (w3.setCell ⟨p, 0, none⟩ v3) O' I p { d with bag := bag } v3 us ∧ Step w O I (w3.setCell ⟨p, 0, none⟩ v3) O' I := by
  have hcs := hc.size
  have hpl : p < w.heap.size := h.lt p (.inl h.op)
  have hch : Chg O w (w3.setCell ⟨p, 0, none⟩ v3) := ((hc.mono (S' := O) fun k hk => .inl (h.ow k hk))).setCell (p := ⟨p, 0, none⟩) (.inl h.op) _
  have hch3 : Chg (fun k => k = p) w3 (w3.setCell ⟨p, 0, none⟩ v3) := (Chg.refl (fun k => k = p) w3).setCell (p := ⟨p, 0, none⟩) (.inl rfl) _
  have hv3 : ∀ k, v3.ownBlock = some k → sv.ownBlock = some k ∨ w.heap.size ≤ k := fun k hk => by
    rcases hp with e | e
    · exact .inl (e.symm.trans hk)
    · exact .inr (e k hk)
  have hv3p : v3.ownBlock ≠ some p := fun e => by
    rcases hv3 p e with h' | h'
    · exact h.dw h'
    · omega
  have hO : ∀ k, (O k ∨ v3.ownBlock = some k) → O k ∨ w.heap.size ≤ k := fun k hk => by
    rcases hk with hk | hk
    · exact .inl hk
    · rcases hv3 k hk with h' | h'
      · exact .inl (h.ow k h')
      · exact .inr h'
  have hb3 := hc.heap h.block fun hk => h.dw hk
  refine ⟨fun k => O k ∨ v3.ownBlock = some k, ?_, hch, hO, fun _ h => .inl h⟩
  exact {
    block := by rw [← netCells_set_row sv v3 d bag p]; exact Go.Joins.block_setCell hb3 _
    row := ho.chg hch3 fun k hk e => by rw [e] at hk; exact hv3p hk
    bag := hb
    byt := fun v hv => (hby v hv).chg hch h.di
    ow := fun k hk => .inr hk
    op := .inl h.op
    dw := hv3p
    di := fun k hk hI => by
      rcases hO k hk with h' | h'
      · exact h.di k h' hI
      · have := h.lt k (.inr hI); omega
    lt := fun k hk => by
      have hs := hch.size
      rcases hk with (hk | hk) | hk
      · have := h.lt k (.inl hk); omega
      · have h1 := ho.lt k hk
        have h2 := hch3.size
        omega
      · have := h.lt k (.inr hk); omega }
theorem Step.behind {w w1 w2 : World} {O I O' I' : Nat → Prop} (hA : Chg (fun _ => False) w w1) (h : Step w1 O I w2 O' I') : Step w O I w2 O' I' :=
  ⟨(hA.mono (S' := O) fun _ h => h.elim).then h.1 fun _ h => .inl h, fun k hk => (h.2.1 k hk).imp id fun h => Nat.le_trans hA.size h, fun k hk => (h.2.2 k hk).imp id fun h => Nat.le_trans hA.size h⟩
set_option maxRecDepth 100000 in
set_option maxHeartbeats 1000000 in
theorem put_any {w : World} {O I : Nat → Prop} {p : Nat} {d : Nt} {sv : Value} {vs : List MV} (h : NetP w O I p d sv vs) (m : Msg) (u : Value) (hu : BytesIn I w u m.b) (hl : vs.length ≤ 100000) :
    Calls Try.prog 47 #[.pointer (some ⟨p, 0, none⟩), .agg #[.int .i64 m.fr, .int .i64 m.to, u]] w fun e w' => e = .returned (.tuple #[]) ∧ ∃ O' sv', NetP w' O' I p { d with bag := d.bag ++ [m] } sv' (vs ++ [(m, u)]) ∧ Step w O I w' O' I := by
  obtain ⟨sa, sc, rfl⟩ := h.row.form
  have hone : ∀ z ∈ [((m, u) : MV)].flatMap mc, z.oneCell' = true := fun z hz => by
    simp [mc] at hz
    rcases hz with rfl | rfl | rfl
    · rfl
    · rfl
    · obtain ⟨_, _, rfl, _⟩ := hu.form; rfl
  obtain ⟨W1, hW1⟩ : ∃ W1, W1 = w.alloc (.cells #[.int .i64 m.fr, .int .i64 m.to, u] 49) := ⟨_, rfl⟩
  have hA1 : Chg (fun _ => False) w W1 := by rw [hW1]; exact (Chg.refl _ w).alloc _
  have hA2 : ∀ o, Chg (fun _ => False) w ((W1.drew).alloc o) := fun o => (hA1.drew).alloc o
  have hP1 := h.chg hA1 fun _ h => h.elim
  have q : ∀ r, r < 3 → W1.cell? ⟨w.heap.size, r, none⟩ = (#[.int .i64 m.fr, .int .i64 m.to, u] : Array Value)[r]? := fun r _ => by rw [hW1, World.cell?_alloc_new]
  have q0 := q 0 (by omega)
  have q1 := q 1 (by omega)
  have q2 := q 2 (by omega)
  have c0 := hP1.c0
  have f0 := hP1.fz 0
  have HP : Hid (∀ o, NetP ((W1.drew).alloc o) O I p d (.slice sa vs.length sc) vs) := fun o => h.chg (hA2 o) fun _ h => h.elim
  have HROW : Hid (∀ o, OwnMs ((W1.drew).alloc o) (.slice sa vs.length sc) vs) := fun o => (HP.out o).row
  have HNEWS : Hid (∀ (j : Nat) z, ([((m, u) : MV)].flatMap mc)[j]? = some z → ((W1.drew).alloc (.cells #[.int .i64 m.fr, .int .i64 m.to, u] 49)).cell? ((⟨W1.heap.size, 0, none⟩ : Addr).add j) = some z) := fun j z hj => by
    have hsz : W1.heap.size = W1.drew.heap.size := rfl
    rw [Addr.add_lit, Nat.zero_add, hsz, World.cell?_alloc_new]
    simpa [mc] using hj
  have HONE := Lib.hid hone
  have HSM : Hid (vs.length + [((m, u) : MV)].length ≤ 1000000) := by
    unfold Hid
    simp only [List.length_singleton]
    omega
  have HFIN : Hid (∀ o a3 l3 c3 w3, OwnMs w3 (.slice a3 l3 c3) (vs ++ [(m, u)]) → ((W1.drew).alloc o).grownBy w3 (Value.slice sa vs.length sc).ownBlock → Placed ((W1.drew).alloc o) (.slice sa vs.length sc) (.slice a3 l3 c3) →
      ∃ O' sv', NetP (w3.setCell ⟨p, 0, none⟩ (.slice a3 l3 c3)) O' I p { d with bag := d.bag ++ [m] } sv' (vs ++ [(m, u)]) ∧ Step w O I (w3.setCell ⟨p, 0, none⟩ (.slice a3 l3 c3)) O' I) := fun o a3 l3 c3 w3 h1 h2 h3 => by
    obtain ⟨O', hx, hs⟩ := (HP.out o).rowed (bag := d.bag ++ [m]) h1 ((Chg.refl (fun k => (Value.slice sa vs.length sc).ownBlock = some k) _).grown h2 fun k hk => .inl hk) h3 (by rw [List.map_append, h.bag]; rfl) (fun v hv => by
      rcases List.mem_append.1 hv with hv | hv
      · exact (HP.out o).byt v hv
      · simp at hv
        subst hv
        exact hu.chg (hA2 o) fun _ h => h.elim)
    exact ⟨O', _, hx, hs.behind (hA2 o)⟩
  have HC3 : Hid (∀ o w3, ((W1.drew).alloc o).grownBy w3 (Value.slice sa vs.length sc).ownBlock → w3.cell? ⟨p, 0, none⟩ = some (.slice sa vs.length sc) ∧ w3.frozen? ⟨p, 0, none⟩ = false) := fun o w3 h2 => by
    have hb := ((Chg.refl (fun k => (Value.slice sa vs.length sc).ownBlock = some k) _).grown h2 fun k hk => .inl hk).heap (HP.out o).block (fun hk => h.dw hk)
    exact ⟨by rw [Go.Joins.cell_of_block hb]; rfl, by simp [World.frozen?, hb]⟩
  have c0a : ∀ o, (W1.alloc o).cell? ⟨p, 0, none⟩ = some (.slice sa vs.length sc) := fun o => (HP.out o).c0
  obtain ⟨L, hL⟩ : ∃ L, vs.length = L := ⟨_, rfl⟩
  have HL := Lib.hid hL
  rw [hL] at c0 c0a HP HROW HFIN HC3
  clear h hu hone hA1 hA2 hP1 q hl hL
  go_enter Try.func47, Try.ntmps47
  go_wp2_with fail
  rw [← hW1]
  clear hW1
  go_wp2_with fail
  go_region_law (refine step_append_ms rfl (.tmp 8) (.tmp 10) rfl _ vs [(m, u)] (HROW.out _) ⟨W1.heap.size, 0, none⟩ 1 1 (by simp [Act.eval]) (by simp [Act.eval]) rfl HNEWS.out HONE.out HSM.out ?_; intro a3 l3 c3 w3 ho3 hg3 hp3; have c3' := (HC3.out _ w3 hg3).1; have f3' := (HC3.out _ w3 hg3).2; have HO3 := Lib.hid (HFIN.out _ a3 l3 c3 w3 ho3 hg3 hp3); clear ho3 hg3 hp3)
  all_goals exact bodyPost_end (results_none rfl _ _ _) rfl ⟨rfl, HO3.out⟩
end Go.Proofs.Ytbmebmkpjbgdoaa
