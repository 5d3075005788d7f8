/- take: slices.Delete of one message. -/
import Derived.Test.YtbmebmkpjbgdoaaBag
import Derived.Lib.SliceRun
import Derived.Shelf.RegionOpenPlain
namespace Go.Proofs.Ytbmebmkpjbgdoaa
open Go.RowKit
/-- values laid over a row's cells from a place on -/
def over : Array Value → Nat → List Value → Array Value
  | c, _, [] => c
  | c, o, v :: r => over (c.setIfInBounds o v) (o + 1) r
theorem over_size : ∀ (vs : List Value) (c : Array Value) (o : Nat), (over c o vs).size = c.size
  | [], _, _ => rfl
  | v :: r, c, o => by rw [over, over_size r]; simp
theorem over_get : ∀ (vs : List Value) (c : Array Value) (o j : Nat), o + vs.length ≤ c.size → (over c o vs)[j]? = if o ≤ j ∧ j < o + vs.length then vs[j - o]? else c[j]?
  | [], c, o, j, _ => by
    rw [over, if_neg (by simp)]
  | v :: r, c, o, j, h => by
    simp only [List.length_cons] at h
    rw [over, over_get r _ _ _ (by simp; omega)]
    by_cases h1 : o + 1 ≤ j ∧ j < o + 1 + r.length
    · rw [if_pos h1, if_pos (by simp; omega), show j - o = (j - (o + 1)) + 1 by omega, List.getElem?_cons_succ]
    · rw [if_neg h1]
      by_cases h2 : j = o
      · subst h2
        rw [if_pos (by simp), Array.getElem?_setIfInBounds]
        simp
        omega
      · rw [if_neg (by simp; omega), Array.getElem?_setIfInBounds, if_neg (by omega)]
theorem block_setCells (g : Nat) (t : TypeId) (fr : Nat × Nat) : ∀ (vs : List Value) (o : Nat) (c : Array Value) (w : World), w.heap[g]? = some (.cells c t fr) → (w.setCells g o vs).heap[g]? = some (.cells (over c o vs) t fr)
  | [], _, _, _, h => h
  | v :: r, o, c, w, h => by
    rw [World.setCells, over]
    exact block_setCells g t fr r (o + 1) _ _ (Go.Joins.block_setCell h v)
theorem chg_setCells {S : Nat → Prop} (g : Nat) : ∀ (vs : List Value) (o : Nat) (a w : World), Chg S a w → S g → Chg S a (w.setCells g o vs)
  | [], _, _, _, h, _ => h
  | v :: r, o, a, w, h, hg => by
    rw [World.setCells]
    exact chg_setCells g r (o + 1) a _ (h.setCell (p := ⟨g, o, none⟩) (.inl hg) v) hg
def zcs : List Value := [.int .i64 0, .int .i64 0, .slice none 0 0]
theorem run_clear_one (w : World) (ty : TypeId) (b o c : Nat) (hc : ∀ j, j < 3 → (w.cell? ⟨b, o + j, none⟩).isSome = true ∧ w.frozen? ⟨b, o + j, none⟩ = false) :
    (Builtin.clear_ #[40] ty #[.slice (some ⟨b, o, none⟩) 1 c]).run Try.prog w = .ok (.tuple #[]) (w.setCells b o zcs) := by
  have hst := run_storeCells_cells (P := Try.prog) b o zcs 0 w (fun j hj => by simpa using (hc j hj).1) (fun j hj => by simpa using (hc j hj).2) (by intro v hv; simp [zcs] at hv; rcases hv with rfl | rfl <;> rfl)
  simp only [Nat.add_zero] at hst
  have hzc : (Builtin.zeroCells zMsg.cells 1).toList = zcs := by kernel_rfl
  unfold zMsg at hzc
  simp [Builtin.clear_, run_underlying Try.underlying40, Try.zeroValue49, hzc, hst]
theorem erase_cells (xs : List Value) (cur : Array Value) (L i : Nat) (hi : i < L) (hx : cur.toList.take (L * 3) = xs) (hl : xs.length = L * 3) (hs : L * 3 ≤ cur.size) :
    (over (over cur (i * 3) (xs.drop ((i + 1) * 3))) ((L - 1) * 3) zcs).toList.take ((L - 1) * 3) = xs.take (i * 3) ++ xs.drop ((i + 1) * 3) := by
  have hn : (xs.drop ((i + 1) * 3)).length = (L - 1 - i) * 3 := by simp [hl]; omega
  have hxs : ∀ j, j < L * 3 → cur[j]? = xs[j]? := fun j hj => by
    rw [← hx, List.getElem?_take_of_lt hj, Array.getElem?_toList]
  apply List.ext_getElem?
  intro j
  by_cases hj : j < (L - 1) * 3
  · rw [List.getElem?_take_of_lt hj, Array.getElem?_toList, over_get _ _ _ _ (by rw [over_size]; simp [zcs]; omega), if_neg (by omega), over_get _ _ _ _ (by rw [hn]; omega), hn]
    by_cases h1 : j < i * 3
    · rw [if_neg (by omega), List.getElem?_append_left (by simp; omega), List.getElem?_take_of_lt h1, hxs j (by omega)]
    · rw [if_pos (by omega), List.getElem?_append_right (by simp; omega)]
      congr 1
      simp
      omega
  · rw [List.getElem?_eq_none (by simp; omega), List.getElem?_eq_none (by rw [List.length_append, hn, List.length_take]; omega)]
set_option maxRecDepth 100000 in
set_option maxHeartbeats 1000000 in
theorem delete_any {w : World} {g cap : Nat} {vs : List MV} (h : OwnMs w (.slice (some ⟨g, 0, none⟩) vs.length cap) vs) (hone : ∀ u ∈ vs.flatMap mc, u.oneCell' = true) (i : Nat) (hi : i < vs.length) (hl : vs.length ≤ 100000) :
    Calls Try.prog 50 #[.slice (some ⟨g, 0, none⟩) vs.length cap, .int .i64 (i : Nat), .int .i64 ((i + 1 : Nat) : Int)] w fun e w' => e = .returned (.slice (some ⟨g, 0, none⟩) (vs.length - 1) cap) ∧ OwnMs w' (.slice (some ⟨g, 0, none⟩) (vs.length - 1) cap) (vs.eraseIdx i) ∧ Chg (fun k => k = g) w w' := by
  have hh := h
  rcases h.2 with ⟨h0, _⟩ | ⟨g', cap', cur, hv, hbg, hgc, hnc, hcm, hcs, htake⟩
  · cases h0
  · injection hv with e1 e2 e3
    injection e1 with e1
    injection e1 with e1
    subst e1 e3
    obtain ⟨i0, hi0, hz0, hz1, hz2⟩ := info_parts info49
    obtain ⟨xs, hxs⟩ : ∃ xs, xs = vs.flatMap mc := ⟨_, rfl⟩
    obtain ⟨L, hL⟩ : ∃ L, vs.length = L := ⟨_, rfl⟩
    have hxl : xs.length = L * 3 := by rw [hxs, mc_length, hL]
    rw [hL, ← hxs] at htake
    rw [hL] at hi hl hnc h
    have hmx : cap ≤ 9223372036854775807 := by unfold maxLen at hcm; exact hcm
    have hcell : ∀ j, j < cap * 3 → (w.drew.cell? ⟨g, j, none⟩).isSome = true ∧ w.drew.frozen? ⟨g, j, none⟩ = false := fun j hj => by
      have hb : w.drew.heap[g]? = some (.cells cur 49 (0, 0)) := hgc
      refine ⟨by rw [Go.Joins.cell_of_block hb, Array.getElem?_eq_getElem (by omega)]; rfl, by simp [World.frozen?, hb]⟩
    have hnl : (xs.drop ((i + 1) * 3)).length = (L - (i + 1)) * 3 := by simp [hxl]; omega
    obtain ⟨A, hA, hsrc⟩ : ∃ A : Addr, (if cap = i + 1 then some (⟨g, 0, none⟩ : Addr) else some ⟨g, (i + 1) * 3, none⟩) = some A ∧ Hid (∀ t u, (xs.drop ((i + 1) * 3))[t]? = some u → w.drew.cell? (A.add t) = some u) := by
      by_cases h : cap = i + 1
      · refine ⟨⟨g, 0, none⟩, by simp [h], fun t u hu => ?_⟩
        have := (List.getElem?_eq_some_iff.1 hu).1
        rw [hnl] at this
        omega
      · refine ⟨⟨g, (i + 1) * 3, none⟩, by simp [h], fun t u hu => ?_⟩
        have ht := (List.getElem?_eq_some_iff.1 hu).1
        rw [hnl] at ht
        have hb : w.drew.heap[g]? = some (.cells cur 49 (0, 0)) := hgc
        rw [List.getElem?_drop, ← htake, List.getElem?_take_of_lt (by omega), Array.getElem?_toList] at hu
        rw [Addr.add_lit, Go.Joins.cell_of_block hb, hu]
    have s1 : Hid ((xs.drop ((i + 1) * 3)).length = (L - (i + 1)) * 3) := hnl
    have s2 : Hid (∀ u ∈ xs.drop ((i + 1) * 3), u.oneCell' = true) := fun u hu => hone u (by rw [← hxs]; exact List.mem_of_mem_drop hu)
    have s3 : Hid (∀ t, t < (xs.drop ((i + 1) * 3)).length → (w.drew.cell? ⟨g, 0 + i * 3 + t, none⟩).isSome = true ∧ w.drew.frozen? ⟨g, 0 + i * 3 + t, none⟩ = false) := fun t ht => by
      rw [hnl] at ht
      exact hcell _ (by omega)
    obtain ⟨W1, hW1⟩ : ∃ W1, W1 = w.drew.setCells g (0 + i * 3) (xs.drop ((i + 1) * 3)) := ⟨_, rfl⟩
    have hb1 : W1.heap[g]? = some (.cells (over cur (i * 3) (xs.drop ((i + 1) * 3))) 49 (0, 0)) := by rw [hW1, Nat.zero_add]; exact block_setCells g 49 (0, 0) _ _ _ _ hgc
    have hcl : ∀ ty, (Builtin.clear_ #[40] ty #[.slice (some ⟨g, (L - 1) * 3, none⟩) 1 (cap - (L - 1))]).run Try.prog W1 = .ok (.tuple #[]) (W1.setCells g ((L - 1) * 3) zcs) := fun ty =>
      run_clear_one W1 ty g _ _ fun j hj => ⟨by rw [Go.Joins.cell_of_block hb1, Array.getElem?_eq_getElem (by rw [over_size]; omega)]; rfl, by simp [World.frozen?, hb1]⟩
    have HFIN : Hid (OwnMs (W1.setCells g ((L - 1) * 3) zcs) (.slice (some ⟨g, 0, none⟩) (L - 1) cap) (vs.eraseIdx i) ∧ Chg (fun k => k = g) w (W1.setCells g ((L - 1) * 3) zcs)) := by
      have hel : (vs.eraseIdx i).length = L - 1 := by rw [List.length_eraseIdx, if_pos (by omega)]; omega
      refine ⟨⟨by rw [mc_length], .inr ⟨g, cap, _, by rw [hel], Nat.zero_le _, block_setCells g 49 (0, 0) _ _ _ _ hb1, by omega, hcm, by rw [over_size, over_size]; exact hcs, ?_⟩⟩, chg_setCells g _ _ _ _ (by rw [hW1]; exact chg_setCells g _ _ _ _ (Chg.refl _ w).drew rfl) rfl⟩
      rw [hel, erase_cells xs cur L i hi htake hxl (by omega), List.eraseIdx_eq_take_drop_succ, List.flatMap_append, mc_take, mc_drop, ← hxs]
    have hW : Hid (W1 = w.drew.setCells g (0 + i * 3) (xs.drop ((i + 1) * 3))) := hW1
    rw [hL]
    have hlt1 : L - 1 < cap := by omega
    have hi1 : i ≤ cap := by omega
    have hi2 : i + 1 ≤ cap := by omega
    have hl1 : L - (L - 1) = 1 := by omega
    have hi3 : (0 : Int) ≤ (i : Int) + 1 := by omega
    have hi4 : (i : Int) + 1 ≤ (L : Int) := by omega
    have hic : i + (L - (i + 1)) = L - 1 := by omega
    clear h hh hbg hgc hcm hcs htake hcell hnl hb1 hW1 hxl hxs hone hL
    go_enter Try.func50, Try.ntmps50
    go_wp2_with fail
    go_region_law (refine step_append_room rfl (.tmp 22) (.tmp 25) 40 rfl 49 i0 3 Try.underlying40 hi0 hz1 g 0 i cap (by simp [Act.eval, Act.put]) A (L - (i + 1)) (cap - (i + 1)) _ (by simp [Act.eval, Act.put]) s1.out hsrc.out s2.out (by omega) s3.out ?_; rw [← hW.out])
    go_wp2
    go_ret
    exact ⟨rfl, HFIN.out⟩
theorem NetP.oneCells {w : World} {O I : Nat → Prop} {p : Nat} {d : Nt} {sv : Value} {vs : List MV} (h : NetP w O I p d sv vs) : ∀ u ∈ vs.flatMap mc, u.oneCell' = true := by
  intro u hu
  obtain ⟨v, hv, hu⟩ := List.mem_flatMap.1 hu
  simp only [mc, List.mem_cons, List.not_mem_nil, or_false] at hu
  rcases hu with rfl | rfl | rfl
  · rfl
  · rfl
  · obtain ⟨_, _, e, _⟩ := (h.byt v hv).form; rw [e]; rfl
set_option maxRecDepth 100000 in
set_option maxHeartbeats 1000000 in
theorem take_any {w : World} {O I : Nat → Prop} {p : Nat} {d : Nt} {sv : Value} {vs : List MV} (h : NetP w O I p d sv vs) (i : Nat) (hi : i < vs.length) (hl : vs.length ≤ 100000) :
    Calls Try.prog 30 #[.pointer (some ⟨p, 0, none⟩), .int .i64 (i : Nat)] w fun e w' => e = .returned (.tuple #[]) ∧ ∃ O' sv', NetP w' O' I p { d with bag := d.bag.eraseIdx i } sv' (vs.eraseIdx i) ∧ Step w O I w' O' I := by
  rcases h.row.2 with ⟨rfl, h0⟩ | ⟨g, cap, cur, rfl, hbg, hg, hnc, hcm, hcs, htake⟩
  · omega
  · have c0 := h.c0
    have HD := Lib.hid (delete_any h.row h.oneCells i hi hl)
    have HC3 : Hid (∀ w3, Chg (fun k => k = g) w w3 → w3.cell? ⟨p, 0, none⟩ = some (.slice (some ⟨g, 0, none⟩) vs.length cap) ∧ w3.frozen? ⟨p, 0, none⟩ = false) := fun w3 h2 => by
      have hb := h2.heap h.block (fun hk => h.dw (by rw [hk]; rfl))
      exact ⟨by rw [Go.Joins.cell_of_block hb]; rfl, by simp [World.frozen?, hb]⟩
    have HFIN : Hid (∀ w3, OwnMs w3 (.slice (some ⟨g, 0, none⟩) (vs.length - 1) cap) (vs.eraseIdx i) → Chg (fun k => k = g) w w3 →
        ∃ O' sv', NetP (w3.setCell ⟨p, 0, none⟩ (.slice (some ⟨g, 0, none⟩) (vs.length - 1) cap)) O' I p { d with bag := d.bag.eraseIdx i } sv' (vs.eraseIdx i) ∧ Step w O I (w3.setCell ⟨p, 0, none⟩ (.slice (some ⟨g, 0, none⟩) (vs.length - 1) cap)) O' I) := fun w3 h1 h2 => by
      obtain ⟨O', hx, hs⟩ := h.rowed (bag := d.bag.eraseIdx i) h1 (h2.mono (S' := fun k => (Value.slice (some ⟨g, 0, none⟩) vs.length cap).ownBlock = some k) fun k hk => .inl (by rw [hk]; rfl)) (.inl rfl) (by rw [← h.bag, List.eraseIdx_eq_take_drop_succ, List.eraseIdx_eq_take_drop_succ, List.map_append, List.map_take, List.map_drop]) fun v hv => h.byt v (List.mem_of_mem_eraseIdx hv)
      exact ⟨O', _, hx, hs⟩
    obtain ⟨L, hL⟩ : ∃ L, vs.length = L := ⟨_, rfl⟩
    rw [hL] at c0 HD HC3 HFIN hi hl
    clear h hbg hg hnc hcm hcs htake hL
    go_enter Try.func30, Try.ntmps30
    go_wp2_with (go_at_call 50; refine HD.out.mono ?_; rintro e w3 ⟨rfl, ho3, hc3⟩; have c3' := (HC3.out w3 hc3).1; have f3' := (HC3.out w3 hc3).2; have HO3 := Lib.hid (HFIN.out w3 ho3 hc3); clear ho3 hc3)
    exact bodyPost_end (results_none rfl _ _ _) rfl ⟨rfl, HO3.out⟩
theorem wpList_append_ms {w : World} {ops : Array Oper} {rest : List Oper} {o : Oper} {a : Act} {Q : Exit → Act → World → Prop} (hgd : o.guard = none) (s x : Operand)
    (ho : o.op = .call { callee := .builtin .append, args := #[s, x], argTypes := #[40, 40] }) (v : Value) (vs us : List MV) (hown : OwnMs w v vs) (ad : Addr) (m cap : Nat) (hs : a.eval s = v) (hx : a.eval x = .slice (some ad) m cap) (hm : m = us.length)
    (hnews : ∀ (j : Nat) u, (us.flatMap mc)[j]? = some u → w.cell? (ad.add j) = some u) (hone : ∀ u ∈ us.flatMap mc, u.oneCell' = true) (hsmall : vs.length + us.length ≤ 1000000)
    (h : ∀ v' w', OwnMs w' v' (vs ++ us) → w.grownBy w' v.ownBlock → Placed w v v' → wpList Try.prog ops Q rest (a.put o.dst v') w') : wpList Try.prog ops Q (o :: rest) a w := by
  subst hm
  refine wpList_plain hgd fun K hK => ?_
  obtain ⟨v', w', hr, h2, h3, h4⟩ := run_append_ms w o.type v vs us hown ad cap hnews hone hsmall
  unfold Oper.wp execOp
  simp only [ho, resolve, invoke, builtin, Sem.run_bind, Sem.run_pure, Result.andThen_ok, List.map_toArray, List.map_cons, List.map_nil, hs, hx, hr]
  exact hK _ _ (h v' w' h2 h3 h4)
theorem OwnMs.made (w : World) : OwnMs (w.alloc (.cells #[] 49)) (.slice (some ⟨w.heap.size, 0, none⟩) 0 0) [] :=
  World.ownsRow_made w #[] 0 (Nat.zero_le _) (Nat.zero_le _) rfl
def GivesMs (w : World) (vs : List MV) (e : Ending) (w' : World) : Prop := ∃ v, e = .returned v ∧ OwnMs w' v vs ∧ (∀ k, v.ownBlock = some k → w.heap.size ≤ k) ∧ Below w.heap.size w w'
set_option maxRecDepth 100000 in
theorem msclone_any (v : Value) (vs : List MV) (w : World) (h : OwnMs w v vs) (hone : ∀ u ∈ vs.flatMap mc, u.oneCell' = true) (hl : vs.length ≤ 500000) : Calls Try.prog 48 #[v] w (GivesMs w vs) := by
  rcases h.2 with ⟨rfl, h0⟩ | ⟨g, cap, cur, rfl, hbg, hg, hnc, hcm, hcs, htake⟩
  · have k := fun wx => Lib.run_eql_slice_nil (P := Try.prog) wx 40 49 none 0 0 0 0 Try.underlying40
    obtain rfl : vs = [] := List.eq_nil_of_length_eq_zero h0
    go_enter Try.func48, Try.ntmps48
    go_wp2
    go_ret
    exact ⟨_, rfl, World.ownsRow_nil _ _ _ _, (fun k hk => by simp [Value.ownBlock] at hk), Below.refl _ _⟩
  · have k := fun wx => Lib.run_eql_slice_nil (P := Try.prog) wx 40 49 (some ⟨g, 0, none⟩) vs.length cap 0 0 Try.underlying40
    have HA : Hid (OwnMs (w.alloc (.cells #[] 49)) (.slice (some ⟨w.heap.size, 0, none⟩) 0 0) []) := OwnMs.made w
    have HB : Hid (Below w.heap.size w (w.alloc (.cells #[] 49))) := (Below.refl _ _).alloc (Nat.le_refl _) _
    have HN : Hid (∀ (j : Nat) u, (vs.flatMap mc)[j]? = some u → (w.alloc (.cells #[] 49)).cell? ((⟨g, 0, none⟩ : Addr).add j) = some u) := fun j u hj =>
      World.ownsRow.cells (World.ownsRow.alloc h (.cells #[] 49)) rfl j u hj
    have HO := Lib.hid hone
    clear h hbg hg hcs htake hone
    go_enter Try.func48, Try.ntmps48
    go_wp2_with (at_builtin; refine wpList_append_ms rfl _ _ rfl _ [] vs HA.out ⟨g, 0, none⟩ _ cap rfl rfl rfl HN.out HO.out (by simp; omega) ?_; intro v2 w2 hown2 hgrow2 hpl2; have HO2 : Hid (OwnMs w2 v2 vs) := hown2; have HB2 : Hid (Below w.heap.size w w2) := HB.out.grown hgrow2 HB.out.size (fun k hk => (Nat.le_of_eq (Option.some.inj hk))); have HP2 : Hid (Placed (w.alloc (.cells #[] 49)) (.slice (some ⟨w.heap.size, 0, none⟩) 0 0) v2) := hpl2; clear hown2 hgrow2 hpl2)
    go_ret
    refine ⟨_, rfl, HO2.out, fun k hk => ?_, HB2.out⟩
    rcases HP2.out with h | h
    · have e : v2.ownBlock = some k := hk
      rw [h] at e
      exact Nat.le_of_eq (Option.some.inj e)
    · have := h k hk
      rw [World.size_alloc] at this
      omega
end Go.Proofs.Ytbmebmkpjbgdoaa
