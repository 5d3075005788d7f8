/- The document's Renew. -/
import Derived.Test.YtnfjhpdpeihheaaRenNode
import Derived.Test.YtnfjhpdpeihheaaRefSwap
namespace Go.Proofs.Ytnfjhpdpeihheaa
open Go.RowKit Go.Maps Go.Shelf
theorem renR_ok {bad good row : List PL} (hr : ∀ q ∈ row, q.ok) (hg : ∀ q ∈ good, q.ok) (k : Nat) : ∀ q ∈ renR bad good row k, q.ok := by
  unfold renR
  generalize row.take k = l
  induction l generalizing row with
  | nil => exact hr
  | cons x l ih =>
    rw [List.foldl_cons]
    refine ih ?_
    unfold stepR
    split
    · cases h : replL row x good with
      | none => exact hr
      | some r =>
        obtain ⟨g, hgm, hs⟩ := replL_spec h
        exact swap_ok hs hr (hg g hgm)
    · exact hr
theorem renR_zero (bad good row : List PL) : renR bad good row 0 = row := by unfold renR; rw [List.take_zero]; rfl
theorem lefts_zero (bad good row : List PL) : lefts bad good row 0 = [] := by unfold lefts; rw [List.take_zero]; rfl
theorem lefts_mem {bad good row : List PL} {k : Nat} : ∀ q ∈ lefts bad good row k, q ∈ renR bad good row k := fun _ hq => List.mem_of_mem_take (List.mem_filter.1 hq).1
theorem lefts_len (bad good row : List PL) (k : Nat) : (lefts bad good row k).length ≤ k := by
  unfold lefts
  refine Nat.le_trans (List.length_filter_le _ _) ?_
  rw [List.length_take]
  omega
/-- the row at work, beside what is left -/
structure RenSt (w1 w2 wr : World) (v l : Value) (R LF : List PL) : Prop where
  own : OwnPs w1.heap.size wr v R
  left : OwnPs w2.heap.size wr l LF
  on : On w1 wr
  sz : w2.heap.size ≤ wr.heap.size
theorem RenSt.step {w1 w2 wr w' : World} {v l : Value} {R LF : List PL} (h : RenSt w1 w2 wr v l R LF) (hb : Below wr.heap.size wr w') : RenSt w1 w2 w' v l R LF :=
  ⟨h.own.kept hb (Nat.le_refl _), h.left.kept hb (Nat.le_refl _), h.on.step hb, Nat.le_trans h.sz hb.size⟩
theorem RenSt.put {w1 w2 wr : World} {g E cap : Nat} {l : Value} {R LF : List PL} (h : RenSt w1 w2 wr (.slice (some ⟨g, 0, none⟩) E cap) l R LF) (hE : R.length = E) (hg1 : w1.heap.size ≤ g) (hg2 : g < w2.heap.size) (k : Nat) (y : PL) : RenSt w1 w2 (put2 wr g (k * 2) y) (.slice (some ⟨g, 0, none⟩) E cap) l (R.set k y) LF := by
  have hn : ∀ j, l.ownBlock = some j → j ≠ g := fun j hj => by have := h.left.own j hj; omega
  exact ⟨OwnPs.set hE h.own k y, OwnPs.other (OwnPs.other h.left hn) hn, (Below.setCell (Below.setCell h.on (p := ⟨g, k * 2, none⟩) hg1 _) (p := ⟨g, k * 2 + 1, none⟩) hg1 _), by have := h.sz; simpa [put2, World.setCell] using this⟩
theorem RenSt.grow {w1 w2 wr w' : World} {v l l' : Value} {R LF LF' : List PL} (h : RenSt w1 w2 wr v l R LF) (hv : ∀ k, v.ownBlock = some k → k < w2.heap.size) (h12 : w1.heap.size ≤ w2.heap.size) (ho : OwnPs w2.heap.size w' l' LF') (hg : wr.grownBy w' l.ownBlock) : RenSt w1 w2 w' v l' R LF' :=
  ⟨OwnRow.chg h.own (Chg.grown (S := fun k => l.ownBlock = some k) (Chg.refl _ _) hg (fun k hk => .inl hk)) (fun k hk hS => by have := hv k hk; have := h.left.own k hS; omega), ho,
   Below.grown h.on hg (Nat.le_trans h12 h.sz) (fun k hk => by have := h.left.own k hk; omega), Nat.le_trans h.sz hg.size⟩
theorem PsAt.back {w : World} {b off n cap : Nat} {l : List PL} (h : PsAt w (.slice (some ⟨b, off, none⟩) n cap) l) (k : Nat) (hk : k ≤ n) : PsAt w (.slice (some ⟨b, off + k * 2, none⟩) (n - k) (cap - k)) (l.drop k) := by
  obtain ⟨a, cap', hv, h1, h2, h3, h4⟩ := h
  cases hv
  have hl : (l.drop k).length = l.length - k := List.length_drop
  refine ⟨_, _, by rw [hl], by omega, by omega, (fun h => by cases h), fun h0 => ?_⟩
  obtain ⟨b', off', ha, hb, hc⟩ := h4 (by omega)
  cases ha
  refine ⟨_, _, rfl, hb, fun j x hj => ?_⟩
  rw [List.getElem?_drop] at hj
  obtain ⟨h5, h6⟩ := hc (k + j) x hj
  refine ⟨h5, fun r hr => ?_⟩
  have := h6 r hr
  rw [Nat.add_mul] at this
  rw [show off + k * 2 + j * 2 + r = off + (k * 2 + j * 2) + r by omega]
  exact this
theorem wrap_next {k B : Nat} (h : k < B) (hB : B ≤ 100000) : IntKind.i64.wrap ((k : Int) + 1) = (k : Int) + 1 := by
  first
    | exact (IntWalk.i64_left _).trans (IntWalk.wrap64_in _ (by omega))
    | exact (Go.IntWalk.i64_left _).trans (by unfold wrap64; omega)
    | exact (Go.RowKit.IntWalk.i64_left _).trans (by unfold wrap64; omega)
set_option maxRecDepth 100000 in
set_option maxHeartbeats 8000000 in
theorem rrenew_any (f : Int) (a : Option Addr) (c : Nat) (row : List PL) (n e : Int) (vb vk : Value) (bad known : List PL) (w : World) (hp : PsAt w (.slice a row.length c) row) (hb0 : PsAt w vb bad) (hk0 : PsAt w vk known) (hl : row.length ≤ 100000) (hl2 : bad.length ≤ 100000) (hl3 : known.length ≤ 100000) :
    Calls Try.prog 26 #[.agg #[.int .u64 f, .slice a row.length c], .int .i64 n, .int .i64 e, vb, vk] w fun x w' => ∃ a' c', x = .returned (.tuple #[.agg #[.int .u64 (renewRes f row n e bad known).1, .slice a' (renewRes f row n e bad known).2.1.length c'], .bool (renewRes f row n e bad known).2.2]) ∧ PsAt w' (.slice a' (renewRes f row n e bad known).2.1.length c') (renewRes f row n e bad known).2.1 ∧ Below w.heap.size w w' := by
  have HP := Lib.hid hp
  have HBD := Lib.hid hb0
  have HKN := Lib.hid hk0
  have HPO := Lib.hid hp.ok
  have HKO := Lib.hid hk0.ok
  obtain ⟨ka, kc, rfl, -, -, -⟩ := hk0.form
  obtain ⟨E, hE⟩ : ∃ E, row.length = E := ⟨_, rfl⟩
  obtain ⟨L, hL⟩ : ∃ L, known.length = L := ⟨_, rfl⟩
  rw [hE] at HP hl ⊢
  rw [hL] at HKN hl3 ⊢
  have HE := Lib.hid hE
  have HL := Lib.hid hL
  clear hE hL hp hb0 hk0
  obtain ⟨F', hF'⟩ : ∃ F', (renewRes f row n e bad known).1 = F' := ⟨_, rfl⟩
  obtain ⟨R', hR'⟩ : ∃ R', (renewRes f row n e bad known).2.1 = R' := ⟨_, rfl⟩
  obtain ⟨B', hB'⟩ : ∃ B', (renewRes f row n e bad known).2.2 = B' := ⟨_, rfl⟩
  rw [hF', hR', hB']
  have HF := Lib.hid hF'
  have HR := Lib.hid hR'
  have HBB := Lib.hid hB'
  clear hF' hR' hB'
  obtain ⟨W, hW⟩ : ∃ W, W = (w.alloc (.cells #[.int .u64 f, .slice a E c] 25)).alloc (.cells #[.int .u64 0, .slice none 0 0] 25) := ⟨_, rfl⟩
  have s1 : (w.alloc (.cells #[.int .u64 f, .slice a E c] 25)).heap.size = w.heap.size + 1 := World.size_alloc _ _
  have H0 := Lib.hid (show Below w.heap.size w W ∧ Box25 W w.heap.size f (.slice a E c) ∧ Box25 W (w.heap.size + 1) 0 (.slice none 0 0) from by
    rw [hW]
    refine ⟨((Below.refl _ w).alloc (Nat.le_refl _) _).alloc (by omega) _, (Box25.new w f (.slice a E c)).alloc _, ?_⟩
    have := Box25.new (w.alloc (.cells #[.int .u64 f, .slice a E c] 25)) 0 (.slice none 0 0)
    rw [s1] at this
    exact this)
  have HK0 := Lib.hid (show ∀ W', On W W' → (W'.cell? ⟨w.heap.size, 0, none⟩ = some (.int .u64 f) ∧ W'.cell? ⟨w.heap.size, 1, none⟩ = some (.slice a E c)) ∧ PsAt W' (.slice a E c) row ∧ PsAt W' vb bad ∧ PsAt W' (.slice ka L kc) known ∧ Below w.heap.size w W' from fun W' hb => by
    have hw := H0.out.1.trans (Below.mono hb H0.out.1.size)
    exact ⟨⟨(H0.out.2.1.below hb).c0, (H0.out.2.1.below hb).c1⟩, HP.out.below hw, HBD.out.below hw, HKN.out.below hw, hw⟩)
  go_enter Try.func26, Try.ntmps26
  go_wp2_with fail
  change Code.wp _ _ _ _ ((w.alloc (.cells #[.int .u64 f, .slice a E c] 25)).alloc (.cells #[.int .u64 0, .slice none 0 0] 25))
  rw [← hW]
  clear hW s1
  go_loopw [12, 13] (fun s i wr => ∃ t C : Nat, t ≤ L ∧ i = .int .i64 (t : Nat) ∧ IsSl s C ∧ C ≤ t ∧ Hid ((rej bad.contains (known.take t)).length = C ∧ OwnPs W.heap.size wr s (rej bad.contains (known.take t)) ∧ On W wr)) (fun _ i _ => L - (intOf i).toNat)
  case atStart => exact ⟨0, 0, Nat.zero_le _, rfl, ⟨none, 0, rfl⟩, Nat.le_refl _, ⟨rfl, World.ownsRow_nil _ _ _ _, Below.refl _ _⟩⟩
  case round =>
    obtain ⟨t, C, ht, rfl, ⟨ga, gc, rfl⟩, hCt, HG⟩ := hrel
    by_cases hlt : t < L
    · have hltz : (t : Int) < (L : Int) := by omega
      obtain ⟨x, hx⟩ : ∃ x, known[t]? = some x := ⟨_, List.getElem?_eq_getElem (by rw [HL.out]; exact hlt)⟩
      obtain ⟨kb, ko, rfl, _, _⟩ := PsAt.cell (HK0.out wr HG.out.2.2).2.2.2.1 hx
      have HX := Lib.hid (show ∀ W', On W W' → W'.cell? ⟨kb, ko + t * 2, none⟩ = some (.int .i64 x.n) ∧ W'.cell? ⟨kb, ko + t * 2 + 1, none⟩ = some (.int .u64 x.s) from fun W' hW => by
        obtain ⟨b', o', he, _, hc⟩ := PsAt.cell (HK0.out W' hW).2.2.2.1 hx
        cases he
        exact hc W' (Below.refl _ _))
      obtain ⟨x0, x1⟩ := HX.out wr HG.out.2.2
      have HXO := Lib.hid (HKO.out x (List.mem_of_getElem? hx))
      have HH := Lib.hid (has_any vb bad x wr (HK0.out wr HG.out.2.2).2.2.1 hl2)
      have HSN := Lib.hid (show rej bad.contains (known.take (t + 1)) = if bad.contains x = true then rej bad.contains (known.take t) else rej bad.contains (known.take t) ++ [x] by rw [take_snoc hx, rej_app])
      have HGO := Lib.hid (show ∀ q ∈ rej bad.contains (known.take t), q.ok from rej_ok fun q hq => HKO.out q (List.mem_of_mem_take hq))
      clear hx
      cases hbx : bad.contains x
      · rw [hbx] at HH HSN
        rw [if_neg (by simp)] at HSN
        clear hbx
        go_wp2_with fail
        refine HH.out.mono ?_
        rintro ee w2 ⟨rfl, hb2⟩
        have hon2 := On.step HG.out.2.2 hb2
        clear x0 x1
        obtain ⟨x0, x1⟩ := HX.out w2 hon2
        have HA2 := Lib.hid (show OwnPs W.heap.size (w2.alloc (.cells #[.int .i64 x.n, .int .u64 x.s] 38)) (.slice ga C gc) (rej bad.contains (known.take t)) ∧ PsAt (w2.alloc (.cells #[.int .i64 x.n, .int .u64 x.s] 38)) (.slice (some ⟨w2.heap.size, 0, none⟩) 1 1) [x] ∧ On W (w2.alloc (.cells #[.int .i64 x.n, .int .u64 x.s] 38)) from
          ⟨OwnPs.kept (OwnPs.kept HG.out.2.1 hb2 (Nat.le_refl _)) (Go.Joins.below_alloc1 w2 _) (Nat.le_refl _), ps_one w2 x HXO.out, On.step hon2 (Go.Joins.below_alloc1 w2 _)⟩)
        have HOKS := Lib.hid (show ∀ z ∈ rej bad.contains (known.take t) ++ [x], z.ok from fun z hz => by
          rcases List.mem_append.1 hz with h | h
          · exact HGO.out z h
          · rw [List.mem_singleton] at h; rw [h]; exact HXO.out)
        have HLX := Lib.hid (show (rej bad.contains (known.take t) ++ [x]).length = C + 1 from by rw [List.length_append, HG.out.1]; rfl)
        clear hb2 hon2
        go_wp2_with (at_builtin; refine wpList_append_rows rfl _ _ 23 38 2 16 _ PL.cells rfl Try.underlying23 info38 rfl (by decide) (by decide) (fun _ => rfl) W.heap.size _ _ (rej bad.contains (known.take t)) [x] rfl rfl HA2.out.1 HA2.out.2.1 (ps_oneCell _) (by rw [HG.out.1]; simp only [List.length_cons, List.length_nil]; omega) (Below.size HA2.out.2.2) ?_; intro v3 w3 ho3 hg3; have hbb := Below.grown HA2.out.2.2 hg3 (Below.size HA2.out.2.2) (fun j hj => (HA2.out.1.own j hj)); obtain ⟨va, vc, rfl⟩ := OwnPs.form ho3 HOKS.out; have hlx := HLX.out; rw [hlx] at ho3 ⊢; have H3 := Lib.hid (And.intro ho3 hbb); clear ho3 hg3 hbb hlx)
        go_roundw
        case rel => exact ⟨t + 1, C + 1, by omega, by go_num, ⟨_, _, rfl⟩, by omega, by rw [HSN.out]; exact ⟨HLX.out, H3.out⟩⟩
        case measure => simp [intOf]; omega
      · rw [hbx] at HH HSN
        rw [if_pos rfl] at HSN
        clear hbx
        go_wp2_with fail
        refine HH.out.mono ?_
        rintro ee w2 ⟨rfl, hb2⟩
        have H3 := Lib.hid (And.intro (OwnPs.kept HG.out.2.1 hb2 (Nat.le_refl _)) (On.step HG.out.2.2 hb2))
        clear hb2
        go_wp2
        go_roundw
        case rel => exact ⟨t + 1, C, by omega, by go_num, ⟨_, _, rfl⟩, by omega, by rw [HSN.out]; exact ⟨HG.out.1, H3.out⟩⟩
        case measure => simp [intOf]; omega
    · obtain rfl : t = L := by omega
      rw [take_all HL.out] at HG
      obtain ⟨w1, rfl⟩ : ∃ w1 : World, w1 = wr := ⟨_, rfl⟩
      obtain ⟨good, hgood⟩ : ∃ good, rej bad.contains known = good := ⟨_, rfl⟩
      have HGB := Lib.hid (show ∀ g ∈ good, bad.contains g = false from fun g hg => by
        rw [← hgood] at hg
        have := (List.mem_filter.1 hg).2
        simpa using this)
      have HGO := Lib.hid (show ∀ q ∈ good, q.ok by rw [← hgood]; exact rej_ok HKO.out)
      rw [hgood] at HG
      have HGG := Lib.hid hgood
      have HK1 := Lib.hid (show ∀ W', On w1 W' → On W W' ∧ PsAt W' (.slice ga C gc) good from fun W' hb => ⟨On.step HG.out.2.2 hb, PsAt.below (OwnPs.at HG.out.2.1 HGO.out) hb⟩)
      have HGL := Lib.hid HG.out.1
      have HRO := Lib.hid (fun k => renR_ok (bad := bad) (k := k) HPO.out HGO.out)
      have HRL := Lib.hid (fun k => (renR_len bad good row k).trans HE.out)
      have hC5 : C ≤ 100000 := by omega
      clear hgood HG
      have c1a : ∀ o, (w1.alloc o).cell? ⟨w.heap.size, 1, none⟩ = some (.slice a E c) := fun o => (HK0.out _ (HK1.out _ (Go.Joins.below_alloc1 w1 o)).1).1.2
      have HA := Lib.hid (show OwnPs w1.heap.size (w1.alloc (.cells #[] 38)) (.slice (some ⟨w1.heap.size, 0, none⟩) 0 0) [] ∧ PsAt (w1.alloc (.cells #[] 38)) (.slice a E c) row ∧ On w1 (w1.alloc (.cells #[] 38)) from
        ⟨OwnPs.made w1 w1.heap.size (Nat.le_refl _), (HK0.out _ (HK1.out _ (Go.Joins.below_alloc1 w1 _)).1).2.1, Go.Joins.below_alloc1 w1 _⟩)
      go_wp2_with (at_builtin; refine wpList_append_rows rfl _ _ 23 38 2 16 _ PL.cells rfl Try.underlying23 info38 rfl (by decide) (by decide) (fun _ => rfl) w1.heap.size _ _ [] row rfl rfl HA.out.1 HA.out.2.1 (ps_oneCell _) (by rw [HE.out]; simp only [List.length_nil]; omega) (Below.size HA.out.2.2) ?_; intro v2 w2 ho2 hg2; have hbb := Below.grown HA.out.2.2 hg2 (Below.size HA.out.2.2) (fun j hj => (HA.out.1.own j hj)); obtain ⟨ba, bc, rfl⟩ := OwnPs.form ho2 HPO.out; have hlx := HE.out; rw [List.nil_append, hlx] at ho2 ⊢; have H2 := Lib.hid (And.intro ho2 (show On w1 w2 from hbb)); clear ho2 hg2 hbb hlx)
      have HBK := Lib.hid (show ∀ k, (Value.slice ba E bc).ownBlock = some k → w1.heap.size ≤ k ∧ k < w2.heap.size from fun k hk => OwnRow.lt H2.out.1 k hk)
      have H12 := Lib.hid (show w1.heap.size ≤ w2.heap.size from Below.size H2.out.2)
      clear c1a HA hlt ht
      go_loopw [15, 16, 17] (fun s sm i wr => ∃ (t C2 : Nat) (SM : Bool), t ≤ E ∧ i = .int .i64 (t : Nat) ∧ IsSl s C2 ∧ sm = .bool SM ∧ C2 ≤ t ∧ Hid (SM = !decide (renR bad good row t = row)) ∧ Hid ((lefts bad good row t).length = C2 ∧ RenSt w1 w2 wr (.slice ba E bc) s (renR bad good row t) (lefts bad good row t))) (fun _ _ i _ => E - (intOf i).toNat)
      case atStart => exact ⟨0, 0, false, Nat.zero_le _, rfl, ⟨none, 0, rfl⟩, rfl, Nat.le_refl _, (by unfold Hid; rw [renR_zero]; simp), (by unfold Hid; rw [renR_zero, lefts_zero]; exact ⟨rfl, H2.out.1, World.ownsRow_nil _ _ _ _, H2.out.2, Nat.le_refl _⟩)⟩
      case round =>
        obtain ⟨t2, C2, SM, ht2, rfl, ⟨la, lc, rfl⟩, rfl, hC2, HSM, HS⟩ := hrel
        obtain ⟨wo, rfl⟩ : ∃ wo : World, wo = wr := ⟨_, rfl⟩
        by_cases hlt : t2 < E
        · have hltz : (t2 : Int) < (E : Int) := by omega
          obtain ⟨x, hx⟩ : ∃ x, row[t2]? = some x := ⟨_, List.getElem?_eq_getElem (by rw [HE.out]; exact hlt)⟩
          obtain ⟨pb, po, rfl, _, _⟩ := PsAt.cell (HK0.out wo (HK1.out wo HS.out.2.on).1).2.1 hx
          have HX := Lib.hid (show ∀ W', On w1 W' → (W'.cell? ⟨w.heap.size, 0, none⟩ = some (.int .u64 f) ∧ W'.cell? ⟨w.heap.size, 1, none⟩ = some (.slice (some ⟨pb, po, none⟩) E c)) ∧ W'.cell? ⟨pb, po + t2 * 2, none⟩ = some (.int .i64 x.n) ∧ W'.cell? ⟨pb, po + t2 * 2 + 1, none⟩ = some (.int .u64 x.s) from fun W' hW => by
            have h1 := HK0.out W' (HK1.out W' hW).1
            obtain ⟨b', o', he, _, hc⟩ := PsAt.cell h1.2.1 hx
            cases he
            exact ⟨h1.1, hc W' (Below.refl _ _)⟩)
          obtain ⟨⟨c0, c1⟩, x0, x1⟩ := HX.out wo HS.out.2.on
          have HXO := Lib.hid (HPO.out x (List.mem_of_getElem? hx))
          have HH := Lib.hid (has_any vb bad x wo (HK0.out wo (HK1.out wo HS.out.2.on).1).2.2.1 hl2)
          have HST := Lib.hid (ren_step (bad := bad) hx HGB.out)
          have HRO2 := Lib.hid (HRO.out t2)
          have HRL2 := Lib.hid (HRL.out t2)
          have HLM := Lib.hid (show ∀ q ∈ lefts bad good row t2, q.ok from fun q hq => HRO.out t2 q (lefts_mem q hq))
          obtain ⟨R, hR⟩ : ∃ R, renR bad good row t2 = R := ⟨_, rfl⟩
          obtain ⟨LF, hLF⟩ : ∃ LF, lefts bad good row t2 = LF := ⟨_, rfl⟩
          rw [hR, hLF] at HS HST
          rw [hR] at HSM HRO2 HRL2
          rw [hLF] at HLM
          clear hx hR hLF
          cases hbx : bad.contains x
          · rw [hbx] at HH
            have HN := Lib.hid (HST.out.1 hbx)
            clear hbx
            go_wp2_with fail
            refine HH.out.mono ?_
            rintro ee w3 ⟨rfl, hb3⟩
            have H3 := Lib.hid (HS.out.2.step hb3)
            clear hb3
            go_wp2
            go_roundw
            case rel => exact ⟨t2 + 1, C2, SM, by omega, by go_num, ⟨_, _, rfl⟩, rfl, by omega, (by rw [HN.out.1]; exact HSM.out), (by rw [HN.out.1, HN.out.2]; exact ⟨HS.out.1, H3.out⟩)⟩
            case measure => simp [intOf]; omega
          · rw [hbx] at HH
            have HN := Lib.hid (HST.out.2 hbx)
            obtain ⟨g, cap, hgv, hg1, -, -⟩ := own_place HS.out.2.own HRL2.out (by omega)
            cases hgv
            have hg2 := (HBK.out g rfl).2
            have HGK := Lib.hid (And.intro hg1 hg2)
            clear hbx hg1 hg2 HST
            go_wp2_with fail
            refine HH.out.mono ?_
            rintro ee w3 ⟨rfl, hb3⟩
            have H3 := Lib.hid (HS.out.2.step hb3)
            have hw1 : wrap64 ((E : Int) - 1) = (E : Int) - 1 := by unfold wrap64; omega
            clear hb3 c0 c1 x0 x1
            go_wp2_with fail
            clear hw1
            go_loopw [18, 19] (fun s i wr => ∃ (m : Nat) (A : Int), m ≤ E ∧ i = .int .i64 ((m : Int) - 1) ∧ s = .int .i64 A ∧ -1 ≤ A ∧ A < (E : Int) ∧ Hid ((A = -1 ∧ ∀ j q, m ≤ j → R[j]? = some q → q ≠ x) ∨ ∃ k : Nat, A = k ∧ m ≤ k ∧ R[k]? = some x ∧ ∀ j q, m ≤ j → j < k → R[j]? = some q → q ≠ x) ∧ Hid (RenSt w1 w2 wr (.slice (some ⟨g, 0, none⟩) E bc) (.slice la C2 lc) R LF)) (fun _ i _ => (intOf i + 1).toNat)
            case atStart => exact ⟨E, -1, Nat.le_refl _, rfl, rfl, by omega, by omega, .inl ⟨rfl, fun j q hj hq => by have := (List.getElem?_eq_some_iff.1 hq).1; have := HRL2.out; omega⟩, H3.out⟩
            case round =>
              obtain ⟨m0, A, hm0, rfl, rfl, hA1, hA2, HAF, HB⟩ := hrel
              obtain ⟨⟨c0, c1⟩, x0, x1⟩ := HX.out wr HB.out.on
              by_cases hlm : 0 < m0
              · obtain ⟨m, rfl⟩ : ∃ m, m0 = m + 1 := ⟨m0 - 1, by omega⟩
                have hmE : (m : Int) < (E : Int) := by omega
                have e1 : (((m + 1 : Nat) : Int) - 1) = (m : Int) := by omega
                obtain ⟨q, hq⟩ : ∃ q, R[m]? = some q := ⟨_, List.getElem?_eq_getElem (by rw [HRL2.out]; omega)⟩
                obtain ⟨qb, qo, hqe, _, hc⟩ := PsAt.cell (HB.out.own.at HRO2.out) hq
                cases hqe
                obtain ⟨q0, q1⟩ := hc wr (Below.refl _ _)
                rw [Nat.zero_add] at q0 q1
                have k1 := fun w => eql38 q x w
                have kg := guard38
                have HBDN := Lib.hid (fun n => (show RenSt w1 w2 (wr.drewN n) (.slice (some ⟨g, 0, none⟩) E bc) (.slice la C2 lc) R LF from HB.out.step (drewN_below (Below.refl _ _) n)))
                have HQM := Lib.hid hq
                have hA3 : A < 9223372036854775807 := by omega
                have e2 : wrap64 ((m : Int) - 1) = (m : Int) - 1 := by unfold wrap64; omega
                rw [e1]
                clear hc hq e1
                by_cases hqx : q = x
                · rw [decide_eq_true hqx] at k1
                  dsimp only [PL.val] at k1
                  have HNN := Lib.hid (show ((m : Int) = -1 ∧ ∀ j q, m ≤ j → R[j]? = some q → q ≠ x) ∨ ∃ k : Nat, (m : Int) = k ∧ m ≤ k ∧ R[k]? = some x ∧ ∀ j q, m ≤ j → j < k → R[j]? = some q → q ≠ x from .inr ⟨m, rfl, Nat.le_refl _, by rw [HQM.out, hqx], fun j q h1 h2 => by omega⟩)
                  clear hqx
                  go_wp2_with fail
                  go_quiet (fail)
                  go_wp2
                  go_roundw
                  case rel => exact ⟨m, m, by omega, by go_num, rfl, by omega, by omega, HNN.out, HBDN.out _⟩
                  case measure => simp [intOf]
                · rw [decide_eq_false hqx] at k1
                  dsimp only [PL.val] at k1
                  have HNN := Lib.hid (show (A = -1 ∧ ∀ j q, m ≤ j → R[j]? = some q → q ≠ x) ∨ ∃ k : Nat, A = k ∧ m ≤ k ∧ R[k]? = some x ∧ ∀ j q, m ≤ j → j < k → R[j]? = some q → q ≠ x from by
                    rcases HAF.out with ⟨h1, h2⟩ | ⟨k, h1, h2, h3, h4⟩
                    · refine .inl ⟨h1, fun j z hj hz => ?_⟩
                      rcases Nat.eq_or_lt_of_le hj with h | h
                      · subst h
                        rw [HQM.out] at hz
                        cases hz
                        exact hqx
                      · exact h2 j z h hz
                    · refine .inr ⟨k, h1, by omega, h3, fun j z hj hjk hz => ?_⟩
                      rcases Nat.eq_or_lt_of_le hj with h | h
                      · subst h
                        rw [HQM.out] at hz
                        cases hz
                        exact hqx
                      · exact h4 j z h hjk hz)
                  clear hqx
                  go_wp2_with fail
                  go_quiet (fail)
                  go_wp2
                  go_roundw
                  case rel => exact ⟨m, A, by omega, by go_num, rfl, hA1, hA2, HNN.out, HBDN.out _⟩
                  case measure => simp [intOf]
              · obtain rfl : m0 = 0 := by omega
                have e0 : (((0 : Nat) : Int) - 1) = -1 := rfl
                rw [e0]
                have hcs : ∃ k : Nat, A = k ∧ at? R x = some k := by
                  obtain ⟨k0, hk0, hk1⟩ := HN.out.1
                  rcases HAF.out with ⟨h1, h2⟩ | ⟨k, h1, h2, h3, h4⟩
                  · exact absurd rfl (h2 k0 x (Nat.zero_le _) (at_spec hk0).1)
                  · exact ⟨k, h1, at_first h3 fun j hj e => h4 j x (Nat.zero_le _) hj e rfl⟩
                obtain ⟨k, rfl, hat⟩ := hcs
                have hkE : k < E := by rw [← HRL2.out]; exact at_lt hat
                have hkz : (k : Int) < (E : Int) := by omega
                have HAT := Lib.hid hat
                have hk0 : decide (0 ≤ (k : Int)) = true := by simp
                obtain ⟨w4, rfl⟩ : ∃ w4 : World, w4 = wr := ⟨_, rfl⟩
                clear hat hA1 hA2 hlm HAF hm0 c0 c1 x0 x1
                go_wp2_with fail
                go_loopw [20, 21] (fun d i wr => ∃ (q : Nat) (D : Bool), q ≤ C ∧ i = .int .i64 (q : Nat) ∧ d = .bool D ∧ Hid (D = false → replL R x (good.take q) = none ∧ RenSt w1 w2 wr (.slice (some ⟨g, 0, none⟩) E bc) (.slice la C2 lc) R LF) ∧ Hid (D = true → ∃ r, replL R x good = some r ∧ RenSt w1 w2 wr (.slice (some ⟨g, 0, none⟩) E bc) (.slice la C2 lc) r LF)) (fun _ i _ => C - (intOf i).toNat)
                case atStart => exact ⟨0, false, Nat.zero_le _, rfl, rfl, (fun _ => ⟨by rw [List.take_zero]; rfl, HB.out⟩), (fun h => by cases h)⟩
                case round =>
                  obtain ⟨q, D, hq, rfl, rfl, HD0, HD1⟩ := hrel
                  cases D
                  case true =>
                    obtain ⟨r, hr, hst⟩ := HD1.out rfl
                    have HST := Lib.hid hst
                    have HNR := Lib.hid (HN.out.2.2 r hr)
                    clear hr hst
                    have hqc : (q : Int) < (C : Int) ∨ ¬ (q : Int) < (C : Int) := by omega
                    rcases hqc with hqz | hqz
                    all_goals go_wp2_with fail
                    all_goals go_roundw
                    case rel => exact ⟨t2 + 1, C2, true, by omega, by go_num, ⟨_, _, rfl⟩, rfl, by omega, (by unfold Hid; rw [HNR.out.1, decide_eq_false HNR.out.2.2]; rfl), (by rw [HNR.out.1, HNR.out.2.1]; exact ⟨HS.out.1, HST.out⟩)⟩
                    case measure => simp [intOf]; omega
                    case rel => exact ⟨t2 + 1, C2, true, by omega, by go_num, ⟨_, _, rfl⟩, rfl, by omega, (by unfold Hid; rw [HNR.out.1, decide_eq_false HNR.out.2.2]; rfl), (by rw [HNR.out.1, HNR.out.2.1]; exact ⟨HS.out.1, HST.out⟩)⟩
                    case measure => simp [intOf]; omega
                  case false =>
                    obtain ⟨hrn, hst⟩ := HD0.out rfl
                    have HST := Lib.hid hst
                    have HRN := Lib.hid hrn
                    clear hrn hst HD0 HD1
                    by_cases hqC : q < C
                    · have hqz : (q : Int) < (C : Int) := by omega
                      obtain ⟨y, hy⟩ : ∃ y, good[q]? = some y := ⟨_, List.getElem?_eq_getElem (by rw [HGL.out]; exact hqC)⟩
                      obtain ⟨yb, yo, rfl, _, _⟩ := PsAt.cell (HK1.out wr HST.out.on).2 hy
                      have HY := Lib.hid (show ∀ W', On w1 W' → W'.cell? ⟨yb, yo + q * 2, none⟩ = some (.int .i64 y.n) ∧ W'.cell? ⟨yb, yo + q * 2 + 1, none⟩ = some (.int .u64 y.s) from fun W' hW => by
                        obtain ⟨b', o', he, _, hc⟩ := PsAt.cell (HK1.out W' hW).2 hy
                        cases he
                        exact hc W' (Below.refl _ _))
                      obtain ⟨y0, y1⟩ := HY.out wr HST.out.on
                      have hap := replL_app R x y (good.take q)
                      rw [← take_snoc hy, HRN.out] at hap
                      have HAP := Lib.hid hap
                      have HND := Lib.hid (node_any (.slice (some ⟨g, 0, none⟩) E bc) R y.n (k : Int) (clash R k y.n) wr (HST.out.own.at HRO2.out) (by rw [HRL2.out]; exact hl) (by
                        rw [clash_iff]
                        constructor
                        · rintro ⟨i, z, h1, h2⟩
                          exact ⟨i, z, by omega, h2⟩
                        · rintro ⟨i, z, h1, h2⟩
                          exact ⟨i, z, by omega, h2⟩))
                      clear hy hap
                      cases hcl : clash R k y.n
                      · rw [hcl] at HND
                        have hsw : swapL R x y = some (R.set k y) := by unfold swapL; rw [HAT.out]; simp [hcl]
                        have HRR := Lib.hid (show replL R x good = some (R.set k y) from by
                          have h := HAP.out
                          dsimp only at h
                          rw [hsw] at h
                          have := replL_some_app (m := good.drop (q + 1)) h
                          rw [List.take_append_drop] at this
                          exact this)
                        clear hcl hsw
                        go_wp2_with fail
                        refine HND.out.mono ?_
                        rintro ee w5 ⟨rfl, hb5⟩
                        have hst5 := HST.out.step hb5
                        clear y0 y1
                        obtain ⟨y0, y1⟩ := HY.out w5 hst5.on
                        obtain ⟨⟨z0, d0⟩, ⟨z1, d1⟩, f0, f1⟩ := OwnPs.has HRL2.out hst5.own k hkE
                        have H5 := Lib.hid (hst5.put HRL2.out HGK.out.1 HGK.out.2 k y)
                        clear hb5 hst5
                        go_wp2
                        go_roundw
                        case rel => exact ⟨q + 1, true, by omega, by go_num, rfl, (fun h => by cases h), (fun _ => ⟨_, HRR.out, H5.out⟩)⟩
                        case measure => simp [intOf]; omega
                      · rw [hcl] at HND
                        have hsw : swapL R x y = none := by unfold swapL; rw [HAT.out]; simp [hcl]
                        have HRR := Lib.hid (show replL R x (good.take (q + 1)) = none from by
                          have h := HAP.out
                          dsimp only at h
                          rw [hsw] at h
                          exact h)
                        clear hcl hsw
                        go_wp2_with fail
                        refine HND.out.mono ?_
                        rintro ee w5 ⟨rfl, hb5⟩
                        have H5 := Lib.hid (HST.out.step hb5)
                        clear hb5
                        go_wp2
                        go_roundw
                        case rel => exact ⟨q + 1, false, by omega, by go_num, rfl, (fun _ => ⟨HRR.out, H5.out⟩), (fun h => by cases h)⟩
                        case measure => simp [intOf]; omega
                    · obtain rfl : q = C := by omega
                      rw [take_all HGL.out] at HRN
                      have HNR := Lib.hid (HN.out.2.1 HRN.out)
                      obtain ⟨⟨c0, c1⟩, x0, x1⟩ := HX.out wr HST.out.on
                      have HA2 := Lib.hid (show RenSt w1 w2 (wr.alloc (.cells #[.int .i64 x.n, .int .u64 x.s] 38)) (.slice (some ⟨g, 0, none⟩) E bc) (.slice la C2 lc) R LF ∧ PsAt (wr.alloc (.cells #[.int .i64 x.n, .int .u64 x.s] 38)) (.slice (some ⟨wr.heap.size, 0, none⟩) 1 1) [x] from
                        ⟨HST.out.step (Go.Joins.below_alloc1 wr _), ps_one wr x HXO.out⟩)
                      have HOKS := Lib.hid (show ∀ z ∈ LF ++ [x], z.ok from fun z hz => by
                        rcases List.mem_append.1 hz with h | h
                        · exact HLM.out z h
                        · rw [List.mem_singleton] at h; rw [h]; exact HXO.out)
                      have HLX := Lib.hid (show (LF ++ [x]).length = C2 + 1 from by rw [List.length_append, HS.out.1]; rfl)
                      have HSZ := Lib.hid HS.out.1
                      clear hqC
                      go_wp2_with (at_builtin; refine wpList_append_rows rfl _ _ 23 38 2 16 _ PL.cells rfl Try.underlying23 info38 rfl (by decide) (by decide) (fun _ => rfl) w2.heap.size _ _ LF [x] rfl rfl HA2.out.1.left HA2.out.2 (ps_oneCell _) (by rw [HSZ.out]; simp only [List.length_cons, List.length_nil]; omega) HA2.out.1.sz ?_; intro v6 w6 ho6 hg6; have hst6 := HA2.out.1.grow (fun k hk => (HBK.out k hk).2) H12.out ho6 hg6; obtain ⟨va, vc, rfl⟩ := OwnPs.form ho6 HOKS.out; have hlx := HLX.out; rw [hlx] at hst6 ⊢; have H6 := Lib.hid hst6; clear ho6 hg6 hst6 hlx)
                      go_roundw
                      case rel => exact ⟨t2 + 1, C2 + 1, SM, by omega, by go_num, ⟨_, _, rfl⟩, rfl, by omega, (by rw [HNR.out.1]; exact HSM.out), (by rw [HNR.out.1, HNR.out.2]; exact ⟨HLX.out, H6.out⟩)⟩
                      case measure => simp [intOf]; omega
        · obtain rfl : t2 = E := by omega
          have HLQ := Lib.hid (show lefts bad good row t2 = (renR bad good row t2).filter bad.contains by unfold lefts; rw [take_all (HRL.out t2)])
          have HRES := Lib.hid (show renewRes f row n e bad known = if leaveL bad.contains n (renR bad good row t2) = row then (0, [], false) else (f, ext (leaveL bad.contains n (renR bad good row t2)) (min e 5) good, true) by unfold renewRes; rw [HGG.out, HE.out])
          have HRO2 := Lib.hid (HRO.out t2)
          have HRL2 := Lib.hid (HRL.out t2)
          have HLM := Lib.hid (show ∀ q ∈ lefts bad good row t2, q.ok from fun q hq => HRO.out t2 q (lefts_mem q hq))
          obtain ⟨R, hR⟩ : ∃ R, renR bad good row t2 = R := ⟨_, rfl⟩
          obtain ⟨LF, hLF⟩ : ∃ LF, lefts bad good row t2 = LF := ⟨_, rfl⟩
          rw [hR, hLF] at HS HLQ
          rw [hR] at HSM HRO2 HRL2 HRES
          rw [hLF] at HLM
          clear hR hLF
          have HSC := Lib.hid HS.out.1
          have HCU := Lib.hid (show cuts n LF R C2 = leaveL bad.contains n R by
            unfold cuts
            rw [take_all HSC.out, HLQ.out]
            exact cuts_leaveL _ _ _)
          rw [← HCU.out] at HRES
          have HCO := Lib.hid (fun k (q : PL) (hq : q ∈ cuts n LF R k) => HRO2.out q (cuts_mem q hq))
          have HCL := Lib.hid (show ∀ k, (cuts n LF R k).length ≤ t2 from fun k => by have := cuts_len n LF R k; have := HRL2.out; omega)
          have HK5 := Lib.hid (show ∀ W', On wo W' → On w1 W' ∧ PsAt W' (.slice la C2 lc) LF from fun W' hb => ⟨On.step HS.out.2.on hb, PsAt.below (OwnPs.at HS.out.2.left HLM.out) hb⟩)
          have HS1 := Lib.hid HS.out.2.own
          obtain ⟨c0, c1⟩ := (HK0.out wo (HK1.out wo HS.out.2.on).1).1
          clear hlt HLQ HCU
          go_wp2_with fail
          clear c0 c1
          go_loopw [14, 16, 22] (fun b sm i wr => ∃ (q B : Nat) (SM : Bool), q ≤ C2 ∧ i = .int .i64 (q : Nat) ∧ IsSl b B ∧ sm = .bool SM ∧ B ≤ t2 ∧ Hid (SM = !decide (cuts n LF R q = row)) ∧ Hid ((cuts n LF R q).length = B ∧ OwnPs w1.heap.size wr b (cuts n LF R q) ∧ On wo wr)) (fun _ _ i _ => C2 - (intOf i).toNat)
          case atStart => exact ⟨0, t2, SM, Nat.zero_le _, rfl, ⟨_, _, rfl⟩, rfl, Nat.le_refl _, (by rw [cuts_zero]; exact HSM.out), (by rw [cuts_zero]; exact ⟨HRL2.out, HS1.out, Below.refl _ _⟩)⟩
          case round =>
            obtain ⟨q, B, SM2, hq, rfl, ⟨sa, sc, rfl⟩, rfl, hB, HSM2, HT⟩ := hrel
            obtain ⟨wm, rfl⟩ : ∃ wm : World, wm = wr := ⟨_, rfl⟩
            by_cases hqC : q < C2
            · have hqz : (q : Int) < (C2 : Int) := by omega
              obtain ⟨x, hx⟩ : ∃ x, LF[q]? = some x := ⟨_, List.getElem?_eq_getElem (by rw [HSC.out]; exact hqC)⟩
              obtain ⟨lb, lo, rfl, _, _⟩ := PsAt.cell (HK5.out wm HT.out.2.2).2 hx
              have HX := Lib.hid (show ∀ W', On wo W' → W'.cell? ⟨lb, lo + q * 2, none⟩ = some (.int .i64 x.n) ∧ W'.cell? ⟨lb, lo + q * 2 + 1, none⟩ = some (.int .u64 x.s) from fun W' hW => by
                obtain ⟨b', o', he, _, hc⟩ := PsAt.cell (HK5.out W' hW).2 hx
                cases he
                exact hc W' (Below.refl _ _))
              have HCS := Lib.hid (cuts_succ (w := n) (b := R) hx)
              have HSO := Lib.hid (HCO.out q)
              have HL1 := Lib.hid (HCL.out (q + 1))
              have HL0 := Lib.hid (HCL.out q)
              obtain ⟨S, hS⟩ : ∃ S, cuts n LF R q = S := ⟨_, rfl⟩
              rw [hS] at HT HSM2 HCS HSO HL0
              have HSB := Lib.hid HT.out.1
              have HTK := Lib.hid (show ∀ W', On wm W' → OwnPs w1.heap.size W' (.slice sa B sc) S ∧ On wo W' from fun W' hb => ⟨HT.out.2.1.kept hb (Nat.le_refl _), On.step HT.out.2.2 hb⟩)
              have HSK := Lib.hid (show cut1 n S x = S → cuts n LF R (q + 1) = S from fun h => by rw [HCS.out, h])
              clear hx hS
              go_wp2_with fail
              go_loopw [14, 16, 23] (fun b sm i wr => ∃ k : Nat, b = .slice sa B sc ∧ sm = .bool SM2 ∧ k ≤ B ∧ i = .int .i64 (k : Nat) ∧ Hid ((S.take k).contains x = false) ∧ Hid (On wm wr)) (fun _ _ i _ => B - (intOf i).toNat)
              case atStart => exact ⟨0, rfl, rfl, Nat.zero_le _, rfl, (by unfold Hid; simp), Below.refl _ _⟩
              case round =>
                obtain ⟨k, rfl, rfl, hk, rfl, HNC, HW⟩ := hrel
                by_cases hkB : k < B
                · have hkz : (k : Int) < (B : Int) := by omega
                  by_cases hnB : n < (B : Int)
                  · obtain ⟨y, hy⟩ : ∃ y, S[k]? = some y := ⟨_, List.getElem?_eq_getElem (by rw [HSB.out]; exact hkB)⟩
                    obtain ⟨b, off, rfl, _, hc⟩ := PsAt.cell ((HTK.out wr HW.out).1.at HSO.out) hy
                    obtain ⟨y0, y1⟩ := hc wr (Below.refl _ _)
                    obtain ⟨x0, x1⟩ := HX.out wr (HTK.out wr HW.out).2
                    have k1 := fun w => eql38 y x w
                    have kg := guard38
                    have HBN := Lib.hid (fun m => (show On wm (wr.drewN m) from drewN_below HW.out m))
                    have HYM := Lib.hid hy
                    have HCT := Lib.hid (contains_snoc (x := x) hy)
                    have HYC := Lib.hid (show ∀ W', On wm W' → W'.cell? ⟨b, off + k * 2, none⟩ = some (.int .i64 y.n) ∧ W'.cell? ⟨b, off + k * 2 + 1, none⟩ = some (.int .u64 y.s) from fun W' hb => by
                      obtain ⟨b', o', he, _, hc'⟩ := PsAt.cell ((HTK.out W' hb).1.at HSO.out) hy
                      cases he
                      exact hc' W' (Below.refl _ _))
                    clear hc hy
                    by_cases hyx : y = x
                    · rw [decide_eq_true hyx] at k1
                      dsimp only [PL.val] at k1
                      subst hyx
                      have hce : cut1 n S y = S.take k ++ S.drop (k + 1) := by
                        unfold cut1
                        rw [if_pos (by rw [HSB.out]; exact hnB), erase_at HYM.out HNC.out]
                      have HCE := Lib.hid (show cuts n LF R (q + 1) = S.take k ++ S.drop (k + 1) by rw [HCS.out, hce])
                      have HLN := Lib.hid (show (S.take k ++ S.drop (k + 1)).length = B - 1 by
                        rw [List.length_append, List.length_take, List.length_drop, HSB.out]; omega)
                      have HNR := Lib.hid (show true = !decide (cuts n LF R (q + 1) = row) by
                        rw [HCE.out, decide_eq_false (fun h => ?_)]
                        · rfl
                        · have h1 := congrArg List.length h
                          rw [HLN.out, HE.out] at h1
                          omega)
                      have HOKD := Lib.hid (show ∀ z ∈ S.take k ++ S.drop (k + 1), z.ok from fun z hz => by
                        rcases List.mem_append.1 hz with h | h
                        · exact HSO.out z (List.mem_of_mem_take h)
                        · exact HSO.out z (List.mem_of_mem_drop h))
                      have hB1 : 1 ≤ B := by omega
                      have HSC2 := Lib.hid (show B ≤ sc from by
                        obtain ⟨_, _, hv, _, h2, _⟩ := (HTK.out wr HW.out).1.at HSO.out
                        cases hv
                        rw [HSB.out] at h2
                        exact h2)
                      have HKE := Lib.hid (show ∀ W', On wm W' → PsAt W' (.slice (some ⟨b, off, none⟩) k sc) (S.take k) ∧ PsAt W' (.slice (some ⟨b, off + (k + 1) * 2, none⟩) (B - (k + 1)) (sc - (k + 1))) (S.drop (k + 1)) from fun W' hb => by
                        have h := (HTK.out W' hb).1.at HSO.out
                        exact ⟨PsAt.front h (by rw [HSB.out]; omega), PsAt.back h (k + 1) (by omega)⟩)
                      clear k1 y0 y1 x0 x1
                      have k1 := fun w => eql38 y y w
                      rw [decide_eq_true rfl] at k1
                      dsimp only [PL.val] at k1
                      obtain ⟨y0, y1⟩ := HYC.out wr HW.out
                      obtain ⟨x0, x1⟩ := HX.out wr (HTK.out wr HW.out).2
                      clear HCT HYM hce
                      obtain ⟨T1, hT1⟩ : ∃ T1, S.take k = T1 := ⟨_, rfl⟩
                      obtain ⟨D1, hD1⟩ : ∃ D1, S.drop (k + 1) = D1 := ⟨_, rfl⟩
                      have HD0 := Lib.hid (show B = k + 1 → D1 = [] from fun h => by rw [← hD1]; exact List.drop_of_length_le (by rw [HSB.out]; omega))
                      have HSM := Lib.hid (show ([] : List PL).length + T1.length ≤ 1000000 ∧ ([] ++ T1).length + D1.length ≤ 1000000 from by
                        rw [List.nil_append, ← hT1, ← hD1, List.length_take, List.length_drop, HSB.out]
                        simp only [List.length_nil]
                        omega)
                      rw [hT1] at HKE
                      rw [hD1] at HKE
                      rw [hT1, hD1] at HCE HLN HOKD
                      clear hT1 hD1
                      have HA := Lib.hid (fun m o => (show On wm ((wr.drewN m).drew.alloc o) from On.step (HBN.out m) ((Below.drew (Below.refl _ (wr.drewN m))).alloc (Nat.le_refl _) o)))
                      have HM1 := Lib.hid (fun m => (show OwnPs wr.heap.size ((wr.drewN m).drew.alloc (.cells #[] 38)) (.slice (some ⟨wr.heap.size, 0, none⟩) 0 0) [] from OwnPs.made (wr.drewN m).drew wr.heap.size (Nat.le_refl _)))
                      have HSZ := Lib.hid (fun m o => (show wr.heap.size ≤ ((wr.drewN m).drew.alloc o).heap.size from by rw [World.size_alloc]; exact Nat.le_succ _))
                      have HWS := Lib.hid (Below.size HW.out)
                      have HW1 := Lib.hid (show w1.heap.size ≤ wr.heap.size from Below.size (HK5.out wr (HTK.out wr HW.out).2).1)
                      have HWO := Lib.hid (show On wo wm from HT.out.2.2)
                      have hs2 : (k : Int) ≤ (sc : Int) := by have := HSC2.out; omega
                      have hs3 : (k : Int) + 1 ≤ (B : Int) := by omega
                      have hs4 : (k : Int) + 1 ≤ (sc : Int) := by have := HSC2.out; omega
                      have hs5 : (0 : Int) ≤ (k : Int) + 1 := by omega
                      have hs6 : k + 1 ≤ sc := by have := HSC2.out; omega
                      have hs7 : k + 1 ≤ B := by omega
                      obtain ⟨UV, hUV⟩ : ∃ UV : Value, UV = if sc = k + 1 then .slice (some ⟨b, off, none⟩) 0 0 else .slice (some ⟨b, off + (k + 1) * 2, none⟩) (B - (k + 1)) (sc - (k + 1)) := ⟨_, rfl⟩
                      have HDU := Lib.hid (show ∀ W', On wm W' → PsAt W' UV D1 from fun W' hb => by
                        rw [hUV]
                        split
                        · rename_i h
                          rw [HD0.out (by have := HSC2.out; omega)]
                          exact ⟨some ⟨b, off, none⟩, 0, rfl, Nat.zero_le _, Nat.zero_le _, (fun h => by cases h), fun h => absurd h (Nat.lt_irrefl 0)⟩
                        · exact (HKE.out W' hb).2)
                      have HUV := Lib.hid hUV
                      clear hUV
                      go_wp2_with fail
                      go_quiet (fail)
                      have hsk : sc = k + 1 ∨ ¬ sc = k + 1 := by omega
                      rcases hsk with hsk | hsk
                      · have hUV := HUV.out
                        rw [if_pos hsk] at hUV
                        obtain rfl : B = k + 1 := by have := HSC2.out; omega
                        subst hsk
                        subst hUV
                        clear HUV
                        go_wp2_with fail
                        have hww := wrap_next (Nat.lt_of_lt_of_le (Nat.lt_succ_self k) hs7) (Nat.le_trans hB (show t2 ≤ 100000 from by omega))
                        have hs8 : (k : Int) ≤ (k : Int) + 1 := by omega
                        go_region_law (first
                          | (refine step_append_ps rfl (.tmp 148) (.tmp 151) rfl wr.heap.size _ (.slice (some ⟨b, off, none⟩) k _) [] T1 (HM1.out _) (HKE.out _ (HA.out _ _)).1 (by simp [Act.eval]) (by simp [Act.eval]) HSM.out.1 (HSZ.out _ _) ?_; intro v3 w3 ho3 hg3; have b3 := Below.grown (HA.out _ _) hg3 (Nat.le_trans HWS.out (HSZ.out _ _)) (fun j hj => Nat.le_trans HWS.out (OwnPs.own (HM1.out 0) j hj)); have HB3 := Lib.hid (show On wm w3 from b3); have HO3 := Lib.hid ho3; have HZ3 := Lib.hid (Nat.le_trans (HSZ.out _ _) hg3.size); clear ho3 hg3 b3)
                          | (refine step_append_ps rfl (.tmp 152) (.tmp 156) rfl wr.heap.size v3 _ ([] ++ T1) D1 HO3.out (HDU.out _ HB3.out) (by simp [Act.eval]) (by simp [Act.eval]) HSM.out.2 HZ3.out ?_; intro v5 w5 ho5 hg5; have b5 := Below.grown HB3.out hg5 (Nat.le_trans HWS.out HZ3.out) (fun j hj => Nat.le_trans HWS.out (OwnPs.own HO3.out j hj)); obtain ⟨va, vc, hv5⟩ := OwnPs.form (show OwnPs wr.heap.size w5 v5 (T1 ++ D1) from ho5) HOKD.out; rw [HLN.out] at hv5; subst hv5; have HX5 := Lib.hid (show OwnPs w1.heap.size w5 (.slice va _ vc) (T1 ++ D1) ∧ On wo w5 from ⟨OwnPs.base_le ho5 HW1.out, On.step HWO.out b5⟩); clear ho5 hg5 b5))
                        all_goals go_wp2
                        all_goals go_roundw
                        all_goals (first | exact ⟨q + 1, _, true, by omega, by go_num, ⟨_, _, rfl⟩, rfl, by omega, HNR.out, by rw [HCE.out]; exact ⟨HLN.out, HX5.out⟩⟩ | (simp [intOf]; omega))
                      · have hUV := HUV.out
                        rw [if_neg hsk] at hUV
                        subst hUV
                        clear HUV
                        go_wp2_with fail
                        have hww := wrap_next (Nat.lt_of_lt_of_le (Nat.lt_succ_self k) hs7) (Nat.le_trans hB (show t2 ≤ 100000 from by omega))
                        have hs8 : (k : Int) ≤ (k : Int) + 1 := by omega
                        go_region_law (first
                          | (refine step_append_ps rfl (.tmp 148) (.tmp 151) rfl wr.heap.size _ (.slice (some ⟨b, off, none⟩) k _) [] T1 (HM1.out _) (HKE.out _ (HA.out _ _)).1 (by simp [Act.eval]) (by simp [Act.eval]) HSM.out.1 (HSZ.out _ _) ?_; intro v3 w3 ho3 hg3; have b3 := Below.grown (HA.out _ _) hg3 (Nat.le_trans HWS.out (HSZ.out _ _)) (fun j hj => Nat.le_trans HWS.out (OwnPs.own (HM1.out 0) j hj)); have HB3 := Lib.hid (show On wm w3 from b3); have HO3 := Lib.hid ho3; have HZ3 := Lib.hid (Nat.le_trans (HSZ.out _ _) hg3.size); clear ho3 hg3 b3)
                          | (refine step_append_ps rfl (.tmp 152) (.tmp 156) rfl wr.heap.size v3 _ ([] ++ T1) D1 HO3.out (HDU.out _ HB3.out) (by simp [Act.eval]) (by simp [Act.eval]) HSM.out.2 HZ3.out ?_; intro v5 w5 ho5 hg5; have b5 := Below.grown HB3.out hg5 (Nat.le_trans HWS.out HZ3.out) (fun j hj => Nat.le_trans HWS.out (OwnPs.own HO3.out j hj)); obtain ⟨va, vc, hv5⟩ := OwnPs.form (show OwnPs wr.heap.size w5 v5 (T1 ++ D1) from ho5) HOKD.out; rw [HLN.out] at hv5; subst hv5; have HX5 := Lib.hid (show OwnPs w1.heap.size w5 (.slice va _ vc) (T1 ++ D1) ∧ On wo w5 from ⟨OwnPs.base_le ho5 HW1.out, On.step HWO.out b5⟩); clear ho5 hg5 b5))
                        all_goals go_wp2
                        all_goals go_roundw
                        all_goals (first | exact ⟨q + 1, _, true, by omega, by go_num, ⟨_, _, rfl⟩, rfl, by omega, HNR.out, by rw [HCE.out]; exact ⟨HLN.out, HX5.out⟩⟩ | (simp [intOf]; omega))
                    · rw [decide_eq_false hyx] at k1
                      dsimp only [PL.val] at k1
                      have HN2 := Lib.hid (show (S.take (k + 1)).contains x = false by
                        rw [HCT.out, HNC.out, decide_eq_false (fun h => hyx h.symm)]; rfl)
                      clear hyx
                      go_wp2_with fail
                      go_quiet (fail)
                      go_wp2
                      go_roundw
                      case rel => exact ⟨k + 1, rfl, rfl, by omega, by go_num, HN2.out, HBN.out _⟩
                      case measure => simp [intOf]; omega
                  · have hnd : decide (n < (B : Int)) = false := decide_eq_false hnB
                    have HCE := Lib.hid (HSK.out (by unfold cut1; rw [if_neg (by rw [HSB.out]; exact hnB)]))
                    have HTT := Lib.hid (HTK.out wr HW.out)
                    clear hnB
                    go_wp2
                    go_roundw
                    case rel => exact ⟨q + 1, B, SM2, by omega, by go_num, ⟨_, _, rfl⟩, rfl, hB, (by rw [HCE.out]; exact HSM2.out), (by rw [HCE.out]; exact ⟨HSB.out, HTT.out⟩)⟩
                    case measure => simp [intOf]; omega
                · obtain rfl : k = B := by omega
                  have HCE := Lib.hid (HSK.out (by
                    have h := HNC.out
                    rw [take_all HSB.out] at h
                    unfold cut1
                    rw [erase_none h]
                    split <;> rfl))
                  have HTT := Lib.hid (HTK.out wr HW.out)
                  clear hkB
                  go_wp2
                  go_roundw
                  case rel => exact ⟨q + 1, k, SM2, by omega, by go_num, ⟨_, _, rfl⟩, rfl, hB, (by rw [HCE.out]; exact HSM2.out), (by rw [HCE.out]; exact ⟨HSB.out, HTT.out⟩)⟩
                  case measure => simp [intOf]; omega
            · obtain rfl : q = C2 := by omega
              have HSO := Lib.hid (HCO.out q)
              have HL0 := Lib.hid (HCL.out q)
              obtain ⟨S, hS⟩ : ∃ S, cuts n LF R q = S := ⟨_, rfl⟩
              rw [hS] at HT HSM2 HRES HSO HL0
              have HOW := Lib.hid (show On w1 wm from (HK5.out wm HT.out.2.2).1)
              have HTO := Lib.hid HT.out.2.1
              have HSB := Lib.hid HT.out.1
              have HLT := Lib.hid (show w.heap.size + 1 < w1.heap.size from Nat.lt_of_lt_of_le (lt_of_block H0.out.2.2) (Below.size (HK1.out w1 (Below.refl _ _)).1))
              have HBX := Lib.hid (show ∀ W', On w1 W' → Box25 W' (w.heap.size + 1) 0 (.slice none 0 0) ∧ Below w.heap.size w W' from fun W' hb => ⟨H0.out.2.2.below (HK1.out W' hb).1, (HK0.out W' (HK1.out W' hb).1).2.2.2.2⟩)
              clear hS hqC HT
              by_cases hSr : S = row
              · obtain rfl : SM2 = false := by rw [HSM2.out, decide_eq_true hSr]; rfl
                have HFR := Lib.hid (show F' = 0 ∧ R' = [] ∧ B' = false from by
                  have := HRES.out
                  rw [if_pos hSr] at this
                  rw [← HF.out, ← HR.out, ← HBB.out, this]
                  exact ⟨rfl, rfl, rfl⟩)
                obtain ⟨hbx, hbw⟩ := HBX.out wm HOW.out
                have r0 := hbx.c0
                have r1 := hbx.c1
                have rf := hbx.fz
                have HXX := Lib.hid (And.intro (hbx.put 0 (.slice none 0 0)) ((hbw.setCell (p := ⟨w.heap.size + 1, 0, none⟩) (by show w.heap.size ≤ w.heap.size + 1; omega) (.int .u64 0)).setCell (p := ⟨w.heap.size + 1, 1, none⟩) (by show w.heap.size ≤ w.heap.size + 1; omega) (.slice none 0 0)))
                clear hSr hbx hbw
                go_wp2
                refine bodyPost_ret (results_frag rfl _ _ (w.heap.size + 1) _ _ (0, 0) rfl HXX.out.1) rfl ?_
                obtain ⟨rfl, rfl, rfl⟩ := HFR.out
                exact ⟨_, _, rfl, PsAt.nil _, HXX.out.2⟩
              · obtain rfl : SM2 = true := by rw [HSM2.out, decide_eq_false hSr]; rfl
                have HFR := Lib.hid (show F' = f ∧ R' = ext S (min e 5) good ∧ B' = true from by
                  have := HRES.out
                  rw [if_neg hSr] at this
                  rw [← HF.out, ← HR.out, ← HBB.out, this]
                  exact ⟨rfl, rfl, rfl⟩)
                have HXO := Lib.hid (show ∀ k, ∀ z ∈ ext S (min e 5) (good.take k), z.ok from fun k z hz => by
                  rcases ext_mem z hz with h | h
                  · exact HSO.out z h
                  · exact HGO.out z (List.mem_of_mem_take h))
                have HXL := Lib.hid (show ∀ k, k ≤ C → (ext S (min e 5) (good.take k)).length ≤ 200000 from fun k hk => by
                  have := ext_len S (min e 5) (good.take k)
                  have := List.length_take (i := k) (l := good)
                  have := HSB.out
                  have := HGL.out
                  omega)
                clear hSr
                go_wp2_with fail
                go_loopw [14, 24] (fun b i wr => ∃ (k D : Nat), k ≤ C ∧ i = .int .i64 (k : Nat) ∧ IsSl b D ∧ Hid ((ext S (min e 5) (good.take k)).length = D ∧ OwnPs w1.heap.size wr b (ext S (min e 5) (good.take k)) ∧ On w1 wr)) (fun _ i _ => C - (intOf i).toNat)
                case atStart => exact ⟨0, B, Nat.zero_le _, rfl, ⟨_, _, rfl⟩, (by rw [List.take_zero, ext_nil]; exact ⟨HSB.out, HTO.out, HOW.out⟩)⟩
                case round =>
                  obtain ⟨k, D, hk, rfl, ⟨sa, sc, rfl⟩, HT⟩ := hrel
                  by_cases hkC : k < C
                  · have hkz : (k : Int) < (C : Int) := by omega
                    obtain ⟨x, hx⟩ : ∃ x, good[k]? = some x := ⟨_, List.getElem?_eq_getElem (by rw [HGL.out]; exact hkC)⟩
                    obtain ⟨yb, yo, rfl, _, _⟩ := PsAt.cell (HK1.out wr HT.out.2.2).2 hx
                    have HX := Lib.hid (show ∀ W', On w1 W' → W'.cell? ⟨yb, yo + k * 2, none⟩ = some (.int .i64 x.n) ∧ W'.cell? ⟨yb, yo + k * 2 + 1, none⟩ = some (.int .u64 x.s) from fun W' hW => by
                      obtain ⟨b', o', he, _, hc⟩ := PsAt.cell (HK1.out W' hW).2 hx
                      cases he
                      exact hc W' (Below.refl _ _))
                    obtain ⟨x0, x1⟩ := HX.out wr HT.out.2.2
                    have HXO1 := Lib.hid (HGO.out x (List.mem_of_getElem? hx))
                    have hsn := ext_snoc S (min e 5) (good.take k) x
                    rw [← take_snoc hx] at hsn
                    have HSN := Lib.hid hsn
                    have HVO := Lib.hid (HXO.out k)
                    have HVL := Lib.hid (HXL.out k hk)
                    obtain ⟨V, hV⟩ : ∃ V, ext S (min e 5) (good.take k) = V := ⟨_, rfl⟩
                    rw [hV] at HT HSN HVO HVL
                    have HVB := Lib.hid HT.out.1
                    rw [HVB.out] at HSN HVL
                    have HVK := Lib.hid (show ∀ W', Below wr.heap.size wr W' → OwnPs w1.heap.size W' (.slice sa D sc) V ∧ On w1 W' from fun W' hb => ⟨HT.out.2.1.kept hb (Nat.le_refl _), On.step HT.out.2.2 hb⟩)
                    have hD2 : D ≤ 200000 := HVL.out
                    clear hx hV hsn
                    have hcs : ((D : Int) < e ∧ (D : Int) < 5) ∨ ¬ ((D : Int) < min e 5) := by omega
                    rcases hcs with ⟨h1, h2⟩ | h1
                    · have hd1 : decide ((D : Int) < min e 5) = true := decide_eq_true (by omega)
                      rw [hd1] at HSN
                      have HND := Lib.hid (node_any (.slice sa D sc) V x.n (-1) (V.any (fun q => q.n == x.n)) wr (HT.out.2.1.at HVO.out) (by rw [HVB.out]; omega) (by
                        rw [List.any_eq_true]
                        constructor
                        · rintro ⟨y, hy, hn⟩
                          obtain ⟨i, hi⟩ := List.getElem?_of_mem hy
                          exact ⟨i, y, by omega, hi, by simpa using hn⟩
                        · rintro ⟨i, y, _, hi, hn⟩
                          exact ⟨y, List.mem_of_getElem? hi, by simpa using hn⟩))
                      cases hany : V.any (fun q => q.n == x.n)
                      · rw [hany] at HND HSN
                        rw [if_pos ⟨rfl, rfl⟩] at HSN
                        clear hany hd1
                        go_wp2_with fail
                        refine HND.out.mono ?_
                        rintro ee w6 ⟨rfl, hb6⟩
                        obtain ⟨ho6, hon6⟩ := HVK.out w6 hb6
                        clear x0 x1
                        obtain ⟨x0, x1⟩ := HX.out w6 hon6
                        have HA2 := Lib.hid (show OwnPs w1.heap.size (w6.alloc (.cells #[.int .i64 x.n, .int .u64 x.s] 38)) (.slice sa D sc) V ∧ PsAt (w6.alloc (.cells #[.int .i64 x.n, .int .u64 x.s] 38)) (.slice (some ⟨w6.heap.size, 0, none⟩) 1 1) [x] ∧ On w1 (w6.alloc (.cells #[.int .i64 x.n, .int .u64 x.s] 38)) from
                          ⟨ho6.kept (Go.Joins.below_alloc1 w6 _) (Nat.le_refl _), ps_one w6 x HXO1.out, On.step hon6 (Go.Joins.below_alloc1 w6 _)⟩)
                        have HOKS := Lib.hid (show ∀ z ∈ V ++ [x], z.ok from fun z hz => by
                          rcases List.mem_append.1 hz with h | h
                          · exact HVO.out z h
                          · rw [List.mem_singleton] at h; rw [h]; exact HXO1.out)
                        have HLX := Lib.hid (show (V ++ [x]).length = D + 1 from by rw [List.length_append, HVB.out]; rfl)
                        clear hb6 ho6 hon6
                        go_wp2_with (at_builtin; refine wpList_append_rows rfl _ _ 23 38 2 16 _ PL.cells rfl Try.underlying23 info38 rfl (by decide) (by decide) (fun _ => rfl) w1.heap.size _ _ V [x] rfl rfl HA2.out.1 HA2.out.2.1 (ps_oneCell _) (by rw [HVB.out]; simp only [List.length_cons, List.length_nil]; omega) (Below.size HA2.out.2.2) ?_; intro v7 w7 ho7 hg7; have hbb := Below.grown HA2.out.2.2 hg7 (Below.size HA2.out.2.2) (fun j hj => (HA2.out.1.own j hj)); obtain ⟨va, vc, rfl⟩ := OwnPs.form ho7 HOKS.out; have hlx := HLX.out; rw [hlx] at ho7 ⊢; have H7 := Lib.hid (And.intro ho7 hbb); clear ho7 hg7 hbb hlx)
                        go_roundw
                        case rel => exact ⟨k + 1, D + 1, by omega, by go_num, ⟨_, _, rfl⟩, by rw [HSN.out]; exact ⟨HLX.out, H7.out⟩⟩
                        case measure => simp [intOf]; omega
                      · rw [hany] at HND HSN
                        rw [if_neg (by simp)] at HSN
                        clear hany hd1
                        go_wp2_with fail
                        refine HND.out.mono ?_
                        rintro ee w6 ⟨rfl, hb6⟩
                        have H6 := Lib.hid (HVK.out w6 hb6)
                        clear hb6
                        go_wp2
                        go_roundw
                        case rel => exact ⟨k + 1, D, by omega, by go_num, ⟨_, _, rfl⟩, by rw [HSN.out]; exact ⟨HVB.out, H6.out⟩⟩
                        case measure => simp [intOf]; omega
                    · rw [if_neg (by simp; omega)] at HSN
                      have HTT := Lib.hid HT.out.2
                      have hcs : ¬ (D : Int) < e ∨ ((D : Int) < e ∧ ¬ (D : Int) < 5) := by omega
                      clear h1
                      rcases hcs with h1 | ⟨h1, h2⟩
                      all_goals go_wp2
                      all_goals go_roundw
                      all_goals (first | exact ⟨k + 1, D, by omega, by go_num, ⟨_, _, rfl⟩, by rw [HSN.out]; exact ⟨HVB.out, HTT.out⟩⟩ | (simp [intOf]; omega))
                  · obtain rfl : k = C := by omega
                    rw [take_all HGL.out] at HT
                    have HVO := Lib.hid (HXO.out k)
                    rw [take_all HGL.out] at HVO
                    obtain ⟨V, hV⟩ : ∃ V, ext S (min e 5) good = V := ⟨_, rfl⟩
                    rw [hV] at HT HVO HFR
                    obtain ⟨hVD, hVo, hVw⟩ := HT.out
                    obtain ⟨hbx, hbw⟩ := HBX.out wr hVw
                    obtain ⟨⟨c0, c1⟩, -⟩ := HK0.out wr (HK1.out wr hVw).1
                    have r0 := hbx.c0
                    have r1 := hbx.c1
                    have rf := hbx.fz
                    have hn : ∀ j, (Value.slice sa D sc).ownBlock = some j → j ≠ w.heap.size + 1 := fun j hj => by have := hVo.own j hj; have := HLT.out; omega
                    have HXX := Lib.hid (And.intro (hbx.put f (.slice sa D sc)) (And.intro
                      (OwnPs.at (OwnPs.other (OwnPs.other hVo hn (o := 0) (u := .int .u64 f)) hn (o := 1) (u := .slice sa D sc)) HVO.out)
                      ((hbw.setCell (p := ⟨w.heap.size + 1, 0, none⟩) (by show w.heap.size ≤ w.heap.size + 1; omega) (.int .u64 f)).setCell (p := ⟨w.heap.size + 1, 1, none⟩) (by show w.heap.size ≤ w.heap.size + 1; omega) (.slice sa D sc))))
                    have HVD := Lib.hid hVD
                    clear hbx hbw hn hVo hVw hVD hV hkC
                    go_wp2
                    refine bodyPost_ret (results_frag rfl _ _ (w.heap.size + 1) _ _ (0, 0) rfl HXX.out.1) rfl ?_
                    obtain ⟨rfl, rfl, rfl⟩ := HFR.out
                    rw [HVD.out]
                    exact ⟨_, _, rfl, HXX.out.2⟩
end Go.Proofs.Ytnfjhpdpeihheaa
