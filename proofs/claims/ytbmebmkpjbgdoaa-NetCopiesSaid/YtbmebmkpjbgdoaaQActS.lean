/- act: Send. -/
import Derived.Test.YtbmebmkpjbgdoaaQActF
namespace Go.Proofs.Ytbmebmkpjbgdoaa
open Go.RowKit
theorem wrap_byte (v : Int) : ∃ z : UInt8, IntKind.u8.wrap v = ((z.toNat : Nat) : Int) := by
  have h1 : IntKind.u8.wrap v = v % 256 := by
    simp [IntKind.wrap, IntKind.bits, IntKind.signed]
  refine ⟨UInt8.ofNat (v % 256).toNat, ?_⟩
  rw [h1, UInt8.toNat_ofNat']
  omega
theorem OwnBytes.spoil {base : Nat} {w : World} {g cap : Nat} {l : Bs} (h : OwnBytes base w (.slice (some ⟨g, 0, none⟩) l.length cap) l) (j : Nat) (hj : j < l.length) :
    (w.cell? ⟨g, j, none⟩ = some (.int .u8 ((l.getD j 0).toNat : Int)) ∧ w.frozen? ⟨g, j, none⟩ = false) ∧ ∀ v : Int, ∃ l' : Bs, l'.length = l.length ∧ OwnBytes base (w.setCell ⟨g, j, none⟩ (.int .u8 (IntKind.u8.wrap v))) (.slice (some ⟨g, 0, none⟩) l.length cap) l' := by
  refine ⟨⟨?_, World.ownsRow.frozenAt h j⟩, fun v => ?_⟩
  · rw [World.ownsRow.cellAt h j (by omega)]; exact getD_cell l j hj
  · obtain ⟨z, hz⟩ := wrap_byte v
    refine ⟨l.set j z, List.length_set, ?_⟩
    rw [hz]
    have := (World.ownsRow.stored h j (.int .u8 ((z.toNat : Nat) : Int))).1
    unfold OwnBytes
    rw [List.length_set, List.map_set]
    exact this
theorem OwnBytes.keep {base : Nat} {w W : World} {v : Value} {l : Bs} {I : Bks} (h : OwnBytes base w v l) (hk : Keep I w W) (hI : ∀ k, v.ownBlock = some k → I k) : OwnBytes base W v l := by
  refine ⟨h.1, ?_⟩
  rcases h.2 with h2 | ⟨g, cap, cur, rfl, hbg, hg, r⟩
  · exact .inl h2
  · exact .inr ⟨g, cap, cur, rfl, hbg, keep_block' hk (hI g rfl) hg, r⟩
theorem OwnBytes.spoil' {base : Nat} {w : World} {g cap L : Nat} {l : Bs} (hL : l.length = L) (h : OwnBytes base w (.slice (some ⟨g, 0, none⟩) L cap) l) (j : Nat) (hj : j < L) :
    (∃ x : Int, w.cell? ⟨g, j, none⟩ = some (.int .u8 x)) ∧ w.frozen? ⟨g, j, none⟩ = false ∧ ∀ v : Int, ∃ l' : Bs, l'.length = L ∧ OwnBytes base (w.setCell ⟨g, j, none⟩ (.int .u8 (IntKind.u8.wrap v))) (.slice (some ⟨g, 0, none⟩) L cap) l' := by
  subst hL
  obtain ⟨⟨h1, h2⟩, h3⟩ := h.spoil j hj
  exact ⟨⟨_, h1⟩, h2, h3⟩
set_option maxRecDepth 100000 in
set_option maxHeartbeats 4000000 in
theorem act_send {w : Fr} {wi : World} {K : Bks} {p q : Nat} {d : Nt} (h : Duo w K wi p q d d) (a b i : Int) (u : Value) (l : Bs) (hu : BytesIn K wi u l) (hl : l.length ≤ 175921860444160) :
    Calls Try.prog 15 #[.pointer (some ⟨p, 0, none⟩), .pointer (some ⟨q, 0, none⟩), .agg #[.int .i64 0, .int .i64 a, .int .i64 b, .int .i64 i, u]] wi (ActDoes w K wi p q (d.send a b l).2) := by
  obtain ⟨d', hd'⟩ : ∃ d', (d.send a b l).2 = d' := ⟨_, rfl⟩
  have HSD := Lib.hid hd'
  rw [hd']
  clear hd'
  obtain ⟨ua, uc, rfl, _⟩ := hu.form
  obtain ⟨L, hL⟩ : ∃ L, l.length = L := ⟨_, rfl⟩
  have HL := Lib.hid hL
  rw [hL] at hu hl ⊢
  obtain ⟨W1, hW1⟩ : ∃ W1, W1 = Box wi 0 a b i (.slice ua L uc) := ⟨_, rfl⟩
  have hD := h.box 0 a b i (.slice ua L uc)
  have HC : Hid (∀ W, Keep (fun k => K k ∨ k = wi.heap.size) W1 W → W.cell? ⟨wi.heap.size, 0, none⟩ = some (.int .i64 0) ∧ W.cell? ⟨wi.heap.size, 1, none⟩ = some (.int .i64 a) ∧ W.cell? ⟨wi.heap.size, 2, none⟩ = some (.int .i64 b) ∧ W.cell? ⟨wi.heap.size, 3, none⟩ = some (.int .i64 i) ∧ W.cell? ⟨wi.heap.size, 4, none⟩ = some (.slice ua L uc)) := fun W hk => by rw [hW1] at hk; exact Box.cells hk
  have HK0 : Hid (Keep K wi W1) := by rw [hW1]; exact Keep.of_below (Go.Joins.below_alloc1 wi _)
  have hu1 : BytesIn K W1 (.slice ua L uc) l := hu.keep HK0.out fun _ h => h
  rw [← hW1] at hD
  unfold Box at hW1
  have HSZ : Hid (W1.heap.size = wi.heap.size + 1) := by unfold Hid; rw [hW1, World.size_alloc]
  generalize hK1 : (fun k => K k ∨ k = wi.heap.size) = K1 at *
  have HKK : Hid (∀ k, K k → K1 k) := fun k hk => by rw [← hK1]; exact .inl hk
  have HU : Hid (∀ W, Keep K1 W1 W → BytesIn K1 W (.slice ua L uc) l) := fun W hk => (hu1.wide fun k _ hk => HKK.out k hk).keep hk fun _ h => h
  have HD1 := Lib.hid hD
  have HA : Hid (∀ o, Keep K1 W1 (W1.alloc o)) := fun o => Keep.of_below (Go.Joins.below_alloc1 W1 o)
  have HMADE : Hid (OwnBytes W1.heap.size (W1.alloc (.cells #[] 5)) (.slice (some ⟨wi.heap.size + 1, 0, none⟩) 0 0) []) := by
    have := OwnBytes.made W1 W1.heap.size (Nat.le_refl _)
    rw [← HSZ.out]
    exact this
  -- the bytes copied
  have HCP : Hid (∀ v2 w2, OwnBytes W1.heap.size w2 v2 l → (W1.alloc (.cells #[] 5)).grownBy w2 (Value.slice (some ⟨wi.heap.size + 1, 0, none⟩) 0 0).ownBlock → Keep K1 W1 w2 ∧ Duo w (fun k => K1 k ∨ v2.ownBlock = some k) w2 p q d d ∧ w.heap.size ≤ W1.heap.size) := fun v2 w2 ho hg => by
    have hc : Chg (fun _ => False) W1 w2 := ((Chg.refl _ W1).alloc _).grown hg fun k hk => .inr (by have : wi.heap.size + 1 = k := Option.some.inj hk; have := HSZ.out; omega)
    exact ⟨hc.keep fun _ h => h.elim, HD1.out.write hc (fun _ h => h.elim) (fun k => v2.ownBlock = some k) fun k hk => ho.lt k hk, HD1.out.below.size⟩
  have HK1L : Hid (∀ k, K1 k → k < W1.heap.size) := hD.lt
  clear hK1 h hu hu1 hD hL
  have ca : ∀ o, _ := fun o => HC.out (W1.alloc o) (HA.out o)
  have c4a := fun o => (ca o).2.2.2.2
  obtain ⟨c0, c1, c2, c3, c4⟩ := HC.out W1 (Keep.refl _ _)
  clear ca
  go_enter Try.func15, Try.ntmps15
  go_wp2_with (at_builtin; rw [← hW1]; refine wpList_append_place rfl _ _ rfl W1.heap.size _ (.slice ua L uc) [] l rfl (by simp [Act.eval]) HMADE.out (HU.out _ (HA.out _)).at (by rw [HL.out]; simp; omega) (Go.Joins.below_alloc1 W1 _).size ?_; intro v2 w2 hown2 hgrow2 _; have HO2 : Hid (OwnBytes W1.heap.size w2 v2 l) := hown2; have H2 := Lib.hid (HCP.out v2 w2 HO2.out hgrow2); obtain ⟨a2, c2', e2⟩ := HO2.out.form; rw [HL.out] at e2; subst e2; clear hown2 hgrow2)
  have hD2 := H2.out.2.1
  have HK2 := Lib.hid H2.out.1
  generalize hK2 : (fun k => K1 k ∨ (Value.slice a2 L c2').ownBlock = some k) = K2 at *
  have HX : Hid (∀ k, (Value.slice a2 L c2').ownBlock = some k → K2 k ∧ w.heap.size ≤ k) := fun k hk => ⟨by rw [← hK2]; exact .inr hk, Nat.le_trans H2.out.2.2 (HO2.out.own k hk)⟩
  have HKK2 : Hid (∀ k, K1 k → K2 k) := fun k hk => by rw [← hK2]; exact .inl hk
  have HB : Hid (∀ W, Keep K2 w2 W → BytesAt W (.slice a2 L c2') l ∧ BytesAt W (.slice ua L uc) l) := fun W hk => by
    have h1 := (HO2.out.bytesIn.wide fun k _ hk => (HX.out k hk).1).keep hk fun _ h => h
    exact ⟨h1.at, (HU.out W (HK2.out.trans (hk.mono HKK2.out))).at⟩
  have HD0 : Hid (Duo w K2 w2.drew p q d d) := hD2.still (Below.refl _ _).drew
  have HKD : Hid (Keep K2 w2 w2.drew) := Keep.of_below (Below.refl _ _).drew
  have HN : Hid (∀ e W, Keep K2 w2 W → Duo w K2 W p q d e → Calls Try.prog 24 #[.pointer (some ⟨p, 0, none⟩), .int .i64 a, .int .i64 b, .slice a2 L c2'] W fun en w' => en = .returned (.int .i64 (d.send a b l).1) ∧ Duo w K2 w' p q (d.send a b l).2 e ∧ Keep K2 W w') := fun e W hk hd => hd.net fun J hJ => hJ.send a b l _ (HB.out W hk).1
  have HM : Hid (∀ d0 W, Keep K2 w2 W → Duo w K2 W p q d0 d → Calls Try.prog 32 #[.pointer (some ⟨q, 0, none⟩), .int .i64 a, .int .i64 b, .slice ua L uc] W fun en w' => en = .returned (.int .i64 (d.send a b l).1) ∧ Duo w K2 w' p q d0 (d.send a b l).2 ∧ Keep K2 W w') := fun d0 W hk hd => hd.ref fun R hR => rsend_any hR a b l _ (HB.out W hk).2
  generalize (d.send a b l).1 = r at HN HM
  rw [HSD.out] at HN HM
  clear hD2 hK2 H2 c0 c1 c2 c3 c4 c4a
  have HC2 : Hid (∀ W, Keep K2 w2 W → W.cell? ⟨wi.heap.size, 1, none⟩ = some (.int .i64 a) ∧ W.cell? ⟨wi.heap.size, 2, none⟩ = some (.int .i64 b) ∧ W.cell? ⟨wi.heap.size, 4, none⟩ = some (.slice ua L uc)) := fun W hk => by
    obtain ⟨_, h1, h2, _, h4⟩ := HC.out W (HK2.out.trans (hk.mono HKK2.out))
    exact ⟨h1, h2, h4⟩
  have c12 := HC2.out w2 (Keep.refl _ _)
  have kr : (r == r) = true := by simp
  go_region_held (fun W => W.cell? ⟨wi.heap.size, 1, none⟩ = some (.int .i64 a) ∧ W.cell? ⟨wi.heap.size, 2, none⟩ = some (.int .i64 b) ∧ W.cell? ⟨wi.heap.size, 4, none⟩ = some (.slice ua L uc)) ((first | exact c12 | exact c12')) (first
    | (go_at_call 24; refine (HN.out d _ HKD.out HD0.out).mono ?_; rintro e w3 ⟨rfl, hd2, hk2⟩; have HD2 : Hid (Duo w K2 w3 p q d' d ∧ Keep K2 w2 w3) := ⟨hd2, HKD.out.trans hk2⟩; have c12' := HC2.out w3 HD2.out.2; clear hd2 hk2)
    | (go_at_call 24; refine (HN.out d' _ HE2.out.2 HE2.out.1).mono ?_; rintro e w4 ⟨rfl, hd3, hk3⟩; have HD3 : Hid (Duo w K2 w4 p q d' d' ∧ Keep K2 w2 w4) := ⟨hd3, HE2.out.2.trans hk3⟩; have c12' := HC2.out w4 HD3.out.2; clear hd3 hk3)
    | (go_at_call 32; refine (HM.out d' _ HD2.out.2 HD2.out.1).mono ?_; rintro e w4 ⟨rfl, hd3, hk3⟩; have HD3 : Hid (Duo w K2 w4 p q d' d' ∧ Keep K2 w2 w4) := ⟨hd3, HD2.out.2.trans hk3⟩; have c12' := HC2.out w4 HD3.out.2; clear hd3 hk3)
    | (go_at_call 32; refine (HM.out d _ HKD.out HD0.out).mono ?_; rintro e w3 ⟨rfl, hd2, hk2⟩; have HE2 : Hid (Duo w K2 w3 p q d d' ∧ Keep K2 w2 w3) := ⟨hd2, HKD.out.trans hk2⟩; have c12' := HC2.out w3 HE2.out.2; clear hd2 hk2))
  clear c12 c12'
  go_wp2
  have HO4 : Hid (OwnBytes W1.heap.size w4 (.slice a2 L c2') l) := HO2.out.keep HD3.out.2 fun k hk => (HX.out k hk).1
  go_loopw [9] (fun i wr => ∃ k : Nat, k ≤ L ∧ i = .int .i64 (k : Nat) ∧ Hid (∃ l' : Bs, l'.length = L ∧ OwnBytes W1.heap.size wr (.slice a2 L c2') l' ∧ Duo w K2 wr p q d' d' ∧ Keep K1 w4 wr)) (fun i _ => L - (intOf i).toNat)
  case atStart => exact ⟨0, Nat.zero_le _, rfl, l, HL.out, HO4.out, HD3.out.1, Keep.refl _ _⟩
  case round =>
    obtain ⟨k, hk, rfl, HI⟩ := hrel
    by_cases hlt : k < L
    · obtain ⟨l', hl', ho', hd', hk'⟩ := HI.out
      have hg : ∃ g, a2 = some ⟨g, 0, none⟩ := by
        rcases ho'.2 with ⟨h1, h0⟩ | ⟨g, cap', cur, hv', _⟩
        · omega
        · injection hv' with e1; exact ⟨g, e1⟩
      obtain ⟨g, rfl⟩ := hg
      obtain ⟨⟨x, e0⟩, f0, hs⟩ := ho'.spoil' hl' k hlt
      have HS := Lib.hid hs
      have HDD := Lib.hid (And.intro hd' hk')
      clear hl' ho' hd' hk' hs
      go_wp2
      go_roundw
      case rel =>
        obtain ⟨l'', h1, h2⟩ := HS.out _
        refine ⟨k + 1, by omega, by go_num, l'', h1, h2, ?_, ?_⟩
        · exact (HDD.out.1.write (C := fun j => j = g) ((Chg.refl (fun j => j = g) wr).setCell (p := ⟨g, k, none⟩) (.inl rfl) _) (fun j hj => HX.out j (by rw [hj]; rfl)) (fun _ => False) fun _ h => h.elim).narrow fun _ h => .inl h
        · refine HDD.out.2.trans (((Chg.refl (fun j => j = g) wr).setCell (p := ⟨g, k, none⟩) (.inl rfl) _).keep fun j hj hK => ?_)
          have h3 := HK1L.out j hK
          have h4 := HO2.out.own g rfl
          omega
      case measure => simp [intOf]; omega
    · obtain rfl : k = L := by omega
      obtain ⟨l', hl', ho', hd', hk'⟩ := HI.out
      have HDD := Lib.hid (And.intro hd' hk')
      clear hl' ho' hd' hk'
      go_wp2
      go_ret
      exact ⟨rfl, HDD.out.1.narrow fun j hj => HKK2.out j (HKK.out j hj), HK0.out.trans ((HK2.out.trans ((HD3.out.2.mono HKK2.out).trans HDD.out.2)).mono HKK.out)⟩
end Go.Proofs.Ytbmebmkpjbgdoaa
