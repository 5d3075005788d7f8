/- The law NetRow. -/
import Derived.Test.YtbmebmkpjbgdoaaRowM
namespace Go.Proofs.Ytbmebmkpjbgdoaa
open Go.RowKit Go.Sort
/-- the net and the row, at any world of the walk -/
def RowIs (w wr : World) (p : Nat) (L : Nat) (n k : Nat) (v : Value) : Prop := ∃ S : List Bs, RowAt w wr p S k v ∧ S.length = n ∧ k ≤ n ∧ n ≤ L
set_option maxRecDepth 100000 in
set_option maxHeartbeats 4000000 in
theorem row_any (v : Value) (ls : List Bs) (ev : Int) (w : World) (hp : PartsAt w v ls) :
    Calls Try.prog 6 #[v, .int .i64 ev] w fun e w' => e = .returned (.bool true) ∧ Below w.heap.size w w' := by
  have HX : Hid (∀ W, Below w.heap.size w W → Calls Try.prog 9 #[] W fun e w' => e = .returned (.bool true) ∧ Below w.heap.size w w') := fun W hb => (awake_any W).mono fun e w' h => ⟨h.1, hb.trans (h.2.mono hb.size)⟩
  obtain ⟨a, cap, rfl, hlen, hcells⟩ := hp
  rw [maxLen_eq] at hlen
  have HCELL : Hid (∀ W j, Below w.heap.size w W → j < ls.length → ∃ b off u, a = some ⟨b, off, none⟩ ∧ W.cell? ⟨b, off + j, none⟩ = some u ∧ BytesIn (fun k => k < w.heap.size) W u (ls.getD j [])) := fun W j hb hj => by
    obtain ⟨b, off, rfl, hbl, hc⟩ := hcells (by omega)
    obtain ⟨u, h1, h2⟩ := hc j hj
    exact ⟨b, off, u, rfl, (hb.cell (p := ⟨b, off + j, none⟩) hbl).trans h1, (h2.wide (J := fun k => k < w.heap.size) fun k hk _ => hk).below hb (Nat.le_refl _)⟩
  clear hcells
  by_cases h300 : 300 < ls.length
  · go_enter Try.func6, Try.ntmps6
    generalize ls.length = L at *
    go_wp2_with (go_at_call 9; refine (HX.out _ (Below.refl _ _)).mono ?_; rintro e w9 ⟨rfl, hb⟩; have HBE := Lib.hid hb; clear hb)
    go_ret
    exact ⟨rfl, HBE.out⟩
  · have h300' : ls.length ≤ 300 := by omega
    have HNEW := Lib.hid (new_yes 2 w (by omega))
    obtain ⟨E, hE, hand⟩ := mask4 ev
    go_enter Try.func6, Try.ntmps6
    go_wp2
    go_loopw [5] (fun i wr => ∃ k : Nat, k ≤ ls.length ∧ i = .int .i64 (k : Nat) ∧ Hid (wr = w ∧ ∀ j, j < k → (ls.getD j []).length ≤ 16384)) (fun i _ => ls.length - (intOf i).toNat)
    case atStart => exact ⟨0, Nat.zero_le _, rfl, rfl, fun j hj => by omega⟩
    case round =>
      obtain ⟨k, hk, rfl, HW⟩ := hrel
      obtain ⟨hwr, hsm⟩ := HW.out
      subst hwr
      by_cases hlt : k < ls.length
      · obtain ⟨b, off, u, rfl, hc, hu⟩ := HCELL.out wr k (Below.refl _ _) hlt
        obtain ⟨ua, uc, rfl, _⟩ := hu.form
        have HSM := Lib.hid hsm
        obtain ⟨Z, hZ⟩ : ∃ Z, (ls.getD k []).length = Z := ⟨_, rfl⟩
        have HZ := Lib.hid hZ
        rw [hZ] at hc
        clear hu hsm HW hZ
        by_cases hbig : 16384 < Z
        · go_wp2_with (go_at_call 9; refine (HX.out _ (Below.refl _ _)).mono ?_; rintro e w9 ⟨rfl, hb⟩; have HBE := Lib.hid hb; clear hb)
          go_ret
          exact ⟨rfl, HBE.out⟩
        · have hz : Z ≤ 16384 := by omega
          go_wp2
          go_roundw
          case rel => exact ⟨k + 1, by omega, by go_num, trivial, fun j hj => by
            by_cases hjk : j < k
            · exact HSM.out j hjk
            · obtain rfl : j = k := by omega
              rw [HZ.out]; exact hz⟩
          case measure => simp [intOf]; omega
      · obtain rfl : k = ls.length := by omega
        have HSM := Lib.hid hsm
        clear hsm HW
        go_wp2_with fail
        refine HNEW.out.mono ?_
        rintro e w1 ⟨p, rfl, hf⟩
        have HS : Hid (RowIs wr w1 p 0 0 0 (.slice none 0 0)) := by
          obtain ⟨O, I, g1, g2, g3⟩ := hf
          refine ⟨[], ⟨fun j => j < wr.heap.size, ⟨O, I, ?_, fun j hj => ⟨fun h => by have := g2 j hj; omega, g2 j hj⟩, fun j hj => Nat.lt_of_lt_of_le hj g3.size, g3⟩, World.ownsRow_nil _ _ _ _, fun j hj => by simp [Value.ownBlock] at hj, fun _ h => h⟩, rfl, Nat.le_refl _, Nat.le_refl _⟩
          rw [dRow_new]; exact g1
        clear hf
        go_wp2_with fail
        obtain ⟨w, hw⟩ : ∃ w : World, w = wr := ⟨_, rfl⟩
        subst hw
        go_loopw [8, 9, 10] (fun sv kv i wr => ∃ (i0 n k : Nat) (sa : Option Addr) (sc : Nat), i0 ≤ ls.length ∧ i = .int .i64 (i0 : Nat) ∧ sv = .slice sa n sc ∧ kv = .int .i64 (k : Nat) ∧ Hid (RowIs w wr p i0 n k (.slice sa n sc))) (fun _ _ i _ => ls.length - (intOf i).toNat)
        case atStart => exact ⟨0, 0, 0, none, 0, Nat.zero_le _, rfl, rfl, rfl, HS.out⟩
        case round =>
          obtain ⟨i0, n, k, sa, sc, hi, rfl, rfl, rfl, HW⟩ := hrel
          by_cases hlt : i0 < ls.length
          · obtain ⟨S, ⟨J, h1, hS, hvJ, hlow⟩, hSn, hkn, hni⟩ := HW.out
            subst hSn
            obtain ⟨b, off, u, rfl, hc, hu⟩ := HCELL.out wr i0 h1.below hlt
            obtain ⟨ua, uc, rfl, _⟩ := hu.form
            have hl := HSM.out i0 hlt
            obtain ⟨B, hB⟩ : ∃ B, ls.getD i0 [] = B := ⟨_, rfl⟩
            rw [hB] at hu hl hc
            clear hB
            have hsend := h1.send 1 2 (B) _ hu.at
            have hcc : ∀ W, Below w.heap.size w W → W.cell? ⟨b, off + i0, none⟩ = some (.slice ua (B).length uc) := fun W hb => by
              obtain ⟨b', off', u', e1, h2, _⟩ := HCELL.out W i0 hb hlt
              obtain ⟨b2, off2, u2, e2, h3, _⟩ := HCELL.out w i0 (Below.refl _ _) hlt
              cases e1
              cases e2
              have h4 := hb.cell (p := ⟨b, off + i0, none⟩) (World.block_lt_of_cell? w _ h3)
              have h5 := h1.below.cell (p := ⟨b, off + i0, none⟩) (World.block_lt_of_cell? w _ h3)
              rw [h4, ← h5]; exact hc
            by_cases hroom : S.length - k < 64
            · rw [dRow_send hkn hl hroom] at hsend
              have HSEND := Lib.hid hsend
              obtain ⟨Z, hZ⟩ : ∃ Z, (B).length = Z := ⟨_, rfl⟩
              rw [hZ] at hc hcc HSEND
              have HH := Lib.hid (And.intro hS (And.intro hvJ hlow))
              have HCC := Lib.hid hcc
              have HU := Lib.hid hu
              have HZ := Lib.hid hZ
              have HWB := Lib.hid h1.below
              clear hu hsend h1 hS hvJ hlow hl HW hcc hZ
              go_wp2_with fail
              refine HSEND.out.mono ?_
              rintro e w2 ⟨rfl, h2, k2⟩
              have HB2 := Lib.hid h2.below
              have hc2 := HCC.out w2 HB2.out
              have hs2 := string_bytes (HU.out.keep k2 HH.out.2.2)
              rw [HZ.out] at hs2
              have hS2 := HH.out.1.keep k2 HH.out.2.1
              have HROW : Hid (∀ o, OwnStrs w.heap.size (w2.alloc o) (.slice sa S.length sc) S) := fun o => hS2.chg ((Chg.refl (fun _ => False) w2).alloc o) fun _ _ h => h
              have HBASE : Hid (∀ o, w.heap.size ≤ (w2.alloc o).heap.size) := fun o => Nat.le_trans HB2.out.size (Go.Joins.below_alloc1 w2 o).size
              have HNEW1 : Hid ((w2.alloc (.cells #[.string ⟨(B).toArray⟩] 9)).cell? ⟨w2.heap.size, 0, none⟩ = some (encStr (B))) := by
                unfold Hid
                rw [World.cell?_alloc_new]; rfl
              have HSMALL : Hid (S.length ≤ 1000000) := by show S.length ≤ 1000000; omega
              have HPUSH : Hid (∀ v2 w4, OwnStrs w.heap.size w4 v2 (S ++ [B]) → (w2.alloc (.cells #[.string ⟨(B).toArray⟩] 9)).grownBy w4 (Value.slice sa S.length sc).ownBlock → Placed (w2.alloc (.cells #[.string ⟨(B).toArray⟩] 9)) (.slice sa S.length sc) v2 → RowAt w w4 p (S ++ [B]) k v2) := fun v2 w4 g1 g2 g3 => RowAt.push h2 hS2 HH.out.2.1 HH.out.2.2 (Go.Joins.below_alloc1 w2 _) g1 g2 g3
              clear h2 k2 hS2
              have HLEN4 : Hid ((S ++ [B]).length = S.length + 1) := by show _ = _; simp
              go_wp2_with (at_builtin; refine wpList_append_str rfl _ _ rfl w.heap.size _ S (B) (HROW.out _) ⟨w2.heap.size, 0, none⟩ 1 rfl rfl HNEW1.out (HBASE.out _) HSMALL.out ?_; intro v2 w4 hown4 hgrow4 hpl4; have HR4 := Lib.hid (HPUSH.out v2 w4 hown4 hgrow4 hpl4); obtain ⟨a2, c2, rfl⟩ := hown4.form; rw [HLEN4.out] at HR4; clear hown4 hgrow4 hpl4)
              -- TAILS

              · obtain ⟨J4, g1, g2, g3, g4⟩ := HR4.out
                have hkl : k < (S ++ [B]).length := by (try simp); omega
                have hd := g1.deliver 0
                rw [dRow_deliver hkl] at hd
                obtain ⟨g, cap2, cur, ha2, hbg, hgc, hnc, hcm, hcs, htk⟩ := g2.2.resolve_left fun h => by have := h.2; omega
                have hTc : (S ++ [B]).map encStr = (S ++ [B]).map encStr := rfl
                obtain ⟨T, hT⟩ : ∃ T, (S ++ [B]).getD k [] = T := ⟨_, rfl⟩
                have hcell : ((S ++ [B]).map encStr)[k]? = some (.string ⟨T.toArray⟩) := by
                  rw [List.getElem?_map, List.getElem?_eq_getElem hkl, ← hT, List.getD_eq_getElem?_getD, List.getElem?_eq_getElem hkl]; rfl
                have hcT := World.ownsRow.cellAt (show World.ownsRow w4 w.heap.size 9 1 (.slice (some ⟨g, 0, none⟩) (S ++ [B]).length cap2) (S ++ [B]).length ((S ++ [B]).map encStr) from by rw [← ha2]; exact g2) k (by omega)
                rw [hcell] at hcT
                have hgJ : J4 g := g3 g (by rw [ha2]; rfl)
                injection ha2 with ea en ec
                subst ea
                rw [hT] at hd
                refine hd.mono ?_
                rintro e w5 ⟨ta, tc, X, rfl, hown5, hX5, h5, k5⟩
                have hbl := Go.Joins.below_alloc1 w5 (.cells #[.int .i64 1, .int .i64 2, .slice ta T.length tc] 49)
                have q0 : (w5.alloc (.cells #[.int .i64 1, .int .i64 2, .slice ta T.length tc] 49)).cell? ⟨w5.heap.size, 2, none⟩ = some (.slice ta T.length tc) := by rw [World.cell?_alloc_new]; rfl
                have q1 : (w5.alloc (.cells #[.int .i64 1, .int .i64 2, .slice ta T.length tc] 49)).cell? ⟨g, k, none⟩ = some (.string ⟨T.toArray⟩) := by
                  have h6 := keep_cell k5 hgJ hcT
                  exact (hbl.cell (p := ⟨g, k, none⟩) (World.block_lt_of_cell? w5 _ h6)).trans h6
                have HC : Hid (∀ m, (convert 31 9 (.slice ta T.length tc)).run Try.prog ((w5.alloc (.cells #[.int .i64 1, .int .i64 2, .slice ta T.length tc] 49)).drewN m) = .ok (.string ⟨T.toArray⟩) ((w5.alloc (.cells #[.int .i64 1, .int .i64 2, .slice ta T.length tc] 49)).drewN m)) := fun m =>
                  string_bytes ((hown5.at.below hbl (Nat.le_refl _)).chg (Chg.refl (fun _ => False) _ |>.drewN m) fun _ h => h.elim)
                have HR6 : Hid (RowAt w (w5.alloc (.cells #[.int .i64 1, .int .i64 2, .slice ta T.length tc] 49)) p (S ++ [B]) (k + 1) (.slice (some ⟨g, 0, none⟩) (S.length + 1) c2)) :=
                  ⟨_, h5.still hbl, (g2.keep k5 g3).chg (Chg.of_below (S := fun _ => False) hbl (Nat.le_refl _)) fun _ _ h => h, fun j hj => .inl (g3 j hj), fun j hj => .inl (g4 j hj)⟩
                obtain ⟨w6, hw6⟩ : ∃ w6, w6 = w5.alloc (.cells #[.int .i64 1, .int .i64 2, .slice ta T.length tc] 49) := ⟨_, rfl⟩
                rw [← hw6] at q0 q1 HC HR6
                obtain ⟨TL, hTL⟩ : ∃ TL, T.length = TL := ⟨_, rfl⟩
                rw [hTL] at hw6 q0 HC ⊢
                obtain ⟨ST, hST⟩ : ∃ ST, (⟨T.toArray⟩ : ByteArray) = ST := ⟨_, rfl⟩
                rw [hST] at q1 HC
                have hkn' : k < S.length + 1 := by (try simp); omega
                clear hd g1 g2 g3 g4 hbg hgc hnc hcm hcs htk hTc hT hcell hcT hgJ en ec hown5 hX5 h5 k5 hbl hkl hTL hST
                go_wp2_with fail
                rw [← hw6]
                clear hw6
                have hcv := HC.out
                have heq : (ST.toList == ST.toList) = true := by simp
                have hdec : decide ((S.length : Int) + 1 ≤ (k : Int)) = false := by simp; omega
                go_quiet (fail)
                clear hcv q0 q1
                go_wp2_with fail
                go_roundw
                case rel => exact ⟨i0 + 1, S.length + 1, k + 1, _, _, by omega, by go_num, rfl, by go_num, S ++ [B], by
                  obtain ⟨J, z1, z2, z3, z4⟩ := HR6.out
                  exact ⟨J, z1.still (Go.Joins.below_draws _ _ _), z2.chg (Chg.of_below (S := fun _ => False) (Go.Joins.below_draws _ _ _) (Nat.le_refl _)) fun _ _ h => h, z3, z4⟩, by simp, by omega, by omega⟩
                case measure => simp [intOf]; omega
              · go_roundw
                case rel => exact ⟨i0 + 1, S.length + 1, k, _, _, by omega, by go_num, rfl, rfl, S ++ [B], HR4.out, by simp, by omega, by omega⟩
                case measure => simp [intOf]; omega
            · have hful : S.length - k = 64 := by have := h1.ok.len; rw [dRow_len] at this; omega
              rw [dRow_full hl hroom] at hsend
              have HSEND := Lib.hid hsend
              obtain ⟨Z, hZ⟩ : ∃ Z, B.length = Z := ⟨_, rfl⟩
              rw [hZ] at hc HSEND
              have HH := Lib.hid (And.intro hS (And.intro hvJ hlow))
              have HFUL := Lib.hid hful
              clear hu hsend h1 hS hvJ hlow hl HW hcc hZ hful hroom
              go_wp2_with fail
              refine HSEND.out.mono ?_
              rintro e w2 ⟨rfl, h2, k2⟩
              have hlen2 := h2.len
              rw [dRow_len, HFUL.out] at hlen2
              have HL2 := Lib.hid hlen2
              have HR4 : Hid (RowAt w w2 p S k (.slice sa S.length sc)) := ⟨J, h2, HH.out.1.keep k2 HH.out.2.1, HH.out.2.1, HH.out.2.2⟩
              have hful := HFUL.out
              clear hlen2 h2 k2
              go_wp2_with (go_at_call 21; refine HL2.out.mono ?_; rintro e w3 ⟨rfl, rfl⟩)
              -- TAILS

              · obtain ⟨J4, g1, g2, g3, g4⟩ := HR4.out
                have hkl : k < (S).length := by omega
                have hd := g1.deliver 0
                rw [dRow_deliver hkl] at hd
                obtain ⟨g, cap2, cur, ha2, hbg, hgc, hnc, hcm, hcs, htk⟩ := g2.2.resolve_left fun h => by have := h.2; omega
                have hTc : (S).map encStr = (S).map encStr := rfl
                obtain ⟨T, hT⟩ : ∃ T, (S).getD k [] = T := ⟨_, rfl⟩
                have hcell : ((S).map encStr)[k]? = some (.string ⟨T.toArray⟩) := by
                  rw [List.getElem?_map, List.getElem?_eq_getElem hkl, ← hT, List.getD_eq_getElem?_getD, List.getElem?_eq_getElem hkl]; rfl
                have hcT := World.ownsRow.cellAt (show World.ownsRow w2 w.heap.size 9 1 (.slice (some ⟨g, 0, none⟩) (S).length cap2) (S).length ((S).map encStr) from by rw [← ha2]; exact g2) k (by omega)
                rw [hcell] at hcT
                have hgJ : J4 g := g3 g (by rw [ha2]; rfl)
                injection ha2 with ea en ec
                subst ea
                rw [hT] at hd
                refine hd.mono ?_
                rintro e w5 ⟨ta, tc, X, rfl, hown5, hX5, h5, k5⟩
                have hbl := Go.Joins.below_alloc1 w5 (.cells #[.int .i64 1, .int .i64 2, .slice ta T.length tc] 49)
                have q0 : (w5.alloc (.cells #[.int .i64 1, .int .i64 2, .slice ta T.length tc] 49)).cell? ⟨w5.heap.size, 2, none⟩ = some (.slice ta T.length tc) := by rw [World.cell?_alloc_new]; rfl
                have q1 : (w5.alloc (.cells #[.int .i64 1, .int .i64 2, .slice ta T.length tc] 49)).cell? ⟨g, k, none⟩ = some (.string ⟨T.toArray⟩) := by
                  have h6 := keep_cell k5 hgJ hcT
                  exact (hbl.cell (p := ⟨g, k, none⟩) (World.block_lt_of_cell? w5 _ h6)).trans h6
                have HC : Hid (∀ m, (convert 31 9 (.slice ta T.length tc)).run Try.prog ((w5.alloc (.cells #[.int .i64 1, .int .i64 2, .slice ta T.length tc] 49)).drewN m) = .ok (.string ⟨T.toArray⟩) ((w5.alloc (.cells #[.int .i64 1, .int .i64 2, .slice ta T.length tc] 49)).drewN m)) := fun m =>
                  string_bytes ((hown5.at.below hbl (Nat.le_refl _)).chg (Chg.refl (fun _ => False) _ |>.drewN m) fun _ h => h.elim)
                have HR6 : Hid (RowAt w (w5.alloc (.cells #[.int .i64 1, .int .i64 2, .slice ta T.length tc] 49)) p (S) (k + 1) (.slice (some ⟨g, 0, none⟩) (S.length) sc)) :=
                  ⟨_, h5.still hbl, (g2.keep k5 g3).chg (Chg.of_below (S := fun _ => False) hbl (Nat.le_refl _)) fun _ _ h => h, fun j hj => .inl (g3 j hj), fun j hj => .inl (g4 j hj)⟩
                obtain ⟨w6, hw6⟩ : ∃ w6, w6 = w5.alloc (.cells #[.int .i64 1, .int .i64 2, .slice ta T.length tc] 49) := ⟨_, rfl⟩
                rw [← hw6] at q0 q1 HC HR6
                obtain ⟨TL, hTL⟩ : ∃ TL, T.length = TL := ⟨_, rfl⟩
                rw [hTL] at hw6 q0 HC ⊢
                obtain ⟨ST, hST⟩ : ∃ ST, (⟨T.toArray⟩ : ByteArray) = ST := ⟨_, rfl⟩
                rw [hST] at q1 HC
                have hkn' : k < S.length := by omega
                clear hd g1 g2 g3 g4 hbg hgc hnc hcm hcs htk hTc hT hcell hcT hgJ en ec hown5 hX5 h5 k5 hbl hkl hTL hST
                go_wp2_with fail
                rw [← hw6]
                clear hw6
                have hcv := HC.out
                have heq : (ST.toList == ST.toList) = true := by simp
                have hdec : decide ((S.length : Int) ≤ (k : Int)) = false := by simp; omega
                go_quiet (fail)
                clear hcv q0 q1
                go_wp2_with fail
                go_roundw
                case rel => exact ⟨i0 + 1, S.length, k + 1, _, _, by omega, by go_num, rfl, by go_num, S, by
                  obtain ⟨J, z1, z2, z3, z4⟩ := HR6.out
                  exact ⟨J, z1.still (Go.Joins.below_draws _ _ _), z2.chg (Chg.of_below (S := fun _ => False) (Go.Joins.below_draws _ _ _) (Nat.le_refl _)) fun _ _ h => h, z3, z4⟩, by simp, by omega, by omega⟩
                case measure => simp [intOf]; omega
              · go_roundw
                case rel => exact ⟨i0 + 1, S.length, k, _, _, by omega, by go_num, rfl, rfl, S, HR4.out, by simp, by omega, by omega⟩
                case measure => simp [intOf]; omega
          · obtain rfl : i0 = ls.length := by omega
            clear HS HSM HCELL
            go_wp2_with fail
            obtain ⟨w0, hw0⟩ : ∃ w0 : World, w0 = w := ⟨_, rfl⟩
            go_loopw [9] (fun kv wr => ∃ k : Nat, kv = .int .i64 (k : Nat) ∧ Hid (RowIs w wr p ls.length n k (.slice sa n sc))) (fun kv _ => n - (intOf kv).toNat)
            case atStart => exact ⟨k, rfl, HW.out⟩
            case round =>
              obtain ⟨k, rfl, HW3⟩ := hrel
              obtain ⟨S, HR, hSn, hkn, hni⟩ := HW3.out
              subst hSn
              have HR4 := Lib.hid HR
              obtain ⟨J, h1, hS, hvJ, hlow⟩ := HR
              have hlenC := h1.len
              rw [dRow_len] at hlenC
              by_cases hlt : k < S.length
              · obtain ⟨M, hM⟩ : ∃ M, S.length - k = M + 1 := ⟨S.length - k - 1, by omega⟩
                rw [hM] at hlenC
                have HLC := Lib.hid hlenC
                clear h1 hS hvJ hlow hlenC HW3 HW
                go_wp2_with (go_at_call 21; refine HLC.out.mono ?_; rintro e w3 ⟨rfl, rfl⟩)
                go_wp2_with fail
                -- TAILS

                · obtain ⟨J4, g1, g2, g3, g4⟩ := HR4.out
                  have hkl : k < (S).length := by omega
                  have hd := g1.deliver 0
                  rw [dRow_deliver hkl] at hd
                  obtain ⟨g, cap2, cur, ha2, hbg, hgc, hnc, hcm, hcs, htk⟩ := g2.2.resolve_left fun h => by have := h.2; omega
                  have hTc : (S).map encStr = (S).map encStr := rfl
                  obtain ⟨T, hT⟩ : ∃ T, (S).getD k [] = T := ⟨_, rfl⟩
                  have hcell : ((S).map encStr)[k]? = some (.string ⟨T.toArray⟩) := by
                    rw [List.getElem?_map, List.getElem?_eq_getElem hkl, ← hT, List.getD_eq_getElem?_getD, List.getElem?_eq_getElem hkl]; rfl
                  have hcT := World.ownsRow.cellAt (show World.ownsRow wr w.heap.size 9 1 (.slice (some ⟨g, 0, none⟩) (S).length cap2) (S).length ((S).map encStr) from by rw [← ha2]; exact g2) k (by omega)
                  rw [hcell] at hcT
                  have hgJ : J4 g := g3 g (by rw [ha2]; rfl)
                  injection ha2 with ea en ec
                  subst ea
                  rw [hT] at hd
                  refine hd.mono ?_
                  rintro e w5 ⟨ta, tc, X, rfl, hown5, hX5, h5, k5⟩
                  have hbl := Go.Joins.below_alloc1 w5 (.cells #[.int .i64 1, .int .i64 2, .slice ta T.length tc] 49)
                  have q0 : (w5.alloc (.cells #[.int .i64 1, .int .i64 2, .slice ta T.length tc] 49)).cell? ⟨w5.heap.size, 2, none⟩ = some (.slice ta T.length tc) := by rw [World.cell?_alloc_new]; rfl
                  have q1 : (w5.alloc (.cells #[.int .i64 1, .int .i64 2, .slice ta T.length tc] 49)).cell? ⟨g, k, none⟩ = some (.string ⟨T.toArray⟩) := by
                    have h6 := keep_cell k5 hgJ hcT
                    exact (hbl.cell (p := ⟨g, k, none⟩) (World.block_lt_of_cell? w5 _ h6)).trans h6
                  have q2 : (w5.alloc (.cells #[.int .i64 1, .int .i64 2, .slice ta T.length tc] 49)).cell? ⟨w5.heap.size, 0, none⟩ = some (.int .i64 1) := by rw [World.cell?_alloc_new]; rfl
                  have q3 : (w5.alloc (.cells #[.int .i64 1, .int .i64 2, .slice ta T.length tc] 49)).cell? ⟨w5.heap.size, 1, none⟩ = some (.int .i64 2) := by rw [World.cell?_alloc_new]; rfl
                  have HC : Hid (∀ m, (convert 31 9 (.slice ta T.length tc)).run Try.prog ((w5.alloc (.cells #[.int .i64 1, .int .i64 2, .slice ta T.length tc] 49)).drewN m) = .ok (.string ⟨T.toArray⟩) ((w5.alloc (.cells #[.int .i64 1, .int .i64 2, .slice ta T.length tc] 49)).drewN m)) := fun m =>
                    string_bytes ((hown5.at.below hbl (Nat.le_refl _)).chg (Chg.refl (fun _ => False) _ |>.drewN m) fun _ h => h.elim)
                  have HR6 : Hid (RowAt w (w5.alloc (.cells #[.int .i64 1, .int .i64 2, .slice ta T.length tc] 49)) p (S) (k + 1) (.slice (some ⟨g, 0, none⟩) (S.length) sc)) :=
                    ⟨_, h5.still hbl, (g2.keep k5 g3).chg (Chg.of_below (S := fun _ => False) hbl (Nat.le_refl _)) fun _ _ h => h, fun j hj => .inl (g3 j hj), fun j hj => .inl (g4 j hj)⟩
                  obtain ⟨w6, hw6⟩ : ∃ w6, w6 = w5.alloc (.cells #[.int .i64 1, .int .i64 2, .slice ta T.length tc] 49) := ⟨_, rfl⟩
                  rw [← hw6] at q0 q1 q2 q3 HC HR6
                  obtain ⟨TL, hTL⟩ : ∃ TL, T.length = TL := ⟨_, rfl⟩
                  rw [hTL] at hw6 q0 HC ⊢
                  obtain ⟨ST, hST⟩ : ∃ ST, (⟨T.toArray⟩ : ByteArray) = ST := ⟨_, rfl⟩
                  rw [hST] at q1 HC
                  have hkn' : k < S.length := by omega
                  clear hd g1 g2 g3 g4 hbg hgc hnc hcm hcs htk hTc hT hcell hcT hgJ en ec hown5 hX5 h5 k5 hbl hkl hTL hST
                  go_wp2_with fail
                  rw [← hw6]
                  clear hw6
                  have hcv := HC.out
                  have heq : (ST.toList == ST.toList) = true := by simp
                  have hdec : decide ((S.length : Int) ≤ (k : Int)) = false := by simp; omega
                  go_quiet (fail)
                  clear hcv q0 q1 q2 q3
                  go_wp2_with fail
                  go_roundw
                  case rel => exact ⟨k + 1, by go_num, S, by
                    obtain ⟨J, z1, z2, z3, z4⟩ := HR6.out
                    exact ⟨J, z1.still (Go.Joins.below_draws _ _ _), z2.chg (Chg.of_below (S := fun _ => False) (Go.Joins.below_draws _ _ _) (Nat.le_refl _)) fun _ _ h => h, z3, z4⟩, rfl, by omega, by omega⟩
                  case measure => simp [intOf]; omega
              · obtain rfl : k = S.length := by omega
                have hM : S.length - S.length = 0 := by omega
                rw [hM] at hlenC
                have HLC := Lib.hid hlenC
                have HB := Lib.hid h1.below
                clear h1 hS hvJ hlow hlenC HW3 HW hM
                go_wp2_with (first | (go_at_call 21; refine HLC.out.mono ?_; rintro e w3 ⟨rfl, rfl⟩) | (go_at_call 9; refine (HX.out _ HB.out).mono ?_; rintro e w9 ⟨rfl, hb⟩; have HBE := Lib.hid hb; clear hb))
                go_ret
                exact ⟨rfl, HBE.out⟩
end Go.Proofs.Ytbmebmkpjbgdoaa
