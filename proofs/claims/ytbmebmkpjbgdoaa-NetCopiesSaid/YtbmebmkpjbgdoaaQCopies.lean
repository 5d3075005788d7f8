/- The law NetCopies. -/
import Derived.Test.YtbmebmkpjbgdoaaQTrio
import Derived.Test.YtbmebmkpjbgdoaaAwake
namespace Go.Proofs.Ytbmebmkpjbgdoaa
open Go.RowKit
theorem act_len {l : List AV} {k : Nat} {q : AV} (h : countTo l l.length ≤ 600) (hk : l[k]? = some q) : q.b.length ≤ 175921860444160 := by
  have h1 := countTo_succ l k q hk
  have h2 := countTo_mono l (k + 1) (List.getElem?_eq_some_iff.1 hk).1
  unfold AV.much at h1
  omega
set_option maxRecDepth 100000 in
set_option maxHeartbeats 8000000 in
theorem copies_any (nodes : Int) (v : Value) (l : List AV) (v2 : Value) (l2 : List AV) (w : World) (hp : ActsAt w v l) (hp2 : ActsAt w v2 l2) :
    Calls Try.prog 7 #[.int .i64 nodes, v, v2] w fun e w' => e = .returned (.bool true) ∧ Below w.heap.size w w' := by
  have HX : Hid (∀ W, Below w.heap.size w W → Calls Try.prog 9 #[] W fun e w' => e = .returned (.bool true) ∧ Below w.heap.size w w') := fun W hb => (awake_any W).mono fun e w' h => ⟨h.1, hb.trans (h.2.mono hb.size)⟩
  have HMANY : Hid (∀ W, Below w.heap.size w W → Calls Try.prog 8 #[v] W fun e w' => e = .returned (.bool (decide (600 < countTo l l.length))) ∧ Below W.heap.size W w') := fun W hb => many_any v l W (hp.below hb)
  have HMANY2 : Hid (∀ W, Below w.heap.size w W → Calls Try.prog 8 #[v2] W fun e w' => e = .returned (.bool (decide (600 < countTo l2 l2.length))) ∧ Below W.heap.size W w') := fun W hb => many_any v2 l2 W (hp2.below hb)
  have HP := Lib.hid hp
  have HP2 := Lib.hid hp2
  obtain ⟨a, cap, rfl, hlen, hlc, hn, _⟩ := hp
  obtain ⟨a2, cap2, rfl, hlen2, hlc2, hn2, _⟩ := hp2
  rw [maxLen_eq] at hlen hlen2
  by_cases hr : 1 ≤ nodes ∧ nodes ≤ 15
  · obtain ⟨n, rfl⟩ := Int.eq_ofNat_of_zero_le (show 0 ≤ nodes by omega)
    have HNEW := Lib.hid (fun W => new_yes n W (by omega))
    have HREF := Lib.hid (fun W => rnew_yes n W (by omega))
    cases hmany : decide (600 < countTo l l.length)
    · rw [hmany] at HMANY
      have HLN := Lib.hid (show ∀ (k : Nat) q, l[k]? = some q → q.b.length ≤ 175921860444160 from fun k q hk => act_len (by have := of_decide_eq_false hmany; omega) hk)
      have hc600 : l.length ≤ 600 := by
        have h := of_decide_eq_false hmany
        unfold countTo at h
        omega
      cases hmany2 : decide (600 < countTo l2 l2.length)
      · rw [hmany2] at HMANY2
        have HLN2 := Lib.hid (show ∀ (k : Nat) q, l2[k]? = some q → q.b.length ≤ 175921860444160 from fun k q hk => act_len (by have := of_decide_eq_false hmany2; omega) hk)
        have hc602 : l2.length ≤ 600 := by
          have h := of_decide_eq_false hmany2
          unfold countTo at h
          omega
        clear hn hlc hn2 hlc2 hr hmany hmany2
        go_enter Try.func7, Try.ntmps7
        go_wp2_with fail
        refine (HNEW.out _).mono ?_
        rintro e w1 ⟨p, rfl, hf⟩
        have HF := Lib.hid hf
        have HB1 := Lib.hid (show Below w.heap.size w w1 by obtain ⟨_, _, _, _, h⟩ := hf; exact h)
        clear hf
        go_wp2_with fail
        refine (HMANY.out _ HB1.out).mono ?_
        rintro e w2 ⟨rfl, hb2⟩
        have HB2 := Lib.hid hb2
        have HB2A := Lib.hid (HB1.out.trans (hb2.mono HB1.out.size))
        clear hb2
        go_wp2_with fail
        refine (HMANY2.out _ HB2A.out).mono ?_
        rintro e w3 ⟨rfl, hb3⟩
        have HB3 := Lib.hid (HB2.out.trans (hb3.mono HB2.out.size))
        clear hb3
        go_wp2_with fail
        refine (HREF.out _).mono ?_
        rintro e w4 ⟨q, rfl, hr2, hq1, hq2, hb4⟩
        have HS : Hid (Duo ⟨w, w, fun _ => False⟩ (fun k => k < w.heap.size) w4 p q (Nt.new n) (Nt.new n)) := by
          obtain ⟨O, I, g1, g2, g3⟩ := HF.out
          have hlt := g1.lt
          have hs3 := g3.size
          have hs4 := HB3.out.size
          have hs5 := hb4.size
          have hb14 : Below w1.heap.size w1 w4 := HB3.out.trans (hb4.mono hs4)
          refine ⟨fun _ => False, ⟨O, I, g1.below hb14 (Nat.le_refl _), fun k hk => ⟨fun h => ?_, g2 k (.inl hk)⟩, fun k hk => .inl fun h => ?_, fun k hk => ?_, g3.trans (hb14.mono hs3)⟩, hr2, fun k hk => hk.elim, ⟨fun h => ?_, id, ?_⟩, fun k hk => hk.elim, Nat.le_refl _, ?_⟩
          · have h1 := g2 k (.inl hk)
            have h2 := hlt k (.inl hk)
            rcases h with h | h | h
            · omega
            · exact h
            · omega
          · have h1 := g2 k (.inr hk)
            have h2 := hlt k (.inr hk)
            rcases h with h | h | h
            · omega
            · exact h
            · omega
          · rcases hk with h | h | h
            · omega
            · exact h.elim
            · omega
          · omega
          · show w.heap.size ≤ q; omega
          · show w.heap.size ≤ w4.heap.size; omega
        have HKW : Hid (∀ k, k < w.heap.size → (fun k => k < w.heap.size) k) := fun k hk => hk
        obtain ⟨DD, hDD⟩ : ∃ DD, Nt.new n = DD := ⟨_, rfl⟩
        rw [hDD] at HS
        clear hr2 hq1 hq2 hb4 HF HB1 HB2 HB2A HB3 HNEW HREF hDD
        go_wp2_with fail
        go_loopw [10] (fun i wr => ∃ k : Nat, k ≤ l.length ∧ i = .int .i64 (k : Nat) ∧ Hid (Duo ⟨w, w, fun _ => False⟩ (fun k => k < w.heap.size) wr p q (DD.acts l k) (DD.acts l k))) (fun i _ => l.length - (intOf i).toNat)
        case atStart => exact ⟨0, Nat.zero_le _, rfl, HS.out⟩
        case round =>
          obtain ⟨k, hk, rfl, HI⟩ := hrel
          by_cases hlt : k < l.length
          · have hbw : Below w.heap.size w wr := HI.out.below.all
            obtain ⟨b, off, hab, hb, hc⟩ := (by obtain ⟨a', cap', e1, _, _, _, hc⟩ := HP.out; cases e1; exact hc (by omega) : ∃ b off, a = some ⟨b, off, none⟩ ∧ b < _ ∧ ∀ (j : Nat) q, l[j]? = some q → q.ok ∧ ∃ u, BytesAt w u q.b ∧ ∀ r, r < 5 → w.cell? ⟨b, off + j * 5 + r, none⟩ = (q.cells u)[r]?)
            subst hab
            obtain ⟨c, hck⟩ : ∃ c, l[k]? = some c := ⟨_, List.getElem?_eq_getElem hlt⟩
            obtain ⟨hok, u, hu, hr⟩ := hc k c hck
            obtain ⟨ua, uc, rfl, _⟩ := hu.form
            have e0 : wr.cell? ⟨b, off + k * 5, none⟩ = some (.int .i64 c.o) := by rw [hbw.cell (show (⟨b, off + k * 5, none⟩ : Addr).block < _ from hb)]; exact hr 0 (by omega)
            have e1 : wr.cell? ⟨b, off + k * 5 + 1, none⟩ = some (.int .i64 c.x) := by rw [hbw.cell (show (⟨b, off + k * 5 + 1, none⟩ : Addr).block < _ from hb)]; exact hr 1 (by omega)
            have e2 : wr.cell? ⟨b, off + k * 5 + 2, none⟩ = some (.int .i64 c.y) := by rw [hbw.cell (show (⟨b, off + k * 5 + 2, none⟩ : Addr).block < _ from hb)]; exact hr 2 (by omega)
            have e3 : wr.cell? ⟨b, off + k * 5 + 3, none⟩ = some (.int .i64 c.i) := by rw [hbw.cell (show (⟨b, off + k * 5 + 3, none⟩ : Addr).block < _ from hb)]; exact hr 3 (by omega)
            have e4 : wr.cell? ⟨b, off + k * 5 + 4, none⟩ = some (.slice ua c.b.length uc) := by rw [hbw.cell (show (⟨b, off + k * 5 + 4, none⟩ : Addr).block < _ from hb)]; exact hr 4 (by omega)
            have HACT := Lib.hid (act_any HI.out c (.slice ua c.b.length uc) ((hu.wide (J := fun k => k < w.heap.size) fun k hk _ => hk).below hbw (Nat.le_refl _) |>.wide fun k _ hk => HKW.out k hk) (HLN.out k c hck))
            have HSUC := Lib.hid (Nt.acts_succ DD l hck)
            obtain ⟨d', hd'⟩ : ∃ d', (DD.acts l k).act c = d' := ⟨_, rfl⟩
            rw [hd'] at HACT HSUC
            obtain ⟨co, cx, cy, ci, cb⟩ := c
            dsimp only at e0 e1 e2 e3 e4 HACT
            unfold AV.cells at HACT
            obtain ⟨Z, hZ⟩ : ∃ Z, cb.length = Z := ⟨_, rfl⟩
            rw [hZ] at e4 HACT
            clear hc hck hu hr hok hd' hZ hbw
            go_wp2_with fail
            refine HACT.out.mono ?_
            rintro e w3 ⟨rfl, hd3, hk3⟩
            have H3 := Lib.hid (And.intro hd3 hk3)
            clear hd3 hk3 e0 e1 e2 e3 e4
            go_wp2
            go_roundw
            case rel => exact ⟨k + 1, by omega, by go_num, by rw [HSUC.out]; exact H3.out.1⟩
            case measure => simp [intOf]; omega
          · obtain rfl : k = l.length := by omega
            obtain ⟨d, hd⟩ : ∃ d, DD.acts l l.length = d := ⟨_, rfl⟩
            rw [hd] at HI
            clear hd HS HKW
            go_wp2_with fail
            refine HI.out.tri.mono ?_
            rintro e w5 ⟨p', rfl, ht⟩
            obtain ⟨ba, bc, ca, cc, x0, x1, L, x2, hq⟩ := ht.quad
            obtain ⟨W6, hW6⟩ : ∃ W6, W6 = w5.alloc (.cells #[.int .i64 (d.n : Nat), .slice ba d.bag.length bc, .slice ca L cc] 64) := ⟨_, rfl⟩
            obtain ⟨S, K, hd6, hq6, hK6⟩ := hq W6 hW6
            have HD6 := Lib.hid hd6
            have HQ6 := Lib.hid hq6
            have HKW : Hid (∀ k, k < w.heap.size → K k) := hK6
            obtain ⟨q', hq'⟩ : ∃ q', q' = w5.heap.size := ⟨_, rfl⟩
            rw [← hq'] at HQ6
            obtain ⟨nn, hnn⟩ : ∃ nn, d.n = nn := ⟨_, rfl⟩
            obtain ⟨bn, hbn⟩ : ∃ bn, d.bag.length = bn := ⟨_, rfl⟩
            rw [hnn] at x0 hW6
            rw [hbn] at x1 hW6
            obtain ⟨DE, hDE⟩ : ∃ DE, DE = d := ⟨_, rfl⟩
            rw [← hDE] at HD6 HQ6
            clear ht hq hd6 hq6 hK6 hnn hbn HI hDE
            clear d
            go_wp2_with fail
            rw [← hW6, ← hq']
            clear hW6 hq' x0 x1 x2
            go_loopw [13] (fun i wr => ∃ k : Nat, k ≤ l2.length ∧ i = .int .i64 (k : Nat) ∧ Hid (Duo ⟨w, W6, S⟩ K wr p q (DE.acts l2 k) (DE.acts l2 k) ∧ Keep K W6 wr)) (fun i _ => l2.length - (intOf i).toNat)
            case atStart => exact ⟨0, Nat.zero_le _, rfl, HD6.out, Keep.refl _ _⟩
            case round =>
              obtain ⟨k, hk, rfl, HI⟩ := hrel
              by_cases hlt : k < l2.length
              · have hbw : Below w.heap.size w wr := HI.out.1.below.all
                obtain ⟨b, off, hab, hb, hc⟩ := (by obtain ⟨a', cap', e1, _, _, _, hc⟩ := HP2.out; cases e1; exact hc (by omega) : ∃ b off, a2 = some ⟨b, off, none⟩ ∧ b < _ ∧ ∀ (j : Nat) q, l2[j]? = some q → q.ok ∧ ∃ u, BytesAt w u q.b ∧ ∀ r, r < 5 → w.cell? ⟨b, off + j * 5 + r, none⟩ = (q.cells u)[r]?)
                subst hab
                obtain ⟨c, hck⟩ : ∃ c, l2[k]? = some c := ⟨_, List.getElem?_eq_getElem hlt⟩
                obtain ⟨hok, u, hu, hr⟩ := hc k c hck
                obtain ⟨ua, uc, rfl, _⟩ := hu.form
                have e0 : wr.cell? ⟨b, off + k * 5, none⟩ = some (.int .i64 c.o) := by rw [hbw.cell (show (⟨b, off + k * 5, none⟩ : Addr).block < _ from hb)]; exact hr 0 (by omega)
                have e1 : wr.cell? ⟨b, off + k * 5 + 1, none⟩ = some (.int .i64 c.x) := by rw [hbw.cell (show (⟨b, off + k * 5 + 1, none⟩ : Addr).block < _ from hb)]; exact hr 1 (by omega)
                have e2 : wr.cell? ⟨b, off + k * 5 + 2, none⟩ = some (.int .i64 c.y) := by rw [hbw.cell (show (⟨b, off + k * 5 + 2, none⟩ : Addr).block < _ from hb)]; exact hr 2 (by omega)
                have e3 : wr.cell? ⟨b, off + k * 5 + 3, none⟩ = some (.int .i64 c.i) := by rw [hbw.cell (show (⟨b, off + k * 5 + 3, none⟩ : Addr).block < _ from hb)]; exact hr 3 (by omega)
                have e4 : wr.cell? ⟨b, off + k * 5 + 4, none⟩ = some (.slice ua c.b.length uc) := by rw [hbw.cell (show (⟨b, off + k * 5 + 4, none⟩ : Addr).block < _ from hb)]; exact hr 4 (by omega)
                have HACT := Lib.hid (act_any HI.out.1 c (.slice ua c.b.length uc) ((hu.wide (J := fun k => k < w.heap.size) fun k hk _ => hk).below hbw (Nat.le_refl _) |>.wide fun k _ hk => HKW.out k hk) (HLN2.out k c hck))
                have HSUC := Lib.hid (Nt.acts_succ DE l2 hck)
                obtain ⟨d', hd'⟩ : ∃ d', (DE.acts l2 k).act c = d' := ⟨_, rfl⟩
                rw [hd'] at HACT HSUC
                obtain ⟨co, cx, cy, ci, cb⟩ := c
                dsimp only at e0 e1 e2 e3 e4 HACT
                unfold AV.cells at HACT
                obtain ⟨Z, hZ⟩ : ∃ Z, cb.length = Z := ⟨_, rfl⟩
                rw [hZ] at e4 HACT
                clear hc hck hu hr hok hd' hZ hbw
                go_wp2_with fail
                refine HACT.out.mono ?_
                rintro e w3 ⟨rfl, hd3, hk3⟩
                have H3 := Lib.hid (And.intro hd3 hk3)
                clear hd3 hk3 e0 e1 e2 e3 e4
                go_wp2
                go_roundw
                case rel => exact ⟨k + 1, by omega, by go_num, by rw [HSUC.out]; exact ⟨H3.out.1, HI.out.2.trans H3.out.2⟩⟩
                case measure => simp [intOf]; omega
              · obtain rfl : k = l2.length := by omega
                obtain ⟨d2, hd2⟩ : ∃ d2, DE.acts l2 l2.length = d2 := ⟨_, rfl⟩
                have HD2 := Lib.hid hd2
                rw [hd2] at HI
                clear hd2
                have HQ7 := Lib.hid (HQ6.out.keep HI.out.2)
                have HST := Lib.hid (stands_any HQ7.out.pal)
                go_wp2_with fail
                refine HST.out.mono ?_
                rintro e w8 ⟨rfl, hb8⟩
                obtain ⟨K2, hd9, hr9, hK9⟩ := (HQ7.out.still hb8).turn (HI.out.1.still hb8)
                have HD9 := Lib.hid hd9
                have HR9 := Lib.hid hr9
                have HKW2 : Hid (∀ k, k < w.heap.size → K2 k) := hK9
                clear hd9 hr9 hK9 hb8 HST HQ7 HQ6 HI HD6 HKW
                go_wp2_with fail
                go_loopw [14] (fun i wr => ∃ k : Nat, k ≤ l2.length ∧ i = .int .i64 (k : Nat) ∧ Hid (Duo ⟨w, w8, S⟩ K2 wr p' q' (DE.acts l2 k) (DE.acts l2 k) ∧ Keep K2 w8 wr)) (fun i _ => l2.length - (intOf i).toNat)
                case atStart => exact ⟨0, Nat.zero_le _, rfl, HD9.out, Keep.refl _ _⟩
                case round =>
                  obtain ⟨k, hk, rfl, HI⟩ := hrel
                  by_cases hlt : k < l2.length
                  · have hbw : Below w.heap.size w wr := HI.out.1.below.all
                    obtain ⟨b, off, hab, hb, hc⟩ := (by obtain ⟨a', cap', e1, _, _, _, hc⟩ := HP2.out; cases e1; exact hc (by omega) : ∃ b off, a2 = some ⟨b, off, none⟩ ∧ b < _ ∧ ∀ (j : Nat) q, l2[j]? = some q → q.ok ∧ ∃ u, BytesAt w u q.b ∧ ∀ r, r < 5 → w.cell? ⟨b, off + j * 5 + r, none⟩ = (q.cells u)[r]?)
                    subst hab
                    obtain ⟨c, hck⟩ : ∃ c, l2[k]? = some c := ⟨_, List.getElem?_eq_getElem hlt⟩
                    obtain ⟨hok, u, hu, hr⟩ := hc k c hck
                    obtain ⟨ua, uc, rfl, _⟩ := hu.form
                    have e0 : wr.cell? ⟨b, off + k * 5, none⟩ = some (.int .i64 c.o) := by rw [hbw.cell (show (⟨b, off + k * 5, none⟩ : Addr).block < _ from hb)]; exact hr 0 (by omega)
                    have e1 : wr.cell? ⟨b, off + k * 5 + 1, none⟩ = some (.int .i64 c.x) := by rw [hbw.cell (show (⟨b, off + k * 5 + 1, none⟩ : Addr).block < _ from hb)]; exact hr 1 (by omega)
                    have e2 : wr.cell? ⟨b, off + k * 5 + 2, none⟩ = some (.int .i64 c.y) := by rw [hbw.cell (show (⟨b, off + k * 5 + 2, none⟩ : Addr).block < _ from hb)]; exact hr 2 (by omega)
                    have e3 : wr.cell? ⟨b, off + k * 5 + 3, none⟩ = some (.int .i64 c.i) := by rw [hbw.cell (show (⟨b, off + k * 5 + 3, none⟩ : Addr).block < _ from hb)]; exact hr 3 (by omega)
                    have e4 : wr.cell? ⟨b, off + k * 5 + 4, none⟩ = some (.slice ua c.b.length uc) := by rw [hbw.cell (show (⟨b, off + k * 5 + 4, none⟩ : Addr).block < _ from hb)]; exact hr 4 (by omega)
                    have HACT := Lib.hid (act_any HI.out.1 c (.slice ua c.b.length uc) ((hu.wide (J := fun k => k < w.heap.size) fun k hk _ => hk).below hbw (Nat.le_refl _) |>.wide fun k _ hk => HKW2.out k hk) (HLN2.out k c hck))
                    have HSUC := Lib.hid (Nt.acts_succ DE l2 hck)
                    obtain ⟨d', hd'⟩ : ∃ d', (DE.acts l2 k).act c = d' := ⟨_, rfl⟩
                    rw [hd'] at HACT HSUC
                    obtain ⟨co, cx, cy, ci, cb⟩ := c
                    dsimp only at e0 e1 e2 e3 e4 HACT
                    unfold AV.cells at HACT
                    obtain ⟨Z, hZ⟩ : ∃ Z, cb.length = Z := ⟨_, rfl⟩
                    rw [hZ] at e4 HACT
                    clear hc hck hu hr hok hd' hZ hbw
                    go_wp2_with fail
                    refine HACT.out.mono ?_
                    rintro e w3 ⟨rfl, hd3, hk3⟩
                    have H3 := Lib.hid (And.intro hd3 hk3)
                    clear hd3 hk3 e0 e1 e2 e3 e4
                    go_wp2
                    go_roundw
                    case rel => exact ⟨k + 1, by omega, by go_num, by rw [HSUC.out]; exact ⟨H3.out.1, HI.out.2.trans H3.out.2⟩⟩
                    case measure => simp [intOf]; omega
                  · obtain rfl : k = l2.length := by omega
                    rw [HD2.out] at HI
                    have HB := Lib.hid (show Below w.heap.size w wr from HI.out.1.below.all)
                    have HPL := Lib.hid (Pal.cross (HR9.out.keep HI.out.2).pal HI.out.1.pal)
                    have HST1 := Lib.hid (stands_any HPL.out.1)
                    go_wp2_with fail
                    refine HST1.out.mono ?_
                    rintro e w10 ⟨rfl, hb10⟩
                    have HST2 := Lib.hid (stands_any (HPL.out.2.still hb10))
                    have HB10 := Lib.hid (HB.out.trans (hb10.mono HB.out.size))
                    clear hb10
                    go_wp2_with fail
                    refine HST2.out.mono ?_
                    rintro e w11 ⟨rfl, hb11⟩
                    have HB11 := Lib.hid (HB10.out.trans (hb11.mono HB10.out.size))
                    clear hb11
                    go_wp2_with (go_at_call 9; refine (HX.out _ HB11.out).mono ?_; rintro e w9 ⟨rfl, hb⟩; have HBE := Lib.hid hb; clear hb)
                    go_ret
                    exact ⟨rfl, HBE.out⟩
      · rw [hmany2] at HMANY2
        clear hr hmany hmany2
        go_enter Try.func7, Try.ntmps7
        go_wp2_with fail
        refine (HNEW.out _).mono ?_
        rintro e w1 ⟨p, rfl, hf⟩
        have HB1 := Lib.hid (show Below w.heap.size w w1 by obtain ⟨_, _, _, _, h⟩ := hf; exact h)
        clear hf
        go_wp2_with fail
        refine (HMANY.out _ HB1.out).mono ?_
        rintro e w2 ⟨rfl, hb2⟩
        have HB2 := Lib.hid (HB1.out.trans (hb2.mono HB1.out.size))
        clear hb2
        go_wp2_with fail
        refine (HMANY2.out _ HB2.out).mono ?_
        rintro e w3 ⟨rfl, hb3⟩
        have HB3 := Lib.hid (HB2.out.trans (hb3.mono HB2.out.size))
        clear hb3
        go_wp2_with (go_at_call 9; refine (HX.out _ HB3.out).mono ?_; rintro e w9 ⟨rfl, hb⟩; have HBE := Lib.hid hb; clear hb)
        go_ret
        exact ⟨rfl, HBE.out⟩
    · rw [hmany] at HMANY
      clear hr hmany
      go_enter Try.func7, Try.ntmps7
      go_wp2_with fail
      refine (HNEW.out _).mono ?_
      rintro e w1 ⟨p, rfl, hf⟩
      have HB1 := Lib.hid (show Below w.heap.size w w1 by obtain ⟨_, _, _, _, h⟩ := hf; exact h)
      clear hf
      go_wp2_with fail
      refine (HMANY.out _ HB1.out).mono ?_
      rintro e w2 ⟨rfl, hb2⟩
      have HB2 := Lib.hid (HB1.out.trans (hb2.mono HB1.out.size))
      clear hb2
      go_wp2_with (go_at_call 9; refine (HX.out _ HB2.out).mono ?_; rintro e w9 ⟨rfl, hb⟩; have HBE := Lib.hid hb; clear hb)
      go_ret
      exact ⟨rfl, HBE.out⟩
  · have HNEW := Lib.hid (fun W => new_no nodes W (by omega))
    clear hr
    go_enter Try.func7, Try.ntmps7
    go_wp2_with fail
    refine (HNEW.out _).mono ?_
    rintro e w1 ⟨rfl, rfl⟩
    go_wp2_with (go_at_call 9; refine (HX.out _ (Below.refl _ _)).mono ?_; rintro e w9 ⟨rfl, hb⟩; have HBE := Lib.hid hb; clear hb)
    go_ret
    exact ⟨rfl, HBE.out⟩
end Go.Proofs.Ytbmebmkpjbgdoaa
