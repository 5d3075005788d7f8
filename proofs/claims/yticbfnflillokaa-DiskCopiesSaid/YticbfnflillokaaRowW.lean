/- The law DiskCopies. -/
import Derived.Test.YticbfnflillokaaRowV
namespace Go.Proofs.Yticbfnflillokaa
open Go.RowKit
set_option maxRecDepth 100000 in
set_option maxHeartbeats 8000000 in
theorem diskCopies_any (n : Int) (v : Value) (l : List AV) (v2 : Value) (l2 : List AV) (w : World) (hp : ActsIn w v l) (hp2 : ActsIn w v2 l2) :
    Calls Try.prog 8 #[.int .i64 n, v, v2] w fun e w' => e = .returned (.bool true) ∧ Below w.heap.size w w' := by
  have HX : Hid (∀ W, Below w.heap.size w W → Calls Try.prog 10 #[] W fun e w' => e = .returned (.bool true) ∧ Below w.heap.size w w') := fun W hb => (awake_any W).mono fun e w' h => ⟨h.1, hb.trans (h.2.mono hb.size)⟩
  by_cases hcap : n < 0 ∨ 65536 < n
  · have HB0 := Lib.hid (fun W => new_bad n W hcap)
    have HR0 := Lib.hid (fun W => rnew_bad n W hcap)
    obtain ⟨⟨a, cap, rfl, _⟩, _⟩ := hp
    obtain ⟨⟨a2, cap2, rfl, _⟩, _⟩ := hp2
    clear hcap
    go_enter Try.func8, Try.ntmps8
    go_wp2_with fail
    refine (HB0.out w).mono ?_
    rintro e w3 ⟨rfl, rfl⟩
    go_wp2_with fail
    refine (HR0.out w).mono ?_
    rintro e w3 ⟨rfl, rfl⟩
    go_wp2_with fail
    refine (HX.out _ (Below.refl _ _)).mono ?_
    rintro e w9 ⟨rfl, hb⟩
    have HBE := Lib.hid hb
    clear hb
    go_wp2
    go_ret
    exact ⟨rfl, HBE.out⟩
  obtain ⟨c, rfl⟩ : ∃ c : Nat, n = (c : Int) := ⟨n.toNat, by omega⟩
  have HNEW := Lib.hid (fun W => new_any c W (by omega))
  have HREF := Lib.hid (fun W => rnew_any c W (by omega))
  have HMANY : Hid (∀ W, Below w.heap.size w W → Calls Try.prog 9 #[v] W fun e w' => e = .returned (.bool (decide (400 < countTo l l.length))) ∧ Below W.heap.size W w') := fun W hb => many_any v l W (hp.below hb)
  have HMANY2 : Hid (∀ W, Below w.heap.size w W → Calls Try.prog 9 #[v2] W fun e w' => e = .returned (.bool (decide (400 < countTo l2 l2.length))) ∧ Below W.heap.size W w') := fun W hb => many_any v2 l2 W (hp2.below hb)
  have HP := Lib.hid hp
  have HP2 := Lib.hid hp2
  obtain ⟨⟨a, cap, rfl, hlen, _, _, _⟩, _⟩ := hp
  obtain ⟨⟨a2, cap2, rfl, hlen2, _, _, _⟩, _⟩ := hp2
  rw [maxLen_eq] at hlen hlen2
  clear hcap
  by_cases hg : 400 < countTo l l.length
  · rw [decide_eq_true hg] at HMANY
    clear hg
    go_enter Try.func8, Try.ntmps8
    go_wp2_with fail
    refine (HNEW.out _).mono ?_
    rintro e w1 ⟨p, rfl, hf⟩
    have HF := Lib.hid hf
    have HB1 := Lib.hid (show Below w.heap.size w w1 by obtain ⟨_, _, _, _, h⟩ := hf; exact h)
    clear hf
    go_wp2_with fail
    refine (HREF.out w1).mono ?_
    rintro e w2 ⟨q, rfl, hr, hq, hb2⟩
    have HR2 := Lib.hid (And.intro hr hq)
    have HB12 := Lib.hid hb2
    have HB2 := Lib.hid (HB1.out.trans (hb2.mono HB1.out.size))
    clear hr hq hb2
    go_wp2_with fail
    refine (HMANY.out _ HB2.out).mono ?_
    rintro e w3 ⟨rfl, hb3⟩
    have HB23 := Lib.hid hb3
    have HB3 := Lib.hid (HB2.out.trans (hb3.mono HB2.out.size))
    clear hb3
    go_wp2_with fail
    refine (HX.out _ HB3.out).mono ?_
    rintro e w9 ⟨rfl, hb⟩
    have HBE := Lib.hid hb
    clear hb
    go_wp2
    go_ret
    exact ⟨rfl, HBE.out⟩
  rw [decide_eq_false hg] at HMANY
  have HLN := Lib.hid (show ∀ (k : Nat) z, l[k]? = some z → z.b.length ≤ 100000 from fun k z hk => act_len (by omega) hk)
  have hl400 : l.length ≤ 400 := by unfold countTo at hg; omega
  clear hg
  by_cases hg : 400 < countTo l2 l2.length
  · rw [decide_eq_true hg] at HMANY2
    clear hg
    go_enter Try.func8, Try.ntmps8
    go_wp2_with fail
    refine (HNEW.out _).mono ?_
    rintro e w1 ⟨p, rfl, hf⟩
    have HF := Lib.hid hf
    have HB1 := Lib.hid (show Below w.heap.size w w1 by obtain ⟨_, _, _, _, h⟩ := hf; exact h)
    clear hf
    go_wp2_with fail
    refine (HREF.out w1).mono ?_
    rintro e w2 ⟨q, rfl, hr, hq, hb2⟩
    have HR2 := Lib.hid (And.intro hr hq)
    have HB12 := Lib.hid hb2
    have HB2 := Lib.hid (HB1.out.trans (hb2.mono HB1.out.size))
    clear hr hq hb2
    go_wp2_with fail
    refine (HMANY.out _ HB2.out).mono ?_
    rintro e w3 ⟨rfl, hb3⟩
    have HB23 := Lib.hid hb3
    have HB3 := Lib.hid (HB2.out.trans (hb3.mono HB2.out.size))
    clear hb3
    go_wp2_with fail
    refine (HMANY2.out _ HB3.out).mono ?_
    rintro e w4 ⟨rfl, hb4⟩
    have HB34 := Lib.hid hb4
    have HB4 := Lib.hid (HB3.out.trans (hb4.mono HB3.out.size))
    clear hb4
    go_wp2_with fail
    refine (HX.out _ HB4.out).mono ?_
    rintro e w9 ⟨rfl, hb⟩
    have HBE := Lib.hid hb
    clear hb
    go_wp2
    go_ret
    exact ⟨rfl, HBE.out⟩
  rw [decide_eq_false hg] at HMANY2
  have HLN2 := Lib.hid (show ∀ (k : Nat) z, l2[k]? = some z → z.b.length ≤ 100000 from fun k z hk => act_len (by omega) hk)
  have hl402 : l2.length ≤ 400 := by unfold countTo at hg; omega
  clear hg
  go_enter Try.func8, Try.ntmps8
  go_wp2_with fail
  refine (HNEW.out _).mono ?_
  rintro e w1 ⟨p, rfl, hf⟩
  have HF := Lib.hid hf
  have HB1 := Lib.hid (show Below w.heap.size w w1 by obtain ⟨_, _, _, _, h⟩ := hf; exact h)
  clear hf
  go_wp2_with fail
  refine (HREF.out w1).mono ?_
  rintro e w2 ⟨q, rfl, hr, hq, hb2⟩
  have HR2 := Lib.hid (And.intro hr hq)
  have HB12 := Lib.hid hb2
  have HB2 := Lib.hid (HB1.out.trans (hb2.mono HB1.out.size))
  clear hr hq hb2
  go_wp2_with fail
  refine (HMANY.out _ HB2.out).mono ?_
  rintro e w3 ⟨rfl, hb3⟩
  have HB23 := Lib.hid hb3
  have HB3 := Lib.hid (HB2.out.trans (hb3.mono HB2.out.size))
  clear hb3
  go_wp2_with fail
  refine (HMANY2.out _ HB3.out).mono ?_
  rintro e w4 ⟨rfl, hb4⟩
  have HB34 := Lib.hid hb4
  have HB4 := Lib.hid (HB3.out.trans (hb4.mono HB3.out.size))
  clear hb4
  have HS : Hid (Duo ⟨w, w, fun _ => False⟩ (fun k => k < w.heap.size) w4 p q 0 0 (Dk.new c) (Dk.new c)) := by
    have hs : Duo ⟨w, w, fun _ => False⟩ (fun k => k < w.heap.size) w2 p q 0 0 (Dk.new c) (Dk.new c) := by
      obtain ⟨O, I, g1, g2, g3⟩ := HF.out
      have hlt := g1.lt
      have hs3 := g3.size
      have hs4 := HB12.out.size
      have hr := HR2.out.1
      have hq := HR2.out.2
      refine ⟨fun _ => False, ⟨O, I, g1.below HB12.out (Nat.le_refl _), fun k hk => ⟨fun h => ?_, by have := g2 k (.inl hk); show w.heap.size ≤ k; omega⟩, fun k hk => .inl fun h => ?_, fun k hk => ?_, HB2.out⟩, hr, fun k hk => hk.elim, ⟨fun h => ?_, id, ?_⟩, fun k hk => hk.elim, Nat.le_refl _, ?_⟩
      · have h1 := g2 k (.inl hk)
        have h2 := hlt k (.inl hk)
        rcases h with h | h | h
        · omega
        · exact h
        · omega
      · have h1 := g2 k (.inr hk)
        have h2 := hlt k (.inr hk)
        rcases h with h | h | h
        · omega
        · exact h
        · omega
      · rcases hk with h | h | h
        · omega
        · exact h.elim
        · have := hr.q_lt; omega
      · omega
      · show w.heap.size ≤ q; omega
      · show w.heap.size ≤ w2.heap.size; omega
    exact (hs.still HB23.out).still HB34.out
  have HKW : Hid (∀ k, k < w.heap.size → (fun k => k < w.heap.size) k) := fun k hk => hk
  obtain ⟨DD, hDD⟩ : ∃ DD, Dk.new c = DD := ⟨_, rfl⟩
  rw [hDD] at HS
  clear HF HR2 HB1 HB12 HB2 HB23 HB3 HB34 HB4 HNEW HREF hDD
  go_wp2_with fail
  go_loopw [10] (fun i wr => ∃ k : Nat, k ≤ l.length ∧ i = .int .i64 (k : Nat) ∧ Hid (Duo ⟨w, w, fun _ => False⟩ (fun k => k < w.heap.size) wr p q k k (DD.acts l k) (DD.acts l k))) (fun i _ => l.length - (intOf i).toNat)
  case atStart => exact ⟨0, Nat.zero_le _, rfl, HS.out⟩
  case round =>
    obtain ⟨k, hk, rfl, HI⟩ := hrel
    by_cases hlt : k < l.length
    · have hbw : Below w.heap.size w wr := HI.out.below.all
      obtain ⟨b, off, hab, hb, hc⟩ := (by obtain ⟨⟨a', cap', e1, _, _, _, hc⟩, _⟩ := HP.out; cases e1; exact hc (by omega) : ∃ b off, a = some ⟨b, off, none⟩ ∧ b < w.heap.size ∧ ∀ (j : Nat) q, l[j]? = some q → q.ok ∧ ∃ u, BytesAt w u q.b ∧ ∀ r, r < 6 → w.cell? ⟨b, off + j * 6 + r, none⟩ = (q.cells u)[r]?)
      subst hab
      obtain ⟨z, hck⟩ : ∃ z, l[k]? = some z := ⟨_, List.getElem?_eq_getElem hlt⟩
      obtain ⟨hok, u, hu, hr⟩ := hc k z hck
      obtain ⟨ua, uc, rfl, _⟩ := hu.form
      have e0 : wr.cell? ⟨b, off + k * 6, none⟩ = some (.int .i64 z.o) := by rw [hbw.cell (show (⟨b, off + k * 6, none⟩ : Addr).block < _ from hb)]; exact hr 0 (by omega)
      have e1 : wr.cell? ⟨b, off + k * 6 + 1, none⟩ = some (.string ⟨z.name.toArray⟩) := by rw [hbw.cell (show (⟨b, off + k * 6 + 1, none⟩ : Addr).block < _ from hb)]; exact hr 1 (by omega)
      have e2 : wr.cell? ⟨b, off + k * 6 + 2, none⟩ = some (.string ⟨z.to.toArray⟩) := by rw [hbw.cell (show (⟨b, off + k * 6 + 2, none⟩ : Addr).block < _ from hb)]; exact hr 2 (by omega)
      have e3 : wr.cell? ⟨b, off + k * 6 + 3, none⟩ = some (.slice ua z.b.length uc) := by rw [hbw.cell (show (⟨b, off + k * 6 + 3, none⟩ : Addr).block < _ from hb)]; exact hr 3 (by omega)
      have e4 : wr.cell? ⟨b, off + k * 6 + 4, none⟩ = some (.int .i64 z.x) := by rw [hbw.cell (show (⟨b, off + k * 6 + 4, none⟩ : Addr).block < _ from hb)]; exact hr 4 (by omega)
      have e5 : wr.cell? ⟨b, off + k * 6 + 5, none⟩ = some (.int .i64 z.y) := by rw [hbw.cell (show (⟨b, off + k * 6 + 5, none⟩ : Addr).block < _ from hb)]; exact hr 5 (by omega)
      have HACT := Lib.hid (act_any HI.out (by omega) (by omega) z hok (.slice ua z.b.length uc) ((hu.wide (J := fun k => k < w.heap.size) fun k hk _ => hk).below hbw (Nat.le_refl _) |>.wide fun k _ hk => HKW.out k hk) (HLN.out k z hck))
      have HSUC := Lib.hid (Dk.acts_succ DD l hck)
      obtain ⟨d', hd'⟩ : ∃ d', (DD.acts l k).act z = d' := ⟨_, rfl⟩
      rw [hd'] at HACT HSUC
      obtain ⟨zo, zn, zt, zb, zx, zy⟩ := z
      dsimp only at e0 e1 e2 e3 e4 e5 HACT
      unfold AV.cells at HACT
      obtain ⟨ZL, hZ⟩ : ∃ ZL, zb.length = ZL := ⟨_, rfl⟩
      rw [hZ] at e3 HACT
      clear hc hck hu hr hok hd' hZ hbw
      go_wp2_with fail
      refine HACT.out.mono ?_
      rintro e w3 ⟨rfl, hd3, hk3⟩
      have H3 := Lib.hid (And.intro hd3 hk3)
      clear hd3 hk3 e0 e1 e2 e3 e4 e5
      go_wp2
      go_roundw
      case rel => exact ⟨k + 1, by omega, by go_num, by rw [HSUC.out]; exact H3.out.1⟩
      case measure => simp [intOf]; omega
    · obtain rfl : k = l.length := by omega
      obtain ⟨d, hd⟩ : ∃ d, DD.acts l l.length = d := ⟨_, rfl⟩
      rw [hd] at HI
      clear hd HS HKW
      go_wp2_with fail
      refine (HI.out.tri (by omega)).mono ?_
      rintro e w5 ⟨p', rfl, ht⟩
      obtain ⟨ba, bL, bc, ca, cL, cc, x0, x1, x2, x3, x4, hq⟩ := ht.quad
      obtain ⟨W6, hW6⟩ : ∃ W6, W6 = w5.alloc (.cells #[.slice ba bL bc, .slice ca cL cc, .int .i64 (d.cap : Nat), .int .u64 (d.serial : Nat), .bool d.down] 68) := ⟨_, rfl⟩
      obtain ⟨S, K, hd6, hq6, hK6⟩ := hq W6 hW6
      have HD6 := Lib.hid hd6
      have HQ6 := Lib.hid hq6
      have HKW : Hid (∀ k, k < w.heap.size → K k) := hK6
      have HB6 := Lib.hid hd6.below.all
      obtain ⟨q', hq'⟩ : ∃ q', q' = w5.heap.size := ⟨_, rfl⟩
      rw [← hq'] at HQ6
      obtain ⟨nn, hnn⟩ : ∃ nn, d.cap = nn := ⟨_, rfl⟩
      obtain ⟨ns, hns⟩ : ∃ ns, d.serial = ns := ⟨_, rfl⟩
      obtain ⟨nd, hnd⟩ : ∃ nd, d.down = nd := ⟨_, rfl⟩
      rw [hnn] at x2 hW6
      rw [hns] at x3 hW6
      rw [hnd] at x4 hW6
      obtain ⟨DE, hDE⟩ : ∃ DE, DE = d := ⟨_, rfl⟩
      rw [← hDE] at HD6 HQ6
      clear ht hq hd6 hq6 hK6 hnn hns hnd HI hDE
      clear d
      go_wp2_with fail
      rw [← hW6, ← hq']
      clear hW6 hq' x0 x1 x2 x3 x4
      go_loopw [13] (fun i wr => ∃ k : Nat, k ≤ l2.length ∧ i = .int .i64 (k : Nat) ∧ Hid (Duo ⟨w, W6, S⟩ K wr p q (l.length + k) (l.length + k) (DE.acts l2 k) (DE.acts l2 k) ∧ Keep K W6 wr)) (fun i _ => l2.length - (intOf i).toNat)
      case atStart => exact ⟨0, Nat.zero_le _, rfl, HD6.out, Keep.refl _ _⟩
      case round =>
        obtain ⟨k, hk, rfl, HI⟩ := hrel
        by_cases hlt : k < l2.length
        · have hbw : Below w.heap.size w wr := HI.out.1.below.all
          obtain ⟨b, off, hab, hb, hc⟩ := (by obtain ⟨⟨a', cap', e1, _, _, _, hc⟩, _⟩ := HP2.out; cases e1; exact hc (by omega) : ∃ b off, a2 = some ⟨b, off, none⟩ ∧ b < w.heap.size ∧ ∀ (j : Nat) q, l2[j]? = some q → q.ok ∧ ∃ u, BytesAt w u q.b ∧ ∀ r, r < 6 → w.cell? ⟨b, off + j * 6 + r, none⟩ = (q.cells u)[r]?)
          subst hab
          obtain ⟨z, hck⟩ : ∃ z, l2[k]? = some z := ⟨_, List.getElem?_eq_getElem hlt⟩
          obtain ⟨hok, u, hu, hr⟩ := hc k z hck
          obtain ⟨ua, uc, rfl, _⟩ := hu.form
          have e0 : wr.cell? ⟨b, off + k * 6, none⟩ = some (.int .i64 z.o) := by rw [hbw.cell (show (⟨b, off + k * 6, none⟩ : Addr).block < _ from hb)]; exact hr 0 (by omega)
          have e1 : wr.cell? ⟨b, off + k * 6 + 1, none⟩ = some (.string ⟨z.name.toArray⟩) := by rw [hbw.cell (show (⟨b, off + k * 6 + 1, none⟩ : Addr).block < _ from hb)]; exact hr 1 (by omega)
          have e2 : wr.cell? ⟨b, off + k * 6 + 2, none⟩ = some (.string ⟨z.to.toArray⟩) := by rw [hbw.cell (show (⟨b, off + k * 6 + 2, none⟩ : Addr).block < _ from hb)]; exact hr 2 (by omega)
          have e3 : wr.cell? ⟨b, off + k * 6 + 3, none⟩ = some (.slice ua z.b.length uc) := by rw [hbw.cell (show (⟨b, off + k * 6 + 3, none⟩ : Addr).block < _ from hb)]; exact hr 3 (by omega)
          have e4 : wr.cell? ⟨b, off + k * 6 + 4, none⟩ = some (.int .i64 z.x) := by rw [hbw.cell (show (⟨b, off + k * 6 + 4, none⟩ : Addr).block < _ from hb)]; exact hr 4 (by omega)
          have e5 : wr.cell? ⟨b, off + k * 6 + 5, none⟩ = some (.int .i64 z.y) := by rw [hbw.cell (show (⟨b, off + k * 6 + 5, none⟩ : Addr).block < _ from hb)]; exact hr 5 (by omega)
          have HACT := Lib.hid (act_any HI.out.1 (by omega) (by omega) z hok (.slice ua z.b.length uc) ((hu.wide (J := fun k => k < w.heap.size) fun k hk _ => hk).below hbw (Nat.le_refl _) |>.wide fun k _ hk => HKW.out k hk) (HLN2.out k z hck))
          have HSUC := Lib.hid (Dk.acts_succ DE l2 hck)
          obtain ⟨d', hd'⟩ : ∃ d', (DE.acts l2 k).act z = d' := ⟨_, rfl⟩
          rw [hd'] at HACT HSUC
          obtain ⟨zo, zn, zt, zb, zx, zy⟩ := z
          dsimp only at e0 e1 e2 e3 e4 e5 HACT
          unfold AV.cells at HACT
          obtain ⟨ZL, hZ⟩ : ∃ ZL, zb.length = ZL := ⟨_, rfl⟩
          rw [hZ] at e3 HACT
          clear hc hck hu hr hok hd' hZ hbw
          go_wp2_with fail
          refine HACT.out.mono ?_
          rintro e w3 ⟨rfl, hd3, hk3⟩
          have H3 := Lib.hid (And.intro hd3 hk3)
          clear hd3 hk3 e0 e1 e2 e3 e4 e5
          go_wp2
          go_roundw
          case rel => exact ⟨k + 1, by omega, by go_num, by rw [HSUC.out]; exact ⟨H3.out.1, HI.out.2.trans H3.out.2⟩⟩
          case measure => simp [intOf]; omega
        · obtain rfl : k = l2.length := by omega
          obtain ⟨d2, hd2⟩ : ∃ d2, DE.acts l2 l2.length = d2 := ⟨_, rfl⟩
          have HD2 := Lib.hid hd2
          rw [hd2] at HI
          clear hd2
          have HB7 := Lib.hid (show Below w.heap.size w wr from HI.out.1.below.all)
          have HQ7 := Lib.hid (HQ6.out.keep HB7.out HI.out.2)
          have HST := Lib.hid (stands_any HQ7.out.pal (by omega) (by omega))
          go_wp2_with fail
          refine HST.out.mono ?_
          rintro e w8 ⟨rfl, hb8⟩
          obtain ⟨K2, hd9, hr9, hK9⟩ := (HQ7.out.still hb8).turn (HI.out.1.still hb8)
          have HD9 := Lib.hid hd9
          have HR9 := Lib.hid hr9
          have HKW2 : Hid (∀ k, k < w.heap.size → K2 k) := hK9
          clear hd9 hr9 hK9 hb8 HST HQ7 HQ6 HI HD6 HKW HB6 HB7
          go_wp2_with fail
          go_loopw [14] (fun i wr => ∃ k : Nat, k ≤ l2.length ∧ i = .int .i64 (k : Nat) ∧ Hid (Duo ⟨w, w8, S⟩ K2 wr p' q' (l.length + k) (l.length + k) (DE.acts l2 k) (DE.acts l2 k) ∧ Keep K2 w8 wr)) (fun i _ => l2.length - (intOf i).toNat)
          case atStart => exact ⟨0, Nat.zero_le _, rfl, HD9.out, Keep.refl _ _⟩
          case round =>
            obtain ⟨k, hk, rfl, HI⟩ := hrel
            by_cases hlt : k < l2.length
            · have hbw : Below w.heap.size w wr := HI.out.1.below.all
              obtain ⟨b, off, hab, hb, hc⟩ := (by obtain ⟨⟨a', cap', e1, _, _, _, hc⟩, _⟩ := HP2.out; cases e1; exact hc (by omega) : ∃ b off, a2 = some ⟨b, off, none⟩ ∧ b < w.heap.size ∧ ∀ (j : Nat) q, l2[j]? = some q → q.ok ∧ ∃ u, BytesAt w u q.b ∧ ∀ r, r < 6 → w.cell? ⟨b, off + j * 6 + r, none⟩ = (q.cells u)[r]?)
              subst hab
              obtain ⟨z, hck⟩ : ∃ z, l2[k]? = some z := ⟨_, List.getElem?_eq_getElem hlt⟩
              obtain ⟨hok, u, hu, hr⟩ := hc k z hck
              obtain ⟨ua, uc, rfl, _⟩ := hu.form
              have e0 : wr.cell? ⟨b, off + k * 6, none⟩ = some (.int .i64 z.o) := by rw [hbw.cell (show (⟨b, off + k * 6, none⟩ : Addr).block < _ from hb)]; exact hr 0 (by omega)
              have e1 : wr.cell? ⟨b, off + k * 6 + 1, none⟩ = some (.string ⟨z.name.toArray⟩) := by rw [hbw.cell (show (⟨b, off + k * 6 + 1, none⟩ : Addr).block < _ from hb)]; exact hr 1 (by omega)
              have e2 : wr.cell? ⟨b, off + k * 6 + 2, none⟩ = some (.string ⟨z.to.toArray⟩) := by rw [hbw.cell (show (⟨b, off + k * 6 + 2, none⟩ : Addr).block < _ from hb)]; exact hr 2 (by omega)
              have e3 : wr.cell? ⟨b, off + k * 6 + 3, none⟩ = some (.slice ua z.b.length uc) := by rw [hbw.cell (show (⟨b, off + k * 6 + 3, none⟩ : Addr).block < _ from hb)]; exact hr 3 (by omega)
              have e4 : wr.cell? ⟨b, off + k * 6 + 4, none⟩ = some (.int .i64 z.x) := by rw [hbw.cell (show (⟨b, off + k * 6 + 4, none⟩ : Addr).block < _ from hb)]; exact hr 4 (by omega)
              have e5 : wr.cell? ⟨b, off + k * 6 + 5, none⟩ = some (.int .i64 z.y) := by rw [hbw.cell (show (⟨b, off + k * 6 + 5, none⟩ : Addr).block < _ from hb)]; exact hr 5 (by omega)
              have HACT := Lib.hid (act_any HI.out.1 (by omega) (by omega) z hok (.slice ua z.b.length uc) ((hu.wide (J := fun k => k < w.heap.size) fun k hk _ => hk).below hbw (Nat.le_refl _) |>.wide fun k _ hk => HKW2.out k hk) (HLN2.out k z hck))
              have HSUC := Lib.hid (Dk.acts_succ DE l2 hck)
              obtain ⟨d', hd'⟩ : ∃ d', (DE.acts l2 k).act z = d' := ⟨_, rfl⟩
              rw [hd'] at HACT HSUC
              obtain ⟨zo, zn, zt, zb, zx, zy⟩ := z
              dsimp only at e0 e1 e2 e3 e4 e5 HACT
              unfold AV.cells at HACT
              obtain ⟨ZL, hZ⟩ : ∃ ZL, zb.length = ZL := ⟨_, rfl⟩
              rw [hZ] at e3 HACT
              clear hc hck hu hr hok hd' hZ hbw
              go_wp2_with fail
              refine HACT.out.mono ?_
              rintro e w3 ⟨rfl, hd3, hk3⟩
              have H3 := Lib.hid (And.intro hd3 hk3)
              clear hd3 hk3 e0 e1 e2 e3 e4 e5
              go_wp2
              go_roundw
              case rel => exact ⟨k + 1, by omega, by go_num, by rw [HSUC.out]; exact ⟨H3.out.1, HI.out.2.trans H3.out.2⟩⟩
              case measure => simp [intOf]; omega
            · obtain rfl : k = l2.length := by omega
              rw [HD2.out] at HI
              have HB := Lib.hid (show Below w.heap.size w wr from HI.out.1.below.all)
              have HPL := Lib.hid (Pal.cross (HR9.out.keep HB.out HI.out.2).pal HI.out.1.pal)
              have HST1 := Lib.hid (stands_any HPL.out.1 (by omega) (by omega))
              go_wp2_with fail
              refine HST1.out.mono ?_
              rintro e w10 ⟨rfl, hb10⟩
              have HST2 := Lib.hid (stands_any (HPL.out.2.still hb10) (by omega) (by omega))
              have HB10 := Lib.hid (HB.out.trans (hb10.mono HB.out.size))
              clear hb10
              go_wp2_with fail
              refine HST2.out.mono ?_
              rintro e w11 ⟨rfl, hb11⟩
              have HB11 := Lib.hid (HB10.out.trans (hb11.mono HB10.out.size))
              clear hb11
              go_wp2_with fail
              refine (HX.out _ HB11.out).mono ?_
              rintro e w9 ⟨rfl, hb⟩
              have HBE := Lib.hid hb
              clear hb
              go_wp2
              go_ret
              exact ⟨rfl, HBE.out⟩
end Go.Proofs.Yticbfnflillokaa
