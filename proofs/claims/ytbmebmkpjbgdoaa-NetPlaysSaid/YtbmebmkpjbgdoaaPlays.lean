/- The law NetPlays. -/
import Derived.Test.YtbmebmkpjbgdoaaPair
import Derived.Test.YtbmebmkpjbgdoaaAwake
namespace Go.Proofs.Ytbmebmkpjbgdoaa
open Go.RowKit
theorem act_len {l : List AV} {k : Nat} {q : AV} (h : countTo l l.length ≤ 600) (hk : l[k]? = some q) : q.b.length ≤ 175921860444160 := by
  have h1 := countTo_succ l k q hk
  have h2 := countTo_mono l (k + 1) (List.getElem?_eq_some_iff.1 hk).1
  unfold AV.much at h1
  omega
set_option maxRecDepth 100000 in
set_option maxHeartbeats 4000000 in
theorem plays_any (nodes : Int) (hnodes : -9223372036854775808 ≤ nodes ∧ nodes ≤ 9223372036854775807) (v : Value) (l : List AV) (w : World) (hp : ActsAt w v l) :
    Calls Try.prog 3 #[.int .i64 nodes, v] w fun e w' => e = .returned (.bool true) ∧ Below w.heap.size w w' := by
  have HX : Hid (∀ W, Below w.heap.size w W → Calls Try.prog 9 #[] W fun e w' => e = .returned (.bool true) ∧ Below w.heap.size w w') := fun W hb => (awake_any W).mono fun e w' h => ⟨h.1, hb.trans (h.2.mono hb.size)⟩
  have HMANY : Hid (∀ W, Below w.heap.size w W → Calls Try.prog 8 #[v] W fun e w' => e = .returned (.bool (decide (600 < countTo l l.length))) ∧ Below W.heap.size W w') := fun W hb => many_any v l W (hp.below hb)
  have HP := Lib.hid hp
  obtain ⟨a, cap, rfl, hlen, hlc, hn, _⟩ := hp
  rw [maxLen_eq] at hlen
  cases hmany : decide (600 < countTo l l.length)
  · rw [hmany] at HMANY
    have HLN := Lib.hid (show ∀ (k : Nat) q, l[k]? = some q → q.b.length ≤ 175921860444160 from fun k q hk => act_len (by have := of_decide_eq_false hmany; omega) hk)
    have hc600 : l.length ≤ 600 := by
      have h := of_decide_eq_false hmany
      unfold countTo at h
      omega
    by_cases hr : 1 ≤ nodes ∧ nodes ≤ 15
    · obtain ⟨n, rfl⟩ := Int.eq_ofNat_of_zero_le (show 0 ≤ nodes by omega)
      have HNEW := Lib.hid (fun W => new_yes n W (by omega))
      have HREF := Lib.hid (fun W => rnew_yes n W (by omega))
      clear hn hlc hnodes hr hmany
      go_enter Try.func3, Try.ntmps3
      go_wp2_with fail
      refine (HMANY.out _ (Below.refl _ _)).mono ?_
      rintro e w0 ⟨rfl, hb0⟩
      have HB0 := Lib.hid hb0
      clear hb0
      go_wp2_with fail
      refine (HNEW.out _).mono ?_
      rintro e w1 ⟨p, rfl, hf⟩
      have HF := Lib.hid hf
      clear hf
      go_wp2_with fail
      refine (HREF.out _).mono ?_
      rintro e w2 ⟨q, rfl, hr2, hq1, hq2, hb2⟩
      have HS : Hid (Duo w (fun k => k < w.heap.size) w2 p q (Nt.new n) (Nt.new n)) := by
        obtain ⟨O, I, g1, g2, g3⟩ := HF.out
        have hlt := g1.lt
        have hs0 := HB0.out.size
        have hs1 := g3.size
        have hs2 := hb2.size
        refine ⟨fun _ => False, ⟨O, I, g1.below hb2 (Nat.le_refl _), fun k hk => ⟨fun h => ?_, by have := g2 k hk; omega⟩, fun k hk => ?_, (HB0.out.trans (g3.mono hs0)).trans (hb2.mono (by omega))⟩, hr2, fun k hk => ?_⟩
        · have h1 := g2 k hk
          have h2 := hlt k hk
          rcases h with h | h | h
          · omega
          · exact h
          · omega
        · rcases hk with h | h | h
          · omega
          · exact h.elim
          · omega
        · rcases hk with h | h
          · exact h.elim
          · exact ⟨by omega, by omega⟩
      clear hr2 hq1 hq2 hb2 HF HB0
      go_wp2_with fail
      go_loopw [5, 8] (fun nv i wr => ∃ (p1 k : Nat) (d : Nt), k ≤ l.length ∧ nv = .pointer (some ⟨p1, 0, none⟩) ∧ i = .int .i64 (k : Nat) ∧ Hid (Duo w (fun k => k < w.heap.size) wr p1 q d d)) (fun _ i _ => l.length - (intOf i).toNat)
      case atStart => exact ⟨p, 0, Nt.new n, Nat.zero_le _, rfl, rfl, HS.out⟩
      case round =>
        obtain ⟨p1, k, d, hk, rfl, rfl, HI⟩ := hrel
        by_cases hlt : k < l.length
        · have hbw := HI.out.below
          obtain ⟨b, off, hab, hb, hc⟩ := (by obtain ⟨a', cap', e1, _, _, _, hc⟩ := HP.out; cases e1; exact hc (by omega) : ∃ b off, a = some ⟨b, off, none⟩ ∧ b < w.heap.size ∧ ∀ (j : Nat) q, l[j]? = some q → q.ok ∧ ∃ u, BytesAt w u q.b ∧ ∀ r, r < 5 → w.cell? ⟨b, off + j * 5 + r, none⟩ = (q.cells u)[r]?)
          subst hab
          obtain ⟨c, hck⟩ : ∃ c, l[k]? = some c := ⟨_, List.getElem?_eq_getElem hlt⟩
          obtain ⟨hok, u, hu, hr⟩ := hc k c hck
          obtain ⟨ua, uc, rfl, _⟩ := hu.form
          have e0 : wr.cell? ⟨b, off + k * 5, none⟩ = some (.int .i64 c.o) := by rw [hbw.cell (show (⟨b, off + k * 5, none⟩ : Addr).block < _ from hb)]; exact hr 0 (by omega)
          have e1 : wr.cell? ⟨b, off + k * 5 + 1, none⟩ = some (.int .i64 c.x) := by rw [hbw.cell (show (⟨b, off + k * 5 + 1, none⟩ : Addr).block < _ from hb)]; exact hr 1 (by omega)
          have e2 : wr.cell? ⟨b, off + k * 5 + 2, none⟩ = some (.int .i64 c.y) := by rw [hbw.cell (show (⟨b, off + k * 5 + 2, none⟩ : Addr).block < _ from hb)]; exact hr 2 (by omega)
          have e3 : wr.cell? ⟨b, off + k * 5 + 3, none⟩ = some (.int .i64 c.i) := by rw [hbw.cell (show (⟨b, off + k * 5 + 3, none⟩ : Addr).block < _ from hb)]; exact hr 3 (by omega)
          have e4 : wr.cell? ⟨b, off + k * 5 + 4, none⟩ = some (.slice ua c.b.length uc) := by rw [hbw.cell (show (⟨b, off + k * 5 + 4, none⟩ : Addr).block < _ from hb)]; exact hr 4 (by omega)
          have HACT := Lib.hid (act_any HI.out c (.slice ua c.b.length uc) ((hu.wide (J := fun k => k < w.heap.size) fun k hk _ => hk).below hbw (Nat.le_refl _)) (HLN.out k c hck))
          obtain ⟨d', hd'⟩ : ∃ d', d.act c = d' := ⟨_, rfl⟩
          rw [hd'] at HACT
          obtain ⟨co, cx, cy, ci, cb⟩ := c
          dsimp only at e0 e1 e2 e3 e4 HACT
          unfold AV.cells at HACT
          obtain ⟨Z, hZ⟩ : ∃ Z, cb.length = Z := ⟨_, rfl⟩
          rw [hZ] at e4 HACT
          clear hc hck hu hr hok hd' hZ hbw
          by_cases ho : co = 6
          · subst ho
            clear HACT
            go_wp2_with fail
            refine HI.out.copy.mono ?_
            rintro e w3 ⟨p2, rfl, hP3⟩
            have HP3 := Lib.hid hP3
            clear hP3 e0 e1 e2 e3 e4
            go_wp2_with fail
            refine (HP3.out.old fun O I h => drop_at h 0).mono ?_
            rintro e w4 ⟨rfl, hP4⟩
            have HP4 := Lib.hid hP4
            clear hP4
            go_wp2_with fail
            refine (HP4.out.old fun O I h => Cut_at h 1 2).mono ?_
            rintro e w5 ⟨rfl, hP5⟩
            have HP5 := Lib.hid hP5
            clear hP5
            go_wp2
            go_roundw
            case rel => exact ⟨p2, k + 1, d, by omega, rfl, by go_num, HP5.out.duo⟩
            case measure => simp [intOf]; omega
          · go_wp2_with fail
            refine HACT.out.mono ?_
            rintro e w3 ⟨rfl, hd3, -⟩
            have H3 := Lib.hid hd3
            have HST := Lib.hid (stands_any hd3)
            clear hd3 e0 e1 e2 e3 e4
            by_cases h8 : k % 8 = 0
            · have z8 : ((k : Int) % 8 == 0) = true := by simp; omega
              have y8 : ((k : Int).tmod 8 == 0) = true := by simp [Int.tmod_eq_emod_of_nonneg]; omega
              go_wp2_with fail
              refine HST.out.mono ?_
              rintro e w4 ⟨rfl, hb4⟩
              have H4 := Lib.hid (H3.out.still hb4)
              clear hb4
              go_wp2
              go_roundw
              case rel => exact ⟨p1, k + 1, d', by omega, rfl, by go_num, H4.out⟩
              case measure => simp [intOf]; omega
            · have z8 : ((k : Int) % 8 == 0) = false := by simp; omega
              have y8 : ((k : Int).tmod 8 == 0) = false := by simp [Int.tmod_eq_emod_of_nonneg]; omega
              go_wp2
              go_roundw
              case rel => exact ⟨p1, k + 1, d', by omega, rfl, by go_num, H3.out⟩
              case measure => simp [intOf]; omega
        · obtain rfl : k = l.length := by omega
          have HST := Lib.hid (stands_any HI.out)
          have HBI := Lib.hid HI.out.below
          go_wp2_with fail
          refine HST.out.mono ?_
          rintro e w4 ⟨rfl, hb4⟩
          have HB4 := Lib.hid (HBI.out.trans (hb4.mono HBI.out.size))
          clear hb4
          go_wp2_with (go_at_call 9; refine (HX.out _ HB4.out).mono ?_; rintro e w9 ⟨rfl, hb⟩; have HBE := Lib.hid hb; clear hb)
          go_ret
          exact ⟨rfl, HBE.out⟩
    · have HNEW := Lib.hid (fun W => new_no nodes W (by omega))
      have HREF := Lib.hid (fun W => rnew_no nodes W (by omega))
      clear hr
      go_enter Try.func3, Try.ntmps3
      go_wp2_with fail
      refine (HMANY.out _ (Below.refl _ _)).mono ?_
      rintro e w0 ⟨rfl, hb0⟩
      have HB0 := Lib.hid hb0
      clear hb0
      go_wp2_with (first | (go_at_call 10; refine (HNEW.out _).mono ?_; rintro e w1 ⟨rfl, rfl⟩) | (go_at_call 11; refine (HREF.out _).mono ?_; rintro e w1 ⟨rfl, rfl⟩) | (go_at_call 9; refine (HX.out _ HB0.out).mono ?_; rintro e w9 ⟨rfl, hb⟩; have HBE := Lib.hid hb; clear hb))
      go_ret
      exact ⟨rfl, HBE.out⟩
  · rw [hmany] at HMANY
    go_enter Try.func3, Try.ntmps3
    go_wp2_with fail
    refine (HMANY.out _ (Below.refl _ _)).mono ?_
    rintro e w0 ⟨rfl, hb0⟩
    have HB0 := Lib.hid hb0
    clear hb0
    go_wp2_with (go_at_call 9; refine (HX.out _ HB0.out).mono ?_; rintro e w9 ⟨rfl, hb⟩; have HBE := Lib.hid hb; clear hb)
    go_ret
    exact ⟨rfl, HBE.out⟩
end Go.Proofs.Ytbmebmkpjbgdoaa
