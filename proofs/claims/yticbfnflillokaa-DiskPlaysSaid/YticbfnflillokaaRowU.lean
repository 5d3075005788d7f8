/- The law DiskPlays. -/
import Derived.Test.YticbfnflillokaaRowT
namespace Go.Proofs.Yticbfnflillokaa
open Go.RowKit
set_option maxRecDepth 100000 in
set_option maxHeartbeats 8000000 in
theorem diskPlays_any (n : Int) (hnr : -9223372036854775808 ≤ n ∧ n ≤ 9223372036854775807) (v : Value) (l : List AV) (w : World) (hp : ActsIn w v l) :
    Calls Try.prog 3 #[.int .i64 n, v] w fun e w' => e = .returned (.bool true) ∧ Below w.heap.size w w' := by
  have HX : Hid (∀ W, Below w.heap.size w W → Calls Try.prog 10 #[] W fun e w' => e = .returned (.bool true) ∧ Below w.heap.size w w') := fun W hb => (awake_any W).mono fun e w' h => ⟨h.1, hb.trans (h.2.mono hb.size)⟩
  have HG := Lib.hid (many_any v l w hp)
  have HP := Lib.hid hp
  have kc := fun (w : World) (C : Array Value) (n c : Nat) => Go.Joins.run_convert_bytes_const_at (P := Try.prog) w 31 5 C n c w.heap.size rfl Try.underlying31 Try.underlying5
  obtain ⟨⟨a, cap, rfl, hlen, _, _, _⟩, _⟩ := hp
  rw [maxLen_eq] at hlen
  by_cases hg : 400 < countTo l l.length
  · rw [decide_eq_true hg] at HG
    clear hg kc
    go_enter Try.func3, Try.ntmps3
    go_wp2_with fail
    refine HG.out.mono ?_
    rintro e w2 ⟨rfl, hb⟩
    have HB2 := Lib.hid hb
    clear hb
    go_wp2_with fail
    refine (HX.out _ HB2.out).mono ?_
    rintro e w3 ⟨rfl, hb⟩
    have HBE := Lib.hid hb
    clear hb
    go_wp2
    go_ret
    exact ⟨rfl, HBE.out⟩
  rw [decide_eq_false hg] at HG
  have HLN := Lib.hid (show ∀ (k : Nat) z, l[k]? = some z → z.b.length ≤ 100000 from fun k z hk => act_len (by omega) hk)
  have hl400 : l.length ≤ 400 := by unfold countTo at hg; omega
  clear hg
  by_cases hcap : n < 0 ∨ 65536 < n
  · have HB0 := Lib.hid (fun W => new_bad n W hcap)
    have HR0 := Lib.hid (fun W => rnew_bad n W hcap)
    clear hcap kc
    go_enter Try.func3, Try.ntmps3
    go_wp2_with fail
    refine HG.out.mono ?_
    rintro e w2 ⟨rfl, hb⟩
    have HB2 := Lib.hid hb
    clear hb
    go_wp2_with fail
    refine (HB0.out w2).mono ?_
    rintro e w3 ⟨rfl, rfl⟩
    go_wp2_with fail
    refine (HR0.out w2).mono ?_
    rintro e w3 ⟨rfl, rfl⟩
    go_wp2_with fail
    refine (HX.out _ HB2.out).mono ?_
    rintro e w3 ⟨rfl, hb⟩
    have HBE := Lib.hid hb
    clear hb
    go_wp2
    go_ret
    exact ⟨rfl, HBE.out⟩
  obtain ⟨c, rfl⟩ : ∃ c : Nat, n = (c : Int) := ⟨n.toNat, by omega⟩
  have HNEW := Lib.hid (fun W => new_any c W (by omega))
  have HREF := Lib.hid (fun W => rnew_any c W (by omega))
  clear hcap hnr
  go_enter Try.func3, Try.ntmps3
  go_wp2_with fail
  refine HG.out.mono ?_
  rintro e w2 ⟨rfl, hb⟩
  have HB2 := Lib.hid hb
  clear hb
  go_wp2_with fail
  refine (HNEW.out w2).mono ?_
  rintro e w3 ⟨p, rfl, hf⟩
  have HF := Lib.hid hf
  clear hf
  go_wp2_with fail
  refine (HREF.out w3).mono ?_
  rintro e w4 ⟨q, rfl, hr, hq, hb4⟩
  have HS : Hid (Duo ⟨w, w, fun _ => False⟩ (fun k => k < w.heap.size) w4 p q 0 0 (Dk.new c) (Dk.new c)) := by
    obtain ⟨O, I, g1, g2, g3⟩ := HF.out
    have hlt := g1.lt
    have hs2 := HB2.out.size
    have hs3 := g3.size
    have hs4 := hb4.size
    refine ⟨fun _ => False, ⟨O, I, g1.below hb4 (Nat.le_refl _), fun k hk => ⟨fun h => ?_, by have := g2 k (.inl hk); show w.heap.size ≤ k; omega⟩, fun k hk => .inl fun h => ?_, fun k hk => ?_, (HB2.out.trans (g3.mono hs2)).trans (hb4.mono (by show w.heap.size ≤ w3.heap.size; omega))⟩, hr, fun k hk => hk.elim, ⟨fun h => ?_, id, ?_⟩, fun k hk => hk.elim, Nat.le_refl _, ?_⟩
    · have h1 := g2 k (.inl hk)
      have h2 := hlt k (.inl hk)
      rcases h with h | h | h
      · omega
      · exact h
      · omega
    · have h1 := g2 k (.inr hk)
      have h2 := hlt k (.inr hk)
      rcases h with h | h | h
      · omega
      · exact h
      · omega
    · rcases hk with h | h | h
      · omega
      · exact h.elim
      · have := hr.q_lt; omega
    · omega
    · show w.heap.size ≤ q; omega
    · show w.heap.size ≤ w4.heap.size; omega
  clear hr hq hb4 HF HB2
  go_wp2_with fail
  go_loopw [5, 8, 9] (fun nv i _ wr => ∃ (p1 k : Nat) (d : Dk), k ≤ l.length ∧ nv = .pointer (some ⟨p1, 0, none⟩) ∧ i = .int .i64 (k : Nat) ∧ Hid (Duo ⟨w, w, fun _ => False⟩ (fun k => k < w.heap.size) wr p1 q k k d d)) (fun _ i _ _ => l.length - (intOf i).toNat)
  case atStart => exact ⟨p, 0, Dk.new c, Nat.zero_le _, rfl, rfl, HS.out⟩
  case round =>
    obtain ⟨p1, k, d, hk, rfl, rfl, HI⟩ := hrel
    by_cases hlt : k < l.length
    · have hbw : Below w.heap.size w wr := HI.out.below.all
      obtain ⟨b, off, hab, hb, hc⟩ := (by obtain ⟨⟨a', cap', e1, _, _, _, hc⟩, _⟩ := HP.out; cases e1; exact hc (by omega) : ∃ b off, a = some ⟨b, off, none⟩ ∧ b < w.heap.size ∧ ∀ (j : Nat) q, l[j]? = some q → q.ok ∧ ∃ u, BytesAt w u q.b ∧ ∀ r, r < 6 → w.cell? ⟨b, off + j * 6 + r, none⟩ = (q.cells u)[r]?)
      subst hab
      obtain ⟨z, hck⟩ : ∃ z, l[k]? = some z := ⟨_, List.getElem?_eq_getElem hlt⟩
      obtain ⟨hok, u, hu, hr⟩ := hc k z hck
      obtain ⟨ua, uc, rfl, _⟩ := hu.form
      have e0 : wr.cell? ⟨b, off + k * 6, none⟩ = some (.int .i64 z.o) := by rw [hbw.cell (show (⟨b, off + k * 6, none⟩ : Addr).block < _ from hb)]; exact hr 0 (by omega)
      have e1 : wr.cell? ⟨b, off + k * 6 + 1, none⟩ = some (.string ⟨z.name.toArray⟩) := by rw [hbw.cell (show (⟨b, off + k * 6 + 1, none⟩ : Addr).block < _ from hb)]; exact hr 1 (by omega)
      have e2 : wr.cell? ⟨b, off + k * 6 + 2, none⟩ = some (.string ⟨z.to.toArray⟩) := by rw [hbw.cell (show (⟨b, off + k * 6 + 2, none⟩ : Addr).block < _ from hb)]; exact hr 2 (by omega)
      have e3 : wr.cell? ⟨b, off + k * 6 + 3, none⟩ = some (.slice ua z.b.length uc) := by rw [hbw.cell (show (⟨b, off + k * 6 + 3, none⟩ : Addr).block < _ from hb)]; exact hr 3 (by omega)
      have e4 : wr.cell? ⟨b, off + k * 6 + 4, none⟩ = some (.int .i64 z.x) := by rw [hbw.cell (show (⟨b, off + k * 6 + 4, none⟩ : Addr).block < _ from hb)]; exact hr 4 (by omega)
      have e5 : wr.cell? ⟨b, off + k * 6 + 5, none⟩ = some (.int .i64 z.y) := by rw [hbw.cell (show (⟨b, off + k * 6 + 5, none⟩ : Addr).block < _ from hb)]; exact hr 5 (by omega)
      have HACT := Lib.hid (act_any HI.out (by omega) (by omega) z hok (.slice ua z.b.length uc) ((hu.wide (J := fun k => k < w.heap.size) fun k hk _ => hk).below hbw (Nat.le_refl _)) (HLN.out k z hck))
      obtain ⟨d', hd'⟩ : ∃ d', d.act z = d' := ⟨_, rfl⟩
      rw [hd'] at HACT
      obtain ⟨zo, zn, zt, zb, zx, zy⟩ := z
      dsimp only at e0 e1 e2 e3 e4 e5 HACT
      unfold AV.cells at HACT
      obtain ⟨ZL, hZ⟩ : ∃ ZL, zb.length = ZL := ⟨_, rfl⟩
      rw [hZ] at e3 HACT
      have HBW := Lib.hid hbw
      clear hc hck hu hr hok hd' hZ hbw
      by_cases ho : zo = 9
      · subst ho
        clear HACT
        go_wp2_with fail
        refine (HI.out.copy (by omega)).mono ?_
        rintro e w5 ⟨p2, rfl, hP⟩
        have HP5 := Lib.hid hP
        clear hP e0 e1 e2 e3 e4 e5
        go_wp2_with fail
        have hc := HP5.out.append (by omega) [97] [99, 111, 112, 105, 101, 100] (by decide) #[.int .u8 99, .int .u8 111, .int .u8 112, .int .u8 105, .int .u8 101, .int .u8 100] (6, 7) rfl (by decide)
        refine hc.mono ?_
        rintro e w6 ⟨rfl, hP⟩
        have HP6 := Lib.hid hP
        clear hP hc
        go_wp2_with fail
        refine (HP6.out.wipe (by omega)).mono ?_
        rintro e w7 ⟨rfl, hP⟩
        have HP7 := Lib.hid hP
        clear hP
        go_wp2
        go_roundw
        case rel => exact ⟨p2, k + 1, d, by omega, rfl, by go_num, HP7.out.duo.mono (Nat.le_succ k) (Nat.le_succ k)⟩
        case measure => simp [intOf]; omega
      · have zo9 : (zo == 9) = false := by simpa using ho
        go_wp2_with fail
        refine HACT.out.mono ?_
        rintro e w5 ⟨rfl, hd5, -⟩
        have H5 := Lib.hid hd5
        have HST := Lib.hid (stands_any hd5.pal (by omega) (by omega))
        clear hd5 e0 e1 e2 e3 e4 e5 ho
        go_wp2_with fail
        refine HST.out.mono ?_
        rintro e w6 ⟨rfl, hb6⟩
        have H6 := Lib.hid (H5.out.still hb6)
        clear hb6
        go_wp2
        go_roundw
        case rel => exact ⟨p1, k + 1, d', by omega, rfl, by go_num, H6.out⟩
        case measure => simp [intOf]; omega
    · obtain rfl : k = l.length := by omega
      have HB := Lib.hid (show Below w.heap.size w wr from HI.out.below.all)
      go_wp2_with fail
      refine (HX.out _ HB.out).mono ?_
      rintro e w9 ⟨rfl, hb⟩
      have HBE := Lib.hid hb
      clear hb
      go_wp2
      go_ret
      exact ⟨rfl, HBE.out⟩
end Go.Proofs.Yticbfnflillokaa
