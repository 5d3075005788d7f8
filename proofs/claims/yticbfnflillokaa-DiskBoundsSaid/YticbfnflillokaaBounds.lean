/- The walk of the law DiskBounds. -/
import Derived.Test.YticbfnflillokaaActTwo
import Derived.Test.YticbfnflillokaaAwake
namespace Go.Proofs.Yticbfnflillokaa
open Go.RowKit
abbrev Nil : Bks := fun _ => False
set_option maxRecDepth 100000 in
set_option maxHeartbeats 4000000 in
theorem diskBounds_any (n : Int) (v1 : Value) (l : List AV) (w : World) (hp : ActsIn w v1 l) :
    Calls Try.prog 6 #[.int .i64 n, v1] w fun e w' => e = .returned (.bool true) ∧ Below w.heap.size w w' := by
  have HX : Hid (∀ W, Below w.heap.size w W → Calls Try.prog 10 #[] W fun e w' => e = .returned (.bool true) ∧ Below w.heap.size w w') := fun W hb => (awake_any W).mono fun e w' h => ⟨h.1, hb.trans (h.2.mono hb.size)⟩
  obtain ⟨la, lc, rfl, hl1, hl2, _⟩ := id hp.1
  rw [maxLen_eq] at hl1
  have HP := Lib.hid hp
  clear hp
  by_cases hcap : n < 0 ∨ 65536 < n
  · go_enter Try.func6, Try.ntmps6
    go_wp2_with fail
    refine (new_bad n w hcap).mono ?_
    rintro e w1 ⟨rfl, rfl⟩
    clear hcap
    go_wp2_with fail
    refine (HX.out _ (Below.refl _ _)).mono ?_
    rintro e w1 ⟨rfl, hb⟩
    have HBE := Lib.hid hb
    clear hb
    go_wp2
    go_ret
    exact ⟨rfl, HBE.out⟩
  obtain ⟨c, rfl⟩ : ∃ c : Nat, n = (c : Int) := ⟨n.toNat, by omega⟩
  go_enter Try.func6, Try.ntmps6
  go_wp2_with fail
  refine (new_any c w (by omega)).mono ?_
  rintro e w1 ⟨p, rfl, hfr⟩
  have H1 : Hid (One w Nil w1 p 0 (Dk.new c)) := One.of_fresh hfr
  have HG := Lib.hid (many_any _ l w1 (HP.out.below hfr.choose_spec.choose_spec.2.2))
  clear hfr hcap
  by_cases hg : 400 < countTo l l.length
  · rw [decide_eq_true hg] at HG
    clear hg
    go_wp2_with fail
    refine HG.out.mono ?_
    rintro e w2 ⟨rfl, hb⟩
    have HB2 : Hid (Below w.heap.size w w2) := H1.out.below.trans (hb.mono H1.out.below.size)
    clear hb
    go_wp2_with fail
    refine (HX.out _ HB2.out).mono ?_
    rintro e w3 ⟨rfl, hb⟩
    have HBE := Lib.hid hb
    clear hb
    go_wp2
    go_ret
    exact ⟨rfl, HBE.out⟩
  rw [decide_eq_false hg] at HG
  have hlen : l.length ≤ 400 := by unfold countTo at hg; omega
  clear hg
  go_wp2_with fail
  refine HG.out.mono ?_
  rintro e w2 ⟨rfl, hb⟩
  have H2 : Hid (One w Nil w2 p 0 (Dk.new c)) := (H1.out.still hb).1
  clear hb H1 HG
  have HL := Lib.hid hlen
  clear hlen hl2
  go_wp2
  go_loopw [7, 8, 9, 10] (fun i _ _ _ wr => ∃ k : Nat, k ≤ l.length ∧ i = .int .i64 (k : Nat) ∧ Hid (∃ d, d.cap = c ∧ One w Nil wr p k d)) (fun i _ _ _ _ => l.length - (intOf i).toNat)
  case atStart => exact ⟨0, Nat.zero_le _, rfl, _, rfl, H2.out⟩
  case round =>
    obtain ⟨k, hk, rfl, HR⟩ := hrel
    by_cases hlt : k < l.length
    · obtain ⟨d, hcap, hd⟩ := HR.out
      obtain ⟨_, _, e1, _, _, _, hc0⟩ := id HP.out.1
      obtain ⟨b, off, e2, hb, hc⟩ := hc0 (by omega)
      injection e1 with e3 e4 e5
      subst e3
      subst e2
      subst e5
      obtain ⟨q, hqk⟩ : ∃ q, l[k]? = some q := ⟨_, List.getElem?_eq_getElem hlt⟩
      obtain ⟨hok, u, hu, hr⟩ := hc k q hqk
      have h0 : wr.cell? ⟨b, off + k * 6 + 0, none⟩ = some (.int .i64 q.o) := by rw [hd.below.cell (show (⟨b, off + k * 6 + 0, none⟩ : Addr).block < _ from hb)]; exact hr 0 (by omega)
      have h1 : wr.cell? ⟨b, off + k * 6 + 1, none⟩ = some (.string ⟨q.name.toArray⟩) := by rw [hd.below.cell (show (⟨b, off + k * 6 + 1, none⟩ : Addr).block < _ from hb)]; exact hr 1 (by omega)
      have h2 : wr.cell? ⟨b, off + k * 6 + 2, none⟩ = some (.string ⟨q.to.toArray⟩) := by rw [hd.below.cell (show (⟨b, off + k * 6 + 2, none⟩ : Addr).block < _ from hb)]; exact hr 2 (by omega)
      have h3 : wr.cell? ⟨b, off + k * 6 + 3, none⟩ = some u := by rw [hd.below.cell (show (⟨b, off + k * 6 + 3, none⟩ : Addr).block < _ from hb)]; exact hr 3 (by omega)
      have h4 : wr.cell? ⟨b, off + k * 6 + 4, none⟩ = some (.int .i64 q.x) := by rw [hd.below.cell (show (⟨b, off + k * 6 + 4, none⟩ : Addr).block < _ from hb)]; exact hr 4 (by omega)
      have h5 : wr.cell? ⟨b, off + k * 6 + 5, none⟩ = some (.int .i64 q.y) := by rw [hd.below.cell (show (⟨b, off + k * 6 + 5, none⟩ : Addr).block < _ from hb)]; exact hr 5 (by omega)
      have HQ := Lib.hid (And.intro hu hok)
      have HD := Lib.hid (And.intro hcap hd)
      clear hc0 hc hr hok hqk HR hd hb e4 hcap
      rw [Nat.add_zero] at h0
      obtain ⟨ua, uc, rfl, _⟩ := hu.form
      clear hu
      obtain ⟨o, nm, to, by_, x, y⟩ := q
      dsimp only at h0 h1 h2 h3 h4 h5 HQ
      go_wp2_with fail
      obtain ⟨B, hB⟩ : ∃ B, wr.heap.size = B := ⟨_, rfl⟩
      obtain ⟨Wb, hWb⟩ : ∃ Wb, wr.alloc (.cells #[.int .i64 o, .string ⟨nm.toArray⟩, .string ⟨to.toArray⟩, .slice ua by_.length uc, .int .i64 x, .int .i64 y] 33) = Wb := ⟨_, rfl⟩
      have H3 : Hid (d.cap = c ∧ One w (fun i => False ∨ i = B) Wb p k d ∧ Below wr.heap.size wr Wb) := by
        rw [← hWb]
        have hb := Go.Joins.below_alloc1 wr (.cells #[.int .i64 o, .string ⟨nm.toArray⟩, .string ⟨to.toArray⟩, .slice ua by_.length uc, .int .i64 x, .int .i64 y] 33)
        exact ⟨HD.out.1, (HD.out.2.more hb (fun i => i = B) fun i hi => by rw [World.size_alloc]; omega).1, hb⟩
      have hblk : Wb.heap[B]? = some (.cells #[.int .i64 o, .string ⟨nm.toArray⟩, .string ⟨to.toArray⟩, .slice ua by_.length uc, .int .i64 x, .int .i64 y] 33 (0, 0)) := by rw [← hWb, ← hB]; exact heap_alloc_new _ _
      rw [hWb]
      have HBX : Hid (∀ W, Keep (fun i => False ∨ i = B) Wb W → W.heap[B]? = some (.cells #[.int .i64 o, .string ⟨nm.toArray⟩, .string ⟨to.toArray⟩, .slice ua by_.length uc, .int .i64 x, .int .i64 y] 33 (0, 0))) := fun W hW => by rw [hW.2 B (.inr rfl) (lt_of_block hblk)]; exact hblk
      try rw [hB]
      clear hblk h0 h1 h2 h3 h4 h5 HD hB hWb
      have HKN := Lib.hid (show k ≤ 400000 by have := HL.out; omega)
      refine (H3.out.2.1.copy HKN.out).mono ?_
      rintro e w3 ⟨qq, rfl, h3, k3⟩
      have H4 := Lib.hid (And.intro h3 k3)
      have HU : Hid (BytesAt w3 (.slice ua by_.length uc) by_) := HQ.out.1.belowB h3.one.below (Nat.le_refl _)
      clear h3 k3
      have hbk := HBX.out w3 H4.out.2
      have g0 : w3.cell? ⟨B, 0, none⟩ = some (.int .i64 o) := by rw [Go.Joins.cell_of_block hbk]; rfl
      have g1 : w3.cell? ⟨B, 1, none⟩ = some (.string ⟨nm.toArray⟩) := by rw [Go.Joins.cell_of_block hbk]; rfl
      have g2 : w3.cell? ⟨B, 2, none⟩ = some (.string ⟨to.toArray⟩) := by rw [Go.Joins.cell_of_block hbk]; rfl
      have g3 : w3.cell? ⟨B, 3, none⟩ = some (.slice ua by_.length uc) := by rw [Go.Joins.cell_of_block hbk]; rfl
      have g4 : w3.cell? ⟨B, 4, none⟩ = some (.int .i64 x) := by rw [Go.Joins.cell_of_block hbk]; rfl
      have g5 : w3.cell? ⟨B, 5, none⟩ = some (.int .i64 y) := by rw [Go.Joins.cell_of_block hbk]; rfl
      clear hbk
      have HE : Hid (d.cap = c) := H3.out.1
      have HT : Hid (Two w (fun i => False ∨ i = B) w3 p k d qq k d) := H4.out.1
      have HK3 : Hid (Keep (fun i => False ∨ i = B) Wb w3) := H4.out.2
      clear H3 H4
      by_cases e0 : o = 0
      · subst e0
        go_wp2_with fail
        refine (HT.out.does fun _ _ hd => append_any hd HKN.out nm by_ _ HU.out HQ.out.2.1).mono ?_
        rintro e w4 ⟨rfl, h4, k4⟩
        have HER : Hid ((d.append nm by_).1 ≠ 0 → (d.append nm by_).2 = d) := append_err
        have HCA : Hid ((d.append nm by_).2.cap = c) := (append_cap d nm by_).trans HE.out
        obtain ⟨z1, hz1⟩ : ∃ z1, (d.append nm by_).1 = z1 := ⟨_, rfl⟩
        rw [hz1] at HER ⊢
        clear hz1 g0 g1 g2 g3 g4 g5
        have hk4 : Keep (fun i => False ∨ i = B) Wb w4 := HK3.out.trans k4
        have HT4 := Lib.hid (And.intro h4 hk4)
        obtain ⟨_, _, _, _, hd1, _⟩ := id h4
        have hby := bytes_any hd1
        have hle : ((if ((d.append nm by_).2).down then 0 else ((d.append nm by_).2).seen.total : Nat) : Int) ≤ (c : Int) := by
          have h1 := hd1.ok.total
          have h2 : ((d.append nm by_).2).cap = c := (append_cap d nm by_).trans HE.out
          split <;> omega
        have g0 : w4.cell? ⟨B, 0, none⟩ = some (.int .i64 0) := by rw [Go.Joins.cell_of_block (HBX.out w4 hk4)]; rfl
        obtain ⟨z2, hz2⟩ : ∃ z2 : Int, ((if ((d.append nm by_).2).down then 0 else ((d.append nm by_).2).seen.total : Nat) : Int) = z2 := ⟨_, rfl⟩
        rw [hz2] at hby hle
        have HBY := Lib.hid hby
        have hle' : ¬ (c : Int) < z2 := by omega
        clear h4 k4 hk4 hd1 hby hz2 hle
        go_wp2_with fail
        refine HBY.out.mono ?_
        rintro e w5 ⟨rfl, rfl⟩
        clear HBY
        by_cases hz1 : z1 = 0
        · subst hz1
          go_wp2
          go_roundw
          case rel => exact ⟨k + 1, by omega, by go_num, _, HCA.out, (HT4.out.1.narrow fun _ h => h.elim).one⟩
          case measure => simp [intOf]; omega
        · have he := HER.out hz1
          rw [he] at HT4
          clear he HER
          go_wp2_with fail
          refine (alike_any HT4.out.1 (by have := HL.out; omega) HKN.out rfl rfl).mono ?_
          rintro e w5 ⟨rfl, h5, k5⟩
          have HT5 := Lib.hid h5
          obtain ⟨_, _, _, _, hd1, hd2, _⟩ := id h5
          obtain ⟨_, _, hr1⟩ := hd1.raw
          obtain ⟨_, _, hr2⟩ := hd2.raw
          have HW1 := Lib.hid (waits_any hd1)
          have HW2 := Lib.hid (waits_any hd2)
          have HD1 := Lib.hid (down_yes p d.down w5 hr1.c8 hr1.c4)
          have HD2 := Lib.hid (down_yes qq d.down w5 hr2.c8 hr2.c4)
          obtain ⟨z3, hz3⟩ : ∃ z3 : Int, ((if d.down then 0 else d.waits.length : Nat) : Int) = z3 := ⟨_, rfl⟩
          obtain ⟨b3, hb3⟩ : ∃ b3, d.down = b3 := ⟨_, rfl⟩
          rw [hz3] at HW1 HW2
          rw [hb3] at HD1 HD2
          clear h5 k5 hd1 hd2 hr1 hr2 hz3 hb3 g0
          go_wp2_with fail
          refine HW1.out.mono ?_
          rintro e w6 ⟨rfl, rfl⟩
          go_wp2_with fail
          refine HW2.out.mono ?_
          rintro e w6 ⟨rfl, rfl⟩
          go_wp2_with fail
          refine HD1.out.mono ?_
          rintro e w6 ⟨rfl, rfl⟩
          go_wp2_with fail
          refine HD2.out.mono ?_
          rintro e w6 ⟨rfl, rfl⟩
          clear HW1 HW2 HD1 HD2
          go_wp2
          go_roundw
          case rel => exact ⟨k + 1, by omega, by go_num, d, HE.out, (HT5.out.narrow fun _ h => h.elim).one⟩
          case measure => simp [intOf]; omega
      by_cases e1 : o = 1
      · subst e1
        go_wp2_with fail
        refine (HT.out.does fun _ _ hd => put_any hd HKN.out nm by_ _ HU.out HQ.out.2.1).mono ?_
        rintro e w4 ⟨rfl, h4, k4⟩
        have HER : Hid ((d.putF nm by_).1 ≠ 0 → (d.putF nm by_).2 = d) := putF_err
        have HCA : Hid ((d.putF nm by_).2.cap = c) := (putF_cap d nm by_).trans HE.out
        obtain ⟨z1, hz1⟩ : ∃ z1, (d.putF nm by_).1 = z1 := ⟨_, rfl⟩
        rw [hz1] at HER ⊢
        clear hz1 g0 g1 g2 g3 g4 g5
        have hk4 : Keep (fun i => False ∨ i = B) Wb w4 := HK3.out.trans k4
        have HT4 := Lib.hid (And.intro h4 hk4)
        obtain ⟨_, _, _, _, hd1, _⟩ := id h4
        have hby := bytes_any hd1
        have hle : ((if ((d.putF nm by_).2).down then 0 else ((d.putF nm by_).2).seen.total : Nat) : Int) ≤ (c : Int) := by
          have h1 := hd1.ok.total
          have h2 : ((d.putF nm by_).2).cap = c := (putF_cap d nm by_).trans HE.out
          split <;> omega
        have g0 : w4.cell? ⟨B, 0, none⟩ = some (.int .i64 1) := by rw [Go.Joins.cell_of_block (HBX.out w4 hk4)]; rfl
        obtain ⟨z2, hz2⟩ : ∃ z2 : Int, ((if ((d.putF nm by_).2).down then 0 else ((d.putF nm by_).2).seen.total : Nat) : Int) = z2 := ⟨_, rfl⟩
        rw [hz2] at hby hle
        have HBY := Lib.hid hby
        have hle' : ¬ (c : Int) < z2 := by omega
        clear h4 k4 hk4 hd1 hby hz2 hle
        go_wp2_with fail
        refine HBY.out.mono ?_
        rintro e w5 ⟨rfl, rfl⟩
        clear HBY
        by_cases hz1 : z1 = 0
        · subst hz1
          go_wp2
          go_roundw
          case rel => exact ⟨k + 1, by omega, by go_num, _, HCA.out, (HT4.out.1.narrow fun _ h => h.elim).one⟩
          case measure => simp [intOf]; omega
        · have he := HER.out hz1
          rw [he] at HT4
          clear he HER
          go_wp2_with fail
          refine (alike_any HT4.out.1 (by have := HL.out; omega) HKN.out rfl rfl).mono ?_
          rintro e w5 ⟨rfl, h5, k5⟩
          have HT5 := Lib.hid h5
          obtain ⟨_, _, _, _, hd1, hd2, _⟩ := id h5
          obtain ⟨_, _, hr1⟩ := hd1.raw
          obtain ⟨_, _, hr2⟩ := hd2.raw
          have HW1 := Lib.hid (waits_any hd1)
          have HW2 := Lib.hid (waits_any hd2)
          have HD1 := Lib.hid (down_yes p d.down w5 hr1.c8 hr1.c4)
          have HD2 := Lib.hid (down_yes qq d.down w5 hr2.c8 hr2.c4)
          obtain ⟨z3, hz3⟩ : ∃ z3 : Int, ((if d.down then 0 else d.waits.length : Nat) : Int) = z3 := ⟨_, rfl⟩
          obtain ⟨b3, hb3⟩ : ∃ b3, d.down = b3 := ⟨_, rfl⟩
          rw [hz3] at HW1 HW2
          rw [hb3] at HD1 HD2
          clear h5 k5 hd1 hd2 hr1 hr2 hz3 hb3 g0
          go_wp2_with fail
          refine HW1.out.mono ?_
          rintro e w6 ⟨rfl, rfl⟩
          go_wp2_with fail
          refine HW2.out.mono ?_
          rintro e w6 ⟨rfl, rfl⟩
          go_wp2_with fail
          refine HD1.out.mono ?_
          rintro e w6 ⟨rfl, rfl⟩
          go_wp2_with fail
          refine HD2.out.mono ?_
          rintro e w6 ⟨rfl, rfl⟩
          clear HW1 HW2 HD1 HD2
          go_wp2
          go_roundw
          case rel => exact ⟨k + 1, by omega, by go_num, d, HE.out, (HT5.out.narrow fun _ h => h.elim).one⟩
          case measure => simp [intOf]; omega
      by_cases e2 : o = 2
      · subst e2
        go_wp2_with fail
        refine (HT.out.does fun _ _ hd => rename_any hd HKN.out nm to HQ.out.2.1 HQ.out.2.2.1).mono ?_
        rintro e w4 ⟨rfl, h4, k4⟩
        have HER : Hid ((d.rename nm to).1 ≠ 0 → (d.rename nm to).2 = d) := rename_err
        have HCA : Hid ((d.rename nm to).2.cap = c) := (rename_cap d nm to).trans HE.out
        obtain ⟨z1, hz1⟩ : ∃ z1, (d.rename nm to).1 = z1 := ⟨_, rfl⟩
        rw [hz1] at HER ⊢
        clear hz1 g0 g1 g2 g3 g4 g5
        have hk4 : Keep (fun i => False ∨ i = B) Wb w4 := HK3.out.trans k4
        have HT4 := Lib.hid (And.intro h4 hk4)
        obtain ⟨_, _, _, _, hd1, _⟩ := id h4
        have hby := bytes_any hd1
        have hle : ((if ((d.rename nm to).2).down then 0 else ((d.rename nm to).2).seen.total : Nat) : Int) ≤ (c : Int) := by
          have h1 := hd1.ok.total
          have h2 : ((d.rename nm to).2).cap = c := (rename_cap d nm to).trans HE.out
          split <;> omega
        have g0 : w4.cell? ⟨B, 0, none⟩ = some (.int .i64 2) := by rw [Go.Joins.cell_of_block (HBX.out w4 hk4)]; rfl
        obtain ⟨z2, hz2⟩ : ∃ z2 : Int, ((if ((d.rename nm to).2).down then 0 else ((d.rename nm to).2).seen.total : Nat) : Int) = z2 := ⟨_, rfl⟩
        rw [hz2] at hby hle
        have HBY := Lib.hid hby
        have hle' : ¬ (c : Int) < z2 := by omega
        clear h4 k4 hk4 hd1 hby hz2 hle
        go_wp2_with fail
        refine HBY.out.mono ?_
        rintro e w5 ⟨rfl, rfl⟩
        clear HBY
        by_cases hz1 : z1 = 0
        · subst hz1
          go_wp2
          go_roundw
          case rel => exact ⟨k + 1, by omega, by go_num, _, HCA.out, (HT4.out.1.narrow fun _ h => h.elim).one⟩
          case measure => simp [intOf]; omega
        · have he := HER.out hz1
          rw [he] at HT4
          clear he HER
          go_wp2_with fail
          refine (alike_any HT4.out.1 (by have := HL.out; omega) HKN.out rfl rfl).mono ?_
          rintro e w5 ⟨rfl, h5, k5⟩
          have HT5 := Lib.hid h5
          obtain ⟨_, _, _, _, hd1, hd2, _⟩ := id h5
          obtain ⟨_, _, hr1⟩ := hd1.raw
          obtain ⟨_, _, hr2⟩ := hd2.raw
          have HW1 := Lib.hid (waits_any hd1)
          have HW2 := Lib.hid (waits_any hd2)
          have HD1 := Lib.hid (down_yes p d.down w5 hr1.c8 hr1.c4)
          have HD2 := Lib.hid (down_yes qq d.down w5 hr2.c8 hr2.c4)
          obtain ⟨z3, hz3⟩ : ∃ z3 : Int, ((if d.down then 0 else d.waits.length : Nat) : Int) = z3 := ⟨_, rfl⟩
          obtain ⟨b3, hb3⟩ : ∃ b3, d.down = b3 := ⟨_, rfl⟩
          rw [hz3] at HW1 HW2
          rw [hb3] at HD1 HD2
          clear h5 k5 hd1 hd2 hr1 hr2 hz3 hb3 g0
          go_wp2_with fail
          refine HW1.out.mono ?_
          rintro e w6 ⟨rfl, rfl⟩
          go_wp2_with fail
          refine HW2.out.mono ?_
          rintro e w6 ⟨rfl, rfl⟩
          go_wp2_with fail
          refine HD1.out.mono ?_
          rintro e w6 ⟨rfl, rfl⟩
          go_wp2_with fail
          refine HD2.out.mono ?_
          rintro e w6 ⟨rfl, rfl⟩
          clear HW1 HW2 HD1 HD2
          go_wp2
          go_roundw
          case rel => exact ⟨k + 1, by omega, by go_num, d, HE.out, (HT5.out.narrow fun _ h => h.elim).one⟩
          case measure => simp [intOf]; omega
      by_cases e3 : o = 3
      · subst e3
        go_wp2_with fail
        refine (HT.out.does fun _ _ hd => remove_any hd HKN.out nm HQ.out.2.1).mono ?_
        rintro e w4 ⟨rfl, h4, k4⟩
        have HER : Hid ((d.remove nm).1 ≠ 0 → (d.remove nm).2 = d) := remove_err
        have HCA : Hid ((d.remove nm).2.cap = c) := (remove_cap d nm).trans HE.out
        obtain ⟨z1, hz1⟩ : ∃ z1, (d.remove nm).1 = z1 := ⟨_, rfl⟩
        rw [hz1] at HER ⊢
        clear hz1 g0 g1 g2 g3 g4 g5
        have hk4 : Keep (fun i => False ∨ i = B) Wb w4 := HK3.out.trans k4
        have HT4 := Lib.hid (And.intro h4 hk4)
        obtain ⟨_, _, _, _, hd1, _⟩ := id h4
        have hby := bytes_any hd1
        have hle : ((if ((d.remove nm).2).down then 0 else ((d.remove nm).2).seen.total : Nat) : Int) ≤ (c : Int) := by
          have h1 := hd1.ok.total
          have h2 : ((d.remove nm).2).cap = c := (remove_cap d nm).trans HE.out
          split <;> omega
        have g0 : w4.cell? ⟨B, 0, none⟩ = some (.int .i64 3) := by rw [Go.Joins.cell_of_block (HBX.out w4 hk4)]; rfl
        obtain ⟨z2, hz2⟩ : ∃ z2 : Int, ((if ((d.remove nm).2).down then 0 else ((d.remove nm).2).seen.total : Nat) : Int) = z2 := ⟨_, rfl⟩
        rw [hz2] at hby hle
        have HBY := Lib.hid hby
        have hle' : ¬ (c : Int) < z2 := by omega
        clear h4 k4 hk4 hd1 hby hz2 hle
        go_wp2_with fail
        refine HBY.out.mono ?_
        rintro e w5 ⟨rfl, rfl⟩
        clear HBY
        by_cases hz1 : z1 = 0
        · subst hz1
          go_wp2
          go_roundw
          case rel => exact ⟨k + 1, by omega, by go_num, _, HCA.out, (HT4.out.1.narrow fun _ h => h.elim).one⟩
          case measure => simp [intOf]; omega
        · have he := HER.out hz1
          rw [he] at HT4
          clear he HER
          go_wp2_with fail
          refine (alike_any HT4.out.1 (by have := HL.out; omega) HKN.out rfl rfl).mono ?_
          rintro e w5 ⟨rfl, h5, k5⟩
          have HT5 := Lib.hid h5
          obtain ⟨_, _, _, _, hd1, hd2, _⟩ := id h5
          obtain ⟨_, _, hr1⟩ := hd1.raw
          obtain ⟨_, _, hr2⟩ := hd2.raw
          have HW1 := Lib.hid (waits_any hd1)
          have HW2 := Lib.hid (waits_any hd2)
          have HD1 := Lib.hid (down_yes p d.down w5 hr1.c8 hr1.c4)
          have HD2 := Lib.hid (down_yes qq d.down w5 hr2.c8 hr2.c4)
          obtain ⟨z3, hz3⟩ : ∃ z3 : Int, ((if d.down then 0 else d.waits.length : Nat) : Int) = z3 := ⟨_, rfl⟩
          obtain ⟨b3, hb3⟩ : ∃ b3, d.down = b3 := ⟨_, rfl⟩
          rw [hz3] at HW1 HW2
          rw [hb3] at HD1 HD2
          clear h5 k5 hd1 hd2 hr1 hr2 hz3 hb3 g0
          go_wp2_with fail
          refine HW1.out.mono ?_
          rintro e w6 ⟨rfl, rfl⟩
          go_wp2_with fail
          refine HW2.out.mono ?_
          rintro e w6 ⟨rfl, rfl⟩
          go_wp2_with fail
          refine HD1.out.mono ?_
          rintro e w6 ⟨rfl, rfl⟩
          go_wp2_with fail
          refine HD2.out.mono ?_
          rintro e w6 ⟨rfl, rfl⟩
          clear HW1 HW2 HD1 HD2
          go_wp2
          go_roundw
          case rel => exact ⟨k + 1, by omega, by go_num, d, HE.out, (HT5.out.narrow fun _ h => h.elim).one⟩
          case measure => simp [intOf]; omega
      have HAC := Lib.hid (HT.out.acts HKN.out ⟨o, nm, to, by_, x, y⟩ (.slice ua by_.length uc) HU.out HQ.out.2)
      go_wp2_with fail
      refine HAC.out.mono ?_
      rintro e w4 ⟨rfl, h4, k4⟩
      have HCA : Hid ((d.act ⟨o, nm, to, by_, x, y⟩).cap = c) := (d.act_cap _).trans HE.out
      have H5A : Hid (o = 5 → d.act ⟨o, nm, to, by_, x, y⟩ = d) := fun h => Dk.act_five h
      clear g0 g1 g2 g3 g4 g5 HAC
      have hk4 : Keep (fun i => False ∨ i = B) Wb w4 := HK3.out.trans k4
      have HT4 := Lib.hid (And.intro h4 hk4)
      obtain ⟨_, _, _, _, hd1, _⟩ := id h4
      have hby := bytes_any hd1
      have hle : ((if (d.act ⟨o, nm, to, by_, x, y⟩).down then 0 else (d.act ⟨o, nm, to, by_, x, y⟩).seen.total : Nat) : Int) ≤ (c : Int) := by
        have h1 := hd1.ok.total
        have h2 : (d.act ⟨o, nm, to, by_, x, y⟩).cap = c := (d.act_cap _).trans HE.out
        split <;> omega
      have g0 : w4.cell? ⟨B, 0, none⟩ = some (.int .i64 o) := by rw [Go.Joins.cell_of_block (HBX.out w4 hk4)]; rfl
      obtain ⟨z2, hz2⟩ : ∃ z2 : Int, ((if (d.act ⟨o, nm, to, by_, x, y⟩).down then 0 else (d.act ⟨o, nm, to, by_, x, y⟩).seen.total : Nat) : Int) = z2 := ⟨_, rfl⟩
      rw [hz2] at hby hle
      have HBY := Lib.hid hby
      have hle' : ¬ (c : Int) < z2 := by omega
      clear h4 k4 hk4 hd1 hby hz2 hle
      go_wp2_with fail
      refine HBY.out.mono ?_
      rintro e w5 ⟨rfl, rfl⟩
      clear HBY
      by_cases e5 : o = 5
      · have he := H5A.out e5
        rw [he] at HT4
        subst e5
        clear he H5A
        go_wp2_with fail
        refine (alike_any HT4.out.1 (by have := HL.out; omega) HKN.out rfl rfl).mono ?_
        rintro e w5 ⟨rfl, h5, k5⟩
        have HT5 := Lib.hid h5
        obtain ⟨_, _, _, _, hd1, hd2, _⟩ := id h5
        obtain ⟨_, _, hr1⟩ := hd1.raw
        obtain ⟨_, _, hr2⟩ := hd2.raw
        have HW1 := Lib.hid (waits_any hd1)
        have HW2 := Lib.hid (waits_any hd2)
        have HD1 := Lib.hid (down_yes p d.down w5 hr1.c8 hr1.c4)
        have HD2 := Lib.hid (down_yes qq d.down w5 hr2.c8 hr2.c4)
        obtain ⟨z3, hz3⟩ : ∃ z3 : Int, ((if d.down then 0 else d.waits.length : Nat) : Int) = z3 := ⟨_, rfl⟩
        obtain ⟨b3, hb3⟩ : ∃ b3, d.down = b3 := ⟨_, rfl⟩
        rw [hz3] at HW1 HW2
        rw [hb3] at HD1 HD2
        clear h5 k5 hd1 hd2 hr1 hr2 hz3 hb3 g0
        go_wp2_with fail
        refine HW1.out.mono ?_
        rintro e w6 ⟨rfl, rfl⟩
        go_wp2_with fail
        refine HW2.out.mono ?_
        rintro e w6 ⟨rfl, rfl⟩
        go_wp2_with fail
        refine HD1.out.mono ?_
        rintro e w6 ⟨rfl, rfl⟩
        go_wp2_with fail
        refine HD2.out.mono ?_
        rintro e w6 ⟨rfl, rfl⟩
        clear HW1 HW2 HD1 HD2
        go_wp2
        go_roundw
        case rel => exact ⟨k + 1, by omega, by go_num, d, HE.out, (HT5.out.narrow fun _ h => h.elim).one⟩
        case measure => simp [intOf]; omega
      · go_wp2
        go_roundw
        case rel => exact ⟨k + 1, by omega, by go_num, _, HCA.out, (HT4.out.1.narrow fun _ h => h.elim).one⟩
        case measure => simp [intOf]; omega
    · obtain rfl : k = l.length := by omega
      obtain ⟨d, _, hd⟩ := HR.out
      have HB := Lib.hid hd.below
      clear hd HR
      go_wp2_with fail
      refine (HX.out _ HB.out).mono ?_
      rintro e wz ⟨rfl, hb⟩
      have HBE := Lib.hid hb
      clear hb
      go_wp2
      go_ret
      exact ⟨rfl, HBE.out⟩
end Go.Proofs.Yticbfnflillokaa
