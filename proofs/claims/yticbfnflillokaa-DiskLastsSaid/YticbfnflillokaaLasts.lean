/- The walk of the law DiskLasts. -/
import Derived.Test.YticbfnflillokaaThree
import Derived.Test.YticbfnflillokaaFollow
import Derived.Test.YticbfnflillokaaSwapMath
import Derived.Test.YticbfnflillokaaAwake
namespace Go.Proofs.Yticbfnflillokaa
open Go.RowKit Go.Sort
abbrev Nil : Bks := fun _ => False
/-- what the loop over the later acts keeps -/
def Lasting (w wr : World) (p s t k c : Nat) (keep : Int) : Prop :=
  ∃ d a b, (d.down = false ∧ d.cap = c ∧ Follow (max keep 0).toNat d a ∧ (keep ≤ 1000000 → Follow ((max keep 0).toNat + 1) d b)) ∧ Three w Nil wr p (402 + k) d s (402 + k) a t (402 + k) b
theorem next_act {keep : Int} {d b : Dk} (h : keep ≤ 1000000 → Follow ((max keep 0).toNat + 1) d b) (hok : d.ok) {x : AV} (hok' : (d.act x).ok) (hx : x.o ≤ 3) (hw : keep ≤ 1000000 → (d.act x).waits.length ≤ (max keep 0).toNat + 1) : keep ≤ 1000000 → Follow ((max keep 0).toNat + 1) (d.act x) (b.act x) :=
  fun hk => (h hk).act hok hok' hx (hw hk)
theorem next_stay {keep : Int} {d b : Dk} (h : keep ≤ 1000000 → Follow ((max keep 0).toNat + 1) d b) {x : AV} (hx : x.o ≤ 3) (hw : keep ≤ 1000000 → (max keep 0).toNat + 1 < (d.act x).waits.length) : keep ≤ 1000000 → Follow ((max keep 0).toNat + 1) (d.act x) b :=
  fun hk => (h hk).stay hx (.inr (hw hk))
theorem Three.ok {w wi : World} {J : Bks} {p N q M r L : Nat} {d c e : Dk} (h : Three w J wi p N d q M c r L e) : d.ok := by
  obtain ⟨_, _, _, _, _, _, ⟨h1, _⟩, _⟩ := h; exact h1.ok
theorem Three.waits {w wi : World} {J : Bks} {p N q M r L : Nat} {d c e : Dk} (h : Three w J wi p N d q M c r L e) (hd : d.down = false) : Calls Try.prog 28 #[.pointer (some ⟨p, 0, none⟩)] wi fun x w' => x = .returned (.int .i64 ((d.waits.length : Nat) : Int)) ∧ wi = w' := by
  obtain ⟨_, _, _, _, _, _, ⟨h1, _⟩, _⟩ := h
  have := waits_any h1
  rw [hd] at this
  exact this
set_option maxRecDepth 100000 in
set_option maxHeartbeats 8000000 in
theorem diskLasts_any (n : Int) (v1 v2 : Value) (l l2 : List AV) (keep torn : Int) (w : World) (hp : ActsIn w v1 l) (hp2 : ActsIn w v2 l2) :
    Calls Try.prog 5 #[.int .i64 n, v1, v2, .int .i64 keep, .int .i64 torn] w fun e w' => e = .returned (.bool true) ∧ Below w.heap.size w w' := by
  have HX : Hid (∀ W, Below w.heap.size w W → Calls Try.prog 10 #[] W fun e w' => e = .returned (.bool true) ∧ Below w.heap.size w w') := fun W hb => (awake_any W).mono fun e w' h => ⟨h.1, hb.trans (h.2.mono hb.size)⟩
  obtain ⟨la, lc, rfl, hl1, hl2, _⟩ := id hp.1
  obtain ⟨ma, mc, rfl, hm1, hm2, _⟩ := id hp2.1
  rw [maxLen_eq] at hl1 hm1
  have HP := Lib.hid hp
  have HP2 := Lib.hid hp2
  clear hp hp2
  by_cases hcap : n < 0 ∨ 65536 < n
  · go_enter Try.func5, Try.ntmps5
    go_wp2_with fail
    refine (new_bad n w hcap).mono ?_
    rintro e w1 ⟨rfl, rfl⟩
    clear hcap
    go_wp2_with fail
    refine (HX.out _ (Below.refl _ _)).mono ?_
    rintro e w1 ⟨rfl, hb⟩
    have HBE := Lib.hid hb
    clear hb
    go_wp2
    go_ret
    exact ⟨rfl, HBE.out⟩
  obtain ⟨c, rfl⟩ : ∃ c : Nat, n = (c : Int) := ⟨n.toNat, by omega⟩
  go_enter Try.func5, Try.ntmps5
  go_wp2_with fail
  refine (new_any c w (by omega)).mono ?_
  rintro e w1 ⟨p, rfl, hfr⟩
  have H1 : Hid (One w Nil w1 p 0 (Dk.new c)) := One.of_fresh hfr
  have HG := Lib.hid (many_any _ l w1 (HP.out.below hfr.choose_spec.choose_spec.2.2))
  clear hfr hcap
  by_cases hg : 400 < countTo l l.length
  · rw [decide_eq_true hg] at HG
    clear hg
    go_wp2_with fail
    refine HG.out.mono ?_
    rintro e w2 ⟨rfl, hb⟩
    have HB2 : Hid (Below w.heap.size w w2) := H1.out.below.trans (hb.mono H1.out.below.size)
    clear hb
    go_wp2_with fail
    refine (HX.out _ HB2.out).mono ?_
    rintro e w3 ⟨rfl, hb⟩
    have HBE := Lib.hid hb
    clear hb
    go_wp2
    go_ret
    exact ⟨rfl, HBE.out⟩
  rw [decide_eq_false hg] at HG
  have hlen : l.length ≤ 400 := by unfold countTo at hg; omega
  clear hg
  go_wp2_with fail
  refine HG.out.mono ?_
  rintro e w2 ⟨rfl, hb⟩
  have H2 : Hid (One w Nil w2 p 0 (Dk.new c)) := (H1.out.still hb).1
  clear hb H1 HG
  have HL := Lib.hid hlen
  clear hlen
  have HG2 := Lib.hid (many_any _ l2 w2 (HP2.out.below H2.out.below))
  by_cases hg2 : 400 < countTo l2 l2.length
  · rw [decide_eq_true hg2] at HG2
    clear hg2
    go_wp2_with fail
    refine HG2.out.mono ?_
    rintro e w3 ⟨rfl, hb⟩
    have HB2 : Hid (Below w.heap.size w w3) := H2.out.below.trans (hb.mono H2.out.below.size)
    clear hb
    go_wp2_with fail
    refine (HX.out _ HB2.out).mono ?_
    rintro e wz ⟨rfl, hb⟩
    have HBE := Lib.hid hb
    clear hb
    go_wp2
    go_ret
    exact ⟨rfl, HBE.out⟩
  rw [decide_eq_false hg2] at HG2
  have hlen2 : l2.length ≤ 400 := by unfold countTo at hg2; omega
  clear hg2
  go_wp2_with fail
  refine HG2.out.mono ?_
  rintro e w2b ⟨rfl, hb⟩
  have H2b : Hid (One w Nil w2b p 0 (Dk.new c)) := (H2.out.still hb).1
  have HL2 := Lib.hid hlen2
  clear hb H2 HG2 hlen2 hl2 hm2
  have H2 := H2b
  clear H2b
  go_wp2
  go_loopw [13] (fun i wr => ∃ k : Nat, k ≤ l.length ∧ i = .int .i64 (k : Nat) ∧ Hid (∃ d, d.cap = c ∧ One w Nil wr p k d)) (fun i _ => l.length - (intOf i).toNat)
  case atStart => exact ⟨0, Nat.zero_le _, rfl, _, rfl, H2.out⟩
  case round =>
    obtain ⟨k, hk, rfl, HR⟩ := hrel
    by_cases hlt : k < l.length
    · obtain ⟨d, hcd, hd⟩ := HR.out
      obtain ⟨_, _, e1, _, _, _, hc0⟩ := (HP.out.below hd.below).1
      obtain ⟨b, off, e2, hb, hc⟩ := hc0 (by omega)
      injection e1 with e3 e4 e5
      subst e3
      subst e2
      subst e5
      obtain ⟨q, hqk⟩ : ∃ q, l[k]? = some q := ⟨_, List.getElem?_eq_getElem hlt⟩
      obtain ⟨hok, u, hu, hr⟩ := hc k q hqk
      have HCD : Hid ((d.act q).cap = c) := (d.act_cap q).trans hcd
      clear hcd
      have HD := Lib.hid (does_any hd (by have := HL.out; omega) q u hu hok)
      have h0 : wr.cell? ⟨b, off + k * 6 + 0, none⟩ = some (.int .i64 q.o) := hr 0 (by omega)
      have h1 : wr.cell? ⟨b, off + k * 6 + 1, none⟩ = some (.string ⟨q.name.toArray⟩) := hr 1 (by omega)
      have h2 : wr.cell? ⟨b, off + k * 6 + 2, none⟩ = some (.string ⟨q.to.toArray⟩) := hr 2 (by omega)
      have h3 : wr.cell? ⟨b, off + k * 6 + 3, none⟩ = some u := hr 3 (by omega)
      have h4 : wr.cell? ⟨b, off + k * 6 + 4, none⟩ = some (.int .i64 q.x) := hr 4 (by omega)
      have h5 : wr.cell? ⟨b, off + k * 6 + 5, none⟩ = some (.int .i64 q.y) := hr 5 (by omega)
      clear hc0 hc hr hu hok hqk HR hd hb e4
      rw [Nat.add_zero] at h0
      obtain ⟨nm, hnm⟩ : ∃ nm, (⟨q.name.toArray⟩ : ByteArray) = nm := ⟨_, rfl⟩
      obtain ⟨to, hto⟩ : ∃ to, (⟨q.to.toArray⟩ : ByteArray) = to := ⟨_, rfl⟩
      have HC : Hid ((q.cells u).toArray = #[.int .i64 q.o, .string nm, .string to, u, .int .i64 q.x, .int .i64 q.y]) := by rw [← hnm, ← hto]; exact rfl
      rw [HC.out] at HD
      rw [hnm] at h1
      rw [hto] at h2
      clear hnm hto HC
      go_wp2_with (go_at_call 32; refine HD.out.mono ?_; rintro e w3 ⟨rfl, hd3, _⟩; have H3 : Hid (∃ d, d.cap = c ∧ One w Nil w3 p (k + 1) d) := ⟨_, HCD.out, hd3⟩; clear hd3)
      go_roundw
      case rel => exact ⟨k + 1, by omega, by go_num, H3.out⟩
      case measure => simp [intOf]; omega
    · obtain rfl : k = l.length := by omega
      obtain ⟨d0, hcap0, hd0⟩ := HR.out
      have H3 : Hid (d0.cap = c ∧ One w Nil wr p 400 d0) := ⟨hcap0, hd0.mono HL.out⟩
      clear hd0 HR hcap0
      go_wp2_with fail
      refine (H3.out.2.does fun _ _ hd => start_any hd).mono ?_
      rintro e w3 ⟨rfl, h3, _⟩
      have H4 : Hid ((d0.start.2.down = false ∧ d0.start.2.cap = c) ∧ One w Nil w3 p 401 d0.start.2) := ⟨⟨d0.start_up', (start_cap d0).trans H3.out.1⟩, h3⟩
      generalize d0.start.2 = d1 at H4
      generalize d0.start.1 = y0
      clear h3 H3
      go_wp2_with fail
      refine (H4.out.2.does fun _ _ hd => sync_any hd (by omega)).mono ?_
      rintro e w4 ⟨rfl, h4, _⟩
      have H5 : Hid ((d1.sync.2.down = false ∧ d1.sync.2.waits = [] ∧ d1.sync.2.cap = c) ∧ One w Nil w4 p 402 d1.sync.2) := ⟨⟨(sync_up H4.out.1.1).1, (sync_up H4.out.1.1).2.1, (sync_up H4.out.1.1).2.2.trans H4.out.1.2⟩, h4⟩
      generalize d1.sync.2 = d2 at H5
      generalize d1.sync.1 = y1
      clear h4 H4
      go_wp2_with fail
      refine (H5.out.2.copy (by omega)).mono ?_
      rintro e w5 ⟨s, rfl, h5, _⟩
      have H6 := Lib.hid h5
      clear h5
      go_wp2_with fail
      refine (H6.out.copy (by omega)).mono ?_
      rintro e w6 ⟨t, rfl, h6, _⟩
      have H7 : Hid ((d2.down = false ∧ d2.waits = [] ∧ d2.cap = c) ∧ Three w Nil w6 p 402 d2 s 402 d2 t 402 d2) := ⟨H5.out.1, h6⟩
      clear h6 H5 H6
      go_wp2
      have HLA : Hid (Lasting w w6 p s t 0 c keep) := ⟨d2, d2, d2, ⟨H7.out.1.1, H7.out.1.2.2, Follow.init H7.out.2.ok H7.out.1.2.1, fun _ => Follow.init H7.out.2.ok H7.out.1.2.1⟩, H7.out.2⟩
      clear H7
      go_loopw [16] (fun i wr => ∃ k : Nat, k ≤ l2.length ∧ i = .int .i64 (k : Nat) ∧ Hid (Lasting w wr p s t k c keep)) (fun i _ => l2.length - (intOf i).toNat)
      case atStart => exact ⟨0, Nat.zero_le _, rfl, HLA.out⟩
      case round =>
        obtain ⟨k, hk, rfl, HR⟩ := hrel
        clear HLA
        by_cases hlt : k < l2.length
        · obtain ⟨d, a, b_, hst, hth⟩ := HR.out
          obtain ⟨_, _, e1, _, _, _, hc0⟩ := id HP2.out.1
          obtain ⟨bb, off, e2, hb, hc⟩ := hc0 (by omega)
          injection e1 with e3 e4 e5
          subst e3
          subst e2
          subst e5
          obtain ⟨q, hqk⟩ : ∃ q, l2[k]? = some q := ⟨_, List.getElem?_eq_getElem hlt⟩
          obtain ⟨hok, u, hu, hr⟩ := hc k q hqk
          have HU := Lib.hid hu
          obtain ⟨ua, uc, rfl, _⟩ := hu.form
          obtain ⟨o, nm, to, by_, x, y⟩ := q
          have HOK := Lib.hid hok
          have HCE : Hid (∀ W, RowKit.Below w.heap.size w W → W.cell? ⟨bb, off + k * 6, none⟩ = some (.int .i64 o) ∧ W.cell? ⟨bb, off + k * 6 + 1, none⟩ = some (.string ⟨nm.toArray⟩) ∧ W.cell? ⟨bb, off + k * 6 + 2, none⟩ = some (.string ⟨to.toArray⟩) ∧ W.cell? ⟨bb, off + k * 6 + 3, none⟩ = some (.slice ua by_.length uc) ∧ W.cell? ⟨bb, off + k * 6 + 4, none⟩ = some (.int .i64 x) ∧ W.cell? ⟨bb, off + k * 6 + 5, none⟩ = some (.int .i64 y)) := fun W hW => by
            have each : ∀ r, r < 6 → W.cell? ⟨bb, off + k * 6 + r, none⟩ = ((AV.cells ⟨o, nm, to, by_, x, y⟩ (.slice ua by_.length uc)))[r]? := fun r hr6 => by rw [hW.cell (show (⟨bb, off + k * 6 + r, none⟩ : Addr).block < _ from hb)]; exact hr r hr6
            exact ⟨each 0 (by omega), each 1 (by omega), each 2 (by omega), each 3 (by omega), each 4 (by omega), each 5 (by omega)⟩
          have HST := Lib.hid hst
          have HTH := Lib.hid hth
          have HDO := Lib.hid hth.ok
          have HFB := Lib.hid hst.2.2.2
          have HL2k := HL2.out
          clear hc0 hc hr hu hok hqk hst hth hb e4
          obtain ⟨g0, g1, g2, g3, g4, g5⟩ := HCE.out wr HTH.out.below
          by_cases hxo : 3 < o
          · have HE : Hid (Lasting w wr p s t (k + 1) c keep) := ⟨d, a, b_, HST.out, HTH.out.mono (by omega) (by omega) (by omega)⟩
            clear HCE HST HTH HDO HFB HR
            go_wp2
            go_roundw
            case rel => exact ⟨k + 1, by omega, by go_num, HE.out⟩
            case measure => simp [intOf]; omega
          have HXO : Hid ((⟨o, nm, to, by_, x, y⟩ : AV).o ≤ 3) := by show o ≤ 3; omega
          have HAC := Lib.hid (HTH.out.acts (by omega) ⟨o, nm, to, by_, x, y⟩ (.slice ua by_.length uc) (HU.out.belowB HTH.out.below (Nat.le_refl _)) HOK.out)
          go_wp2_with fail
          refine HAC.out.mono ?_
          rintro e w7 ⟨rfl, h7, _⟩
          have H7 : Hid (((d.act ⟨o, nm, to, by_, x, y⟩).down = false ∧ (d.act ⟨o, nm, to, by_, x, y⟩).cap = c) ∧ Three w Nil w7 p (402 + (k + 1)) (d.act ⟨o, nm, to, by_, x, y⟩) s (402 + k) a t (402 + k) b_) := ⟨⟨(act_keeps d _ HXO.out).2.1.trans HST.out.1, (act_keeps d _ HXO.out).2.2.trans HST.out.2.1⟩, h7⟩
          have HFA := Lib.hid HST.out.2.2.1
          clear h7 HAC HR HST HTH g0 g1 g2 g3 g4 g5
          obtain ⟨wl, hwl⟩ : ∃ wl, (d.act ⟨o, nm, to, by_, x, y⟩).waits.length = wl := ⟨_, rfl⟩
          have HWL := Lib.hid hwl
          have hwt := H7.out.2.waits H7.out.1.1
          rw [hwl] at hwt
          have HWT := Lib.hid hwt
          clear hwt hwl
          go_wp2_with fail
          refine HWT.out.mono ?_
          rintro e wz ⟨rfl, rfl⟩
          by_cases hA : (wl : Int) ≤ keep
          · obtain ⟨g0, g1, g2, g3, g4, g5⟩ := HCE.out w7 H7.out.2.below
            have HAC := Lib.hid (H7.out.2.rot.acts (by omega) ⟨o, nm, to, by_, x, y⟩ (.slice ua by_.length uc) (HU.out.belowB H7.out.2.below (Nat.le_refl _)) HOK.out)
            clear HWT
            go_wp2_with fail
            refine HAC.out.mono ?_
            rintro e w8 ⟨rfl, h8, _⟩
            have HS : Hid (((d.act ⟨o, nm, to, by_, x, y⟩).down = false ∧ (d.act ⟨o, nm, to, by_, x, y⟩).cap = c ∧ Follow (max keep 0).toNat (d.act ⟨o, nm, to, by_, x, y⟩) (a.act ⟨o, nm, to, by_, x, y⟩)) ∧ Three w Nil w8 p (402 + (k + 1)) (d.act ⟨o, nm, to, by_, x, y⟩) s (402 + (k + 1)) (a.act ⟨o, nm, to, by_, x, y⟩) t (402 + k) b_) := ⟨⟨H7.out.1.1, H7.out.1.2, HFA.out.act HDO.out H7.out.2.ok HXO.out (by have := HWL.out; omega)⟩, h8.rot.rot⟩
            clear h8 HAC HFA H7 g0 g1 g2 g3 g4 g5
            have hwt := HS.out.2.waits HS.out.1.1
            rw [HWL.out] at hwt
            have HWT := Lib.hid hwt
            clear hwt
            go_wp2_with fail
            refine HWT.out.mono ?_
            rintro e wz ⟨rfl, rfl⟩
            by_cases hB : (wl : Int) ≤ wrap64 (keep + 1)
            · have hge : (0 : Int) ≤ keep := by omega
              obtain ⟨g0, g1, g2, g3, g4, g5⟩ := HCE.out w8 HS.out.2.below
              have HNX := Lib.hid (HS.out.2.rot.rot.acts (by omega) ⟨o, nm, to, by_, x, y⟩ (.slice ua by_.length uc) (HU.out.belowB HS.out.2.below (Nat.le_refl _)) HOK.out)
              clear HWT
              go_wp2_with fail
              refine HNX.out.mono ?_
              rintro e w9 ⟨rfl, h9, _⟩
              have HE : Hid (Lasting w w9 p s t (k + 1) c keep) := ⟨_, _, _, ⟨HS.out.1.1, HS.out.1.2.1, HS.out.1.2.2, next_act HFB.out HDO.out HS.out.2.ok HXO.out (by have := HWL.out; intro hkk; rw [wrap_sm (by omega) (by omega)] at hB; omega)⟩, h9.rot⟩
              clear h9 HNX g0 g1 g2 g3 g4 g5
              go_wp2
              go_roundw
              case rel => exact ⟨k + 1, by omega, by go_num, HE.out⟩
              case measure => simp [intOf]; omega
            · have hlt0 : ¬ keep < 0 := by omega
              have HE : Hid (Lasting w w8 p s t (k + 1) c keep) := ⟨_, _, _, ⟨HS.out.1.1, HS.out.1.2.1, HS.out.1.2.2, next_stay HFB.out HXO.out (by have := HWL.out; intro hkk; rw [wrap_sm (by omega) (by omega)] at hB; omega)⟩, HS.out.2.mono (Nat.le_refl _) (Nat.le_refl _) (by omega)⟩
              clear HWT
              go_wp2
              go_roundw
              case rel => exact ⟨k + 1, by omega, by go_num, HE.out⟩
              case measure => simp [intOf]; omega
          · have HS : Hid (((d.act ⟨o, nm, to, by_, x, y⟩).down = false ∧ (d.act ⟨o, nm, to, by_, x, y⟩).cap = c ∧ Follow (max keep 0).toNat (d.act ⟨o, nm, to, by_, x, y⟩) a) ∧ Three w Nil w7 p (402 + (k + 1)) (d.act ⟨o, nm, to, by_, x, y⟩) s (402 + (k + 1)) a t (402 + k) b_) := ⟨⟨H7.out.1.1, H7.out.1.2, HFA.out.stay HXO.out (by have := HWL.out; omega)⟩, H7.out.2.mono (Nat.le_refl _) (by omega) (Nat.le_refl _)⟩
            clear HFA H7
            by_cases hneg : keep < 0
            · skip
              go_wp2_with fail
              refine HWT.out.mono ?_
              rintro e wz ⟨rfl, rfl⟩
              have hge : ¬ (0 : Int) ≤ keep := by omega
              by_cases hB : (wl : Int) ≤ wrap64 (keep + 1)
              · go_wp2_with fail
                refine HWT.out.mono ?_
                rintro e wz ⟨rfl, rfl⟩
                by_cases hC : (wl : Int) ≤ 1
                · skip
                  obtain ⟨g0, g1, g2, g3, g4, g5⟩ := HCE.out w7 HS.out.2.below
                  have HNX := Lib.hid (HS.out.2.rot.rot.acts (by omega) ⟨o, nm, to, by_, x, y⟩ (.slice ua by_.length uc) (HU.out.belowB HS.out.2.below (Nat.le_refl _)) HOK.out)
                  clear HWT
                  go_wp2_with fail
                  refine HNX.out.mono ?_
                  rintro e w9 ⟨rfl, h9, _⟩
                  have HE : Hid (Lasting w w9 p s t (k + 1) c keep) := ⟨_, _, _, ⟨HS.out.1.1, HS.out.1.2.1, HS.out.1.2.2, next_act HFB.out HDO.out HS.out.2.ok HXO.out (by have := HWL.out; intro hkk; omega)⟩, h9.rot⟩
                  clear h9 HNX g0 g1 g2 g3 g4 g5
                  go_wp2
                  go_roundw
                  case rel => exact ⟨k + 1, by omega, by go_num, HE.out⟩
                  case measure => simp [intOf]; omega
                · skip
                  have HE : Hid (Lasting w w7 p s t (k + 1) c keep) := ⟨_, _, _, ⟨HS.out.1.1, HS.out.1.2.1, HS.out.1.2.2, next_stay HFB.out HXO.out (by have := HWL.out; intro hkk; omega)⟩, HS.out.2.mono (Nat.le_refl _) (Nat.le_refl _) (by omega)⟩
                  clear HWT
                  go_wp2
                  go_roundw
                  case rel => exact ⟨k + 1, by omega, by go_num, HE.out⟩
                  case measure => simp [intOf]; omega
              · go_wp2_with fail
                refine HWT.out.mono ?_
                rintro e wz ⟨rfl, rfl⟩
                by_cases hC : (wl : Int) ≤ 1
                · skip
                  obtain ⟨g0, g1, g2, g3, g4, g5⟩ := HCE.out w7 HS.out.2.below
                  have HNX := Lib.hid (HS.out.2.rot.rot.acts (by omega) ⟨o, nm, to, by_, x, y⟩ (.slice ua by_.length uc) (HU.out.belowB HS.out.2.below (Nat.le_refl _)) HOK.out)
                  clear HWT
                  go_wp2_with fail
                  refine HNX.out.mono ?_
                  rintro e w9 ⟨rfl, h9, _⟩
                  have HE : Hid (Lasting w w9 p s t (k + 1) c keep) := ⟨_, _, _, ⟨HS.out.1.1, HS.out.1.2.1, HS.out.1.2.2, next_act HFB.out HDO.out HS.out.2.ok HXO.out (by have := HWL.out; intro hkk; omega)⟩, h9.rot⟩
                  clear h9 HNX g0 g1 g2 g3 g4 g5
                  go_wp2
                  go_roundw
                  case rel => exact ⟨k + 1, by omega, by go_num, HE.out⟩
                  case measure => simp [intOf]; omega
                · skip
                  have HE : Hid (Lasting w w7 p s t (k + 1) c keep) := ⟨_, _, _, ⟨HS.out.1.1, HS.out.1.2.1, HS.out.1.2.2, next_stay HFB.out HXO.out (by have := HWL.out; intro hkk; omega)⟩, HS.out.2.mono (Nat.le_refl _) (Nat.le_refl _) (by omega)⟩
                  clear HWT
                  go_wp2
                  go_roundw
                  case rel => exact ⟨k + 1, by omega, by go_num, HE.out⟩
                  case measure => simp [intOf]; omega
            · skip
              go_wp2_with fail
              refine HWT.out.mono ?_
              rintro e wz ⟨rfl, rfl⟩
              by_cases hB : (wl : Int) ≤ wrap64 (keep + 1)
              · have hge : (0 : Int) ≤ keep := by omega
                obtain ⟨g0, g1, g2, g3, g4, g5⟩ := HCE.out w7 HS.out.2.below
                have HNX := Lib.hid (HS.out.2.rot.rot.acts (by omega) ⟨o, nm, to, by_, x, y⟩ (.slice ua by_.length uc) (HU.out.belowB HS.out.2.below (Nat.le_refl _)) HOK.out)
                clear HWT
                go_wp2_with fail
                refine HNX.out.mono ?_
                rintro e w9 ⟨rfl, h9, _⟩
                have HE : Hid (Lasting w w9 p s t (k + 1) c keep) := ⟨_, _, _, ⟨HS.out.1.1, HS.out.1.2.1, HS.out.1.2.2, next_act HFB.out HDO.out HS.out.2.ok HXO.out (by have := HWL.out; intro hkk; rw [wrap_sm (by omega) (by omega)] at hB; omega)⟩, h9.rot⟩
                clear h9 HNX g0 g1 g2 g3 g4 g5
                go_wp2
                go_roundw
                case rel => exact ⟨k + 1, by omega, by go_num, HE.out⟩
                case measure => simp [intOf]; omega
              · have hlt0 : ¬ keep < 0 := by omega
                have HE : Hid (Lasting w w7 p s t (k + 1) c keep) := ⟨_, _, _, ⟨HS.out.1.1, HS.out.1.2.1, HS.out.1.2.2, next_stay HFB.out HXO.out (by have := HWL.out; intro hkk; rw [wrap_sm (by omega) (by omega)] at hB; omega)⟩, HS.out.2.mono (Nat.le_refl _) (Nat.le_refl _) (by omega)⟩
                clear HWT
                go_wp2
                go_roundw
                case rel => exact ⟨k + 1, by omega, by go_num, HE.out⟩
                case measure => simp [intOf]; omega
        · obtain rfl : k = l2.length := by omega
          obtain ⟨d, a, b_, hst, hth⟩ := HR.out
          have HST := Lib.hid hst
          have HTH : Hid (Three w Nil wr p 802 d s 802 a t 802 b_) := hth.mono (by have := HL2.out; omega) (by have := HL2.out; omega) (by have := HL2.out; omega)
          have HWN : Hid (d.waits.length ≤ 802) := by obtain ⟨_, _, _, _, _, _, ⟨h1, _⟩, _⟩ := HTH.out; exact h1.waits_le
          clear hst hth HR
          go_wp2_with fail
          have hc := HTH.out.does fun _ _ hd => crash_any hd (by omega) keep torn
          rw [(crash_start HST.out.1 keep torn).1] at hc
          refine hc.mono ?_
          rintro e w7 ⟨rfl, h7, _⟩
          have H7 := Lib.hid h7
          clear hc h7 HTH
          go_wp2_with fail
          have hc := H7.out.does fun _ _ hd => start_any hd
          rw [(crash_start HST.out.1 keep torn).2.1] at hc
          refine hc.mono ?_
          rintro e w8 ⟨rfl, h8, _⟩
          have h4 := (crash_start HST.out.1 keep torn).2.2
          obtain ⟨d4, hd4⟩ : ∃ d4, (d.crash keep torn).2.start.2 = d4 := ⟨_, rfl⟩
          rw [hd4] at h4 h8
          have H8 := Lib.hid h8
          have H4 := Lib.hid h4
          clear hc h8 h4 hd4 H7
          have hwt := H8.out.waits H4.out.1
          rw [H4.out.2.1] at hwt
          go_wp2_with fail
          refine hwt.mono ?_
          rintro e wz ⟨rfl, rfl⟩
          clear hwt
          by_cases ht : torn ≤ 0
          · have hal := alike_any H8.out.two (by omega) (by omega) (by rw [H4.out.2.2.1, left_whole HST.out.2.2.1 ht]) (HST.out.2.2.1.down.trans (HST.out.1.trans H4.out.1.symm))
            go_wp2_with fail
            refine hal.mono ?_
            rintro e w9 ⟨rfl, h9, _⟩
            have HB := Lib.hid h9.one.below
            clear h9 hal
            go_wp2_with fail
            refine (HX.out _ HB.out).mono ?_
            rintro e wz ⟨rfl, hb⟩
            have HBE := Lib.hid hb
            clear hb
            go_wp2
            go_ret
            exact ⟨rfl, HBE.out⟩
          have HLT : Hid (∀ k β, d4.seen.get k = some β → a.seen.get k = some β ∨ ((max keep 0).toNat < d.waits.length ∧ ∃ γ, b_.seen.get k = some γ ∧ β.length ≤ γ.length ∧ γ.take β.length = β ∧ ((a.seen.get k).getD []).length ≤ β.length ∧ 0 < β.length ∧ a.seen.get k ≠ some β)) := fun k β hk => by
            rw [H4.out.2.2.1] at hk
            exact left_torn HST.out.2.2.1 (fun hlt => HST.out.2.2.2 (by have := HWN.out; omega)) k β hk
          have HDN : Hid ((max keep 0).toNat < d.waits.length → b_.down = false) := fun hlt => ((HST.out.2.2.2 (by have := HWN.out; omega)).down).trans HST.out.1
          have HDA : Hid (a.down = false) := HST.out.2.2.1.down.trans HST.out.1
          have HTO : Hid (∀ k ∈ d4.told, isName k = true ∧ ∃ β, d4.seen.get k = some β) := by
            obtain ⟨_, _, _, _, _, _, ⟨h1, _⟩, _⟩ := H8.out
            intro k hk
            refine ⟨h1.told_name k hk, ?_⟩
            unfold Dk.told at hk
            rw [H4.out.1] at hk
            exact Option.isSome_iff_exists.1 ((Fs.mem_names _ k).1 (by simpa using hk))
          have HCB : Hid (d4.cap = c) := H4.out.2.2.2.trans HST.out.2.1
          have HD4 : Hid (d4.down = false) := H4.out.1
          clear HST HWN H4
          go_wp2_with fail
          refine (H8.out.names (by omega)).mono ?_
          rintro e w9 ⟨a1, c1, X1, rfl, s1, h9, k9⟩
          obtain ⟨J2, hJ2⟩ : ∃ J2 : Bks, J2 = fun i => Nil i ∨ X1 i := ⟨_, rfl⟩
          rw [← hJ2] at s1 h9
          obtain ⟨ks, hks⟩ : ∃ ks, d4.told = ks := ⟨_, rfl⟩
          rw [hks] at s1 HTO ⊢
          have H9 : Hid (StrsIn J2 w9 (.slice a1 ks.length c1) ks ∧ Three w J2 w9 p 804 d4 s 802 a t 802 b_) := ⟨s1, h9⟩
          clear s1 h9 k9 hJ2 hks H8
          go_wp2
          clear HL2 HL HP HP2
          go_loopw [18, 19, 20, 21, 22, 23, 24] (fun i _ _ _ _ _ _ wr => ∃ k : Nat, k ≤ ks.length ∧ i = .int .i64 (k : Nat) ∧ Hid (StrsIn J2 wr (.slice a1 ks.length c1) ks ∧ Three w J2 wr p 804 d4 s 802 a t 802 b_)) (fun i _ _ _ _ _ _ _ => ks.length - (intOf i).toNat)
          case atStart => exact ⟨0, Nat.zero_le _, rfl, H9.out⟩
          case round =>
            obtain ⟨k, hk, rfl, HR⟩ := hrel
            clear H9
            by_cases hlt : k < ks.length
            · obtain ⟨x, hx⟩ : ∃ x, ks[k]? = some x := ⟨_, List.getElem?_eq_getElem hlt⟩
              obtain ⟨⟨_, _, e1, hl1, hl2, q1⟩, _⟩ := HR.out
              obtain ⟨b1, rfl, j1, l1, q1⟩ := q1 (by omega)
              injection e1 with e1 _ e1'
              subst e1 e1'
              have HC : Hid (∀ W, Keep J2 wr W → W.cell? ⟨b1, k, none⟩ = some (encStr x)) := fun W hW => by rw [← q1 k x hx]; exact World.cell?_of_block (hW.2 b1 j1 l1)
              obtain ⟨hnm, β, hβ⟩ := HTO.out x (List.mem_of_getElem? hx)
              have HNM := Lib.hid hnm
              have HXL : Hid (x.length ≤ maxLen) := by have := isName_le hnm; show x.length ≤ maxLen; unfold maxLen; omega
              have hz0 : lack d4 x [] = 0 := by rw [lack_up HD4.out hnm rfl, hβ]; rfl
              have HR1 := HR.out.2.read x HXL.out
              rw [hz0, if_pos rfl, hβ] at HR1
              have HB := Lib.hid hβ
              have u1 := HC.out wr (Keep.refl _ _)
              rw [maxLen_eq] at hl2
              clear q1 hx j1 l1 hnm hz0 hβ
              go_wp2_with fail
              refine HR1.mono ?_
              rintro e w10 ⟨ra, rn, rc, Y1, rfl, r1, h10, k10⟩
              have H10 := Lib.hid (And.intro r1 (And.intro h10 k10))
              have u1 := HC.out w10 k10
              clear r1 h10 k10 HR1
              go_wp2_with fail
              have hra : (if lack a x [] = 0 then (a.seen.get x).getD [] else []) = (a.seen.get x).getD [] ∧ lack a x [] = if (a.seen.get x).isSome = true then 0 else 4 := by
                rw [lack_up HDA.out HNM.out rfl]
                cases a.seen.get x <;> exact ⟨rfl, rfl⟩
              have hc := H10.out.2.1.rot.read x HXL.out
              rw [hra.1, hra.2] at hc
              obtain ⟨zz, hzz⟩ : ∃ zz : Int, (if (a.seen.get x).isSome = true then (0 : Int) else 4) = zz := ⟨_, rfl⟩
              rw [hzz] at hc
              have HZZ := Lib.hid hzz
              clear hzz
              refine hc.mono ?_
              rintro e w11 ⟨sa, sn, sc, Y2, rfl, r2, h11, k11⟩
              have hk11 : Keep J2 wr w11 := H10.out.2.2.trans (k11.narrow fun _ h => .inl h)
              have H11 : Hid (BytesIn (fun i => J2 i ∨ Y1 i) w11 (.slice ra rn rc) β ∧ BytesIn (fun i => (J2 i ∨ Y1 i) ∨ Y2 i) w11 (.slice sa sn sc) ((a.seen.get x).getD []) ∧ Three w (fun i => (J2 i ∨ Y1 i) ∨ Y2 i) w11 s 802 a t 802 b_ p 804 d4 ∧ Keep J2 wr w11) := ⟨H10.out.1.keep k11 fun _ h => h, r2, h11, hk11⟩
              have u1 := HC.out w11 hk11
              clear hc hra r2 h11 k11 hk11 H10
              go_wp2_with fail
              refine (H11.out.2.2.1.rot.read x HXL.out).mono ?_
              rintro e w12 ⟨ta, tn, tc, Y3, rfl, r3, h12, k12⟩
              have hk12 : Keep J2 wr w12 := H11.out.2.2.2.trans (k12.narrow fun _ h => .inl (.inl h))
              have HT3 : Hid (∀ m, StrsIn J2 (w12.drewN m) (.slice (some ⟨b1, 0, none⟩) ks.length c1) ks ∧ Three w J2 (w12.drewN m) p 804 d4 s 802 a t 802 b_) := fun m =>
                ⟨HR.out.1.keep (hk12.trans ⟨Nat.le_refl _, fun _ _ _ => rfl⟩ : Keep J2 wr (w12.drewN m)) fun _ h => h, ((h12.rot.still (Go.Joins.below_draws _ _ m)).1.narrow fun _ h => .inl (.inl (.inl h)))⟩
              have bB : BytesIn (fun i => J2 i ∨ Y1 i) w12 (.slice ra rn rc) β := H11.out.1.keep k12 fun _ h => .inl h
              have bA := H11.out.2.1.keep k12 fun _ h => h
              have t1 := string_bytes bB
              have t2 := string_bytes bA
              by_cases heq : a.seen.get x = some β
              · rw [heq] at t2
                have ho : zz = 0 := by rw [← HZZ.out, heq]; rfl
                have hg : (some β).getD ([] : Bs) = β := rfl
                rw [hg] at t2
                rw [ho]
                obtain ⟨SB, hSB⟩ : ∃ SB, (⟨β.toArray⟩ : ByteArray) = SB := ⟨_, rfl⟩
                rw [hSB] at t1 t2
                obtain ⟨z, hz⟩ : ∃ z, lack b_ x [] = z := ⟨_, rfl⟩
                rw [hz]
                have HT4 : Hid (StrsIn J2 w12 (.slice (some ⟨b1, 0, none⟩) ks.length c1) ks ∧ Three w J2 w12 p 804 d4 s 802 a t 802 b_) := HT3.out 0
                clear ho hg hz hSB bB bA r3 h12 k12 hk12 HT3 H11 HR HC heq u1
                go_wp2
                go_roundw
                case rel => exact ⟨k + 1, by omega, by go_num, HT4.out⟩
                case measure => simp [intOf]; omega
              · obtain ⟨hlt', γ, hγ, hlen, htake, hle, hpos, _⟩ := (HLT.out x β HB.out).resolve_left heq
                have hz : lack b_ x [] = 0 := by rw [lack_up (HDN.out hlt') HNM.out rfl, hγ]; rfl
                rw [hz, if_pos rfl, hγ] at r3
                have hne : (a.seen.get x).getD [] ≠ β := fun e => by
                  cases hg : a.seen.get x with
                  | none => rw [hg] at e; rw [← e] at hpos; simp at hpos
                  | some α => rw [hg] at e; exact heq (by rw [hg, ← e]; rfl)
                obtain ⟨α, hα⟩ : ∃ α, (a.seen.get x).getD [] = α := ⟨_, rfl⟩
                rw [hα] at hne hle bA t2
                rw [hz]
                have fB := bB.form
                have fA := bA.form
                have r3' : BytesIn (fun i => ((J2 i ∨ Y1 i) ∨ Y2 i) ∨ Y3 i) w12 (.slice ta tn tc) γ := r3
                have fC := r3'.form
                obtain ⟨_, _, e1, hb1, hb2⟩ := fB
                injection e1 with e0 e2 e3
                subst e0 e2 e3
                obtain ⟨_, _, e1, ha1, ha2⟩ := fA
                injection e1 with e0 e2 e3
                subst e0 e2 e3
                obtain ⟨_, _, e1, hc1, hc2⟩ := fC
                injection e1 with e0 e2 e3
                subst e0 e2 e3
                have hta : ta ≠ none := fun e => by
                  subst e
                  rcases r3' with ⟨h1, h2⟩ | ⟨ad, cp, h1, _⟩
                  · rw [h2] at hlen; exact absurd hlen (by show ¬ β.length ≤ 0; omega)
                  · cases h1
                obtain ⟨tb, rfl⟩ : ∃ tb, ta = some tb := Option.ne_none_iff_exists'.1 hta
                have t3 := fun m => by
                  have h := string_bytes ((r3'.take hlen hta (show β.length ≤ tc by omega)).below (Go.Joins.below_draws w12.heap.size w12 m) (Nat.le_refl _))
                  rw [htake] at h
                  exact h
                have t4 := fun m => string_bytes (bB.below (Go.Joins.below_draws w12.heap.size w12 m) (Nat.le_refl _))
                obtain ⟨SB, hSB⟩ : ∃ SB, (⟨β.toArray⟩ : ByteArray) = SB := ⟨_, rfl⟩
                obtain ⟨SA, hSA⟩ : ∃ SA, (⟨α.toArray⟩ : ByteArray) = SA := ⟨_, rfl⟩
                have hst : (SB.toList == SA.toList) = false := by
                  rw [beq_eq_false_iff_ne, ByteArray.toList_eq, ByteArray.toList_eq, ← hSB, ← hSA]
                  simpa using Ne.symm hne
                have hsn : ¬ SB = SA := fun e => by rw [e] at hst; simp at hst
                rw [hSB] at t1 t3 t4
                rw [hSA] at t2
                have hn1 : ¬ (γ.length : Int) < (β.length : Int) := by omega
                have hn2 : ¬ (β.length : Int) < (α.length : Int) := by omega
                have hcp : ¬ tc = 0 := by omega
                have hbt : β.length ≤ tc := by omega
                rw [maxLen_eq] at hb1 ha1 hc1
                clear hSB hSA bB bA r3 r3' h12 k12 hk12 H11 HR HC heq u1 hγ hz hα hne htake hta hlt' HB
                go_wp2_with fail
                go_quiet (fail)
                go_wp2
                go_roundw
                case rel => exact ⟨k + 1, by omega, by go_num, HT3.out _⟩
                case measure => simp [intOf]; omega
            · obtain rfl : k = ks.length := by omega
              have hd := HR.out.2.two.one
              have HBW := Lib.hid hd.below
              obtain ⟨_, _, hd, _⟩ := hd
              have hby := bytes_any hd
              have hle : ((if d4.down then 0 else d4.seen.total : Nat) : Int) ≤ (c : Int) := by
                have h1 := hd.ok.total
                have h2 : d4.cap = c := HCB.out
                split <;> omega
              obtain ⟨z2, hz2⟩ : ∃ z2 : Int, ((if d4.down then 0 else d4.seen.total : Nat) : Int) = z2 := ⟨_, rfl⟩
              rw [hz2] at hby hle
              clear hd hz2 HR
              go_wp2_with fail
              refine hby.mono ?_
              rintro e wz ⟨rfl, rfl⟩
              clear hby
              go_wp2_with fail
              refine (HX.out _ HBW.out).mono ?_
              rintro e wz ⟨rfl, hb⟩
              have HBE := Lib.hid hb
              clear hb
              go_wp2
              go_ret
              exact ⟨rfl, HBE.out⟩
end Go.Proofs.Yticbfnflillokaa
