/- The walk of the law CodeGets. -/
import Derived.Test.YtniogemgkcoimaaRdr6
import Derived.Deep.RegionHeld
namespace Go.Proofs.Ytniogemgkcoimaa
open Go.RowKit
/-- the loop over what was handed in: it changes its own bytes alone -/
def GrowAt (w1 wr : World) (base : Nat) (v : Value) (n : Nat) : Prop := ∃ L : List UInt8, L.length = n ∧ OwnBytes base wr v L ∧ Chg v.ownBlock.toList w1 wr
theorem GrowAt.next {w1 wr : World} {base g n c k : Nat} (L : List UInt8) (hL : L.length = n) (hown : OwnBytes base wr (.slice (some ⟨g, 0, none⟩) n c) L) (hc : Chg (Value.slice (some ⟨g, 0, none⟩) n c).ownBlock.toList w1 wr) (b : UInt8) :
    GrowAt w1 (wr.setCell ⟨g, k, none⟩ (byteV b)) base (.slice (some ⟨g, 0, none⟩) n c) n :=
  ⟨L.set k b, by simp [hL], hown.set hL b, hc.setCell (p := ⟨g, k, none⟩) (.inl (by simp [Value.ownBlock])) _⟩
theorem own_some' {base : Nat} {w : World} {a : Option Addr} {n c : Nat} {l : List UInt8} (h : OwnBytes base w (.slice a n c) l) (hn : 0 < n) : ∃ g, a = some ⟨g, 0, none⟩ := by
  rcases h.2 with ⟨he, h0⟩ | ⟨g, cap, cur, he, _⟩
  · cases he; omega
  · cases he; exact ⟨g, rfl⟩
/-- what the loop over the parts keeps -/
def GetsAt (w wr : World) (gp gh : Nat) : Prop := ∃ s, s.l.length ≤ 20000 ∧ Both w wr gp gh s s
set_option maxRecDepth 100000 in
set_option maxHeartbeats 8000000 in
theorem codeGets_any (v0 v1 : Value) (lb : List UInt8) (l : List PV) (w : World) (hb0 : BytesAt w v0 lb) (hp : PartsAt w v1 l) :
    Calls Try.prog 4 #[v0, v1] w fun e w' => e = .returned (.bool true) ∧ Below w.heap.size w w' := by
  have HX : Hid (∀ wr, Below w.heap.size w wr → Calls Try.prog 11 #[] wr fun e w' => e = .returned (.bool true) ∧ Below w.heap.size w w') := fun wr hbw => (awake_any wr).mono fun e w' h => ⟨h.1, hbw.trans (h.2.mono hbw.size)⟩
  have HG := Lib.hid (great_any v1 l w hp)
  have HB0 := Lib.hid hb0
  obtain ⟨a, c, rfl, hl, _, hcells⟩ := hp
  obtain ⟨ab, cb, rfl, hbl, _⟩ := hb0.form
  have HC := Lib.hid hcells
  rw [maxLen_eq] at hl hbl
  clear hcells hb0
  by_cases hg1 : 2000 < countTo l l.length
  · rw [decide_eq_true hg1] at HG
    clear hg1
    go_enter Try.func4, Try.ntmps4
    go_wp2_with (first | (go_at_call 10; refine HG.out.mono ?_; rintro e w1 ⟨rfl, rfl⟩) | (go_at_call 11; refine (HX.out _ (Below.refl _ _)).mono ?_; rintro e w1 ⟨rfl, hb⟩; have HBE := Lib.hid hb; clear hb))
    go_ret
    exact ⟨rfl, HBE.out⟩
  rw [decide_eq_false hg1] at HG
  clear hg1
  by_cases hbig : 20000 < lb.length
  · go_enter Try.func4, Try.ntmps4
    go_wp2_with (first | (go_at_call 10; refine HG.out.mono ?_; rintro e w1 ⟨rfl, rfl⟩) | (go_at_call 11; refine (HX.out _ (Below.refl _ _)).mono ?_; rintro e w1 ⟨rfl, hb⟩; have HBE := Lib.hid hb; clear hb))
    go_ret
    exact ⟨rfl, HBE.out⟩
  have HA0 : Hid (OwnBytes w.heap.size (w.alloc (.cells #[] 5)) (.slice (some ⟨w.heap.size, 0, none⟩) 0 0) []) := OwnBytes.made w _ (Nat.le_refl _)
  have HBB : Hid (Below w.heap.size w (w.alloc (.cells #[] 5))) := Go.Joins.below_alloc1 w _
  go_enter Try.func4, Try.ntmps4
  go_wp2_with fail
  refine HG.out.mono ?_
  rintro e w1 ⟨rfl, rfl⟩
  clear HG
  go_wp2_with (at_builtin; refine wpList_append_bytes rfl _ _ rfl w.heap.size _ _ [] lb rfl rfl HA0.out (HB0.out.below HBB.out (Nat.le_refl _)) (by simp; omega) HBB.out.size ?_; intro vo w1 hown hgrow; have HO : Hid (OwnBytes w.heap.size w1 vo lb ∧ Below w.heap.size w w1) := ⟨hown, HBB.out.grown hgrow HBB.out.size HA0.out.own⟩; clear hown hgrow)
  clear HA0 HBB
  obtain ⟨ao, co, rfl⟩ := HO.out.1.form
  refine (new_reader_own _ lb w1 HO.out.1.bytesAt (by omega)).mono ?_
  rintro e w2 ⟨gp, u1, rfl, hi1, ho1, hb1, hg1⟩
  have H2 : Hid (RdIn w2 gp u1 false ∧ OwnBytes w1.heap.size w2 u1 lb ∧ Below w1.heap.size w1 w2 ∧ w1.heap.size ≤ gp) := ⟨hi1, ho1, hb1, hg1⟩
  have HO2 : Hid (OwnBytes w.heap.size w2 (.slice ao lb.length co) lb ∧ Below w.heap.size w w2) := ⟨HO.out.1.kept hb1 (Nat.le_refl _), HO.out.2.trans (hb1.mono HO.out.2.size)⟩
  have HA1 : Hid (OwnBytes w2.heap.size (w2.alloc (.cells #[] 5)) (.slice (some ⟨w2.heap.size, 0, none⟩) 0 0) []) := OwnBytes.made w2 _ (Nat.le_refl _)
  have HB1 : Hid (Below w2.heap.size w2 (w2.alloc (.cells #[] 5))) := Go.Joins.below_alloc1 w2 _
  have HBY : Hid (BytesAt (w2.alloc (.cells #[] 5)) (.slice ab lb.length cb) lb) := HB0.out.below (HO2.out.2.trans (HB1.out.mono HO2.out.2.size)) (Nat.le_refl _)
  clear hi1 ho1 hb1 hg1
  go_wp2_with (at_builtin; refine wpList_append_bytes rfl _ _ rfl w2.heap.size _ _ [] lb rfl rfl HA1.out HBY.out (by simp; omega) HB1.out.size ?_; intro u2 w3 hown hgrow; have H3 : Hid (OwnBytes w2.heap.size w3 u2 lb ∧ Below w2.heap.size w2 w3) := ⟨hown, HB1.out.grown hgrow HB1.out.size HA1.out.own⟩; clear hown hgrow; obtain ⟨a2, c2, rfl⟩ := H3.out.1.form)
  have HAH : Hid (Ahead w (w3.alloc (.cells #[.slice a2 lb.length c2, .bool false] 41)) w1.heap.size gp w3.heap.size u1 (.slice a2 lb.length c2) lb) := by
    have hb4 : Below w2.heap.size w2 (w3.alloc (.cells #[.slice a2 lb.length c2, .bool false] 41)) := H3.out.2.alloc H3.out.2.size _
    have hc4 : Chg [] w2 (w3.alloc (.cells #[.slice a2 lb.length c2, .bool false] 41)) := Chg.of_below hb4 (Nat.le_refl _)
    have h12 := H2.out.2.2.1.size
    have h23 := H3.out.2.size
    have hg := H2.out.1.lt
    exact ⟨hc4.heap H2.out.1 (by simp), H2.out.2.1.chg hc4 (by simp), heap_alloc_new w3 _, (H3.out.1.base_le h12).alloc _, HO2.out.2.trans (hb4.mono HO2.out.2.size), ⟨H2.out.2.2.2, by omega⟩, by omega, HO.out.2.size⟩
  have HIF : Hid (∀ j, (Value.slice ao lb.length co).ownBlock = some j → j < w1.heap.size ∧ w.heap.size ≤ j) := fun j hj => ⟨(HO.out.1.lt j hj).2, (HO.out.1.lt j hj).1⟩
  have H0 : Hid (GrowAt (w3.alloc (.cells #[.slice a2 lb.length c2, .bool false] 41)) (w3.alloc (.cells #[.slice a2 lb.length c2, .bool false] 41)) w.heap.size (.slice ao lb.length co) lb.length) :=
    ⟨lb, rfl, (HO2.out.1.kept H3.out.2 (Nat.le_refl _)).alloc _, Chg.refl _ _⟩
  have HLB : Hid (lb.length ≤ 20000) := Nat.le_of_not_lt hbig
  clear HO HO2 H2 H3 HA1 HB1 HBY
  generalize w3.heap.size = gh at HAH ⊢
  generalize w3.alloc (.cells #[.slice a2 lb.length c2, .bool false] 41) = w4 at HAH H0 ⊢
  go_loopw [8] (fun i wi => ∃ j : Nat, j ≤ lb.length ∧ i = .int .i64 (j : Nat) ∧ Hid (GrowAt w4 wi w.heap.size (.slice ao lb.length co) lb.length)) (fun i _ => lb.length - (intOf i).toNat)
  case atStart => exact ⟨0, Nat.zero_le _, rfl, H0.out⟩
  case round =>
    obtain ⟨j, hj, rfl, HI⟩ := hrel
    clear H0
    by_cases hjl : j < lb.length
    · obtain ⟨L, hL, hown, hc⟩ := HI.out
      obtain ⟨g, rfl⟩ := own_some' hown (by omega)
      obtain ⟨hcell, hfr⟩ := hown.cell hL hjl
      obtain ⟨X, hX⟩ : ∃ X : Nat, (L.getD j 0).toNat = X := ⟨_, rfl⟩
      have hX8 : X < 256 := by rw [← hX]; exact (L.getD j 0).toNat_lt
      rw [hX] at hcell
      have hn := GrowAt.next (k := j) L hL hown hc (UInt8.ofNat (X + 1))
      rw [← byte_wrap] at hn
      have HN := Lib.hid hn
      clear hn hown hc hX hL HI
      go_wp2
      go_roundw
      case rel => exact ⟨j + 1, by omega, by go_num, HN.out⟩
      case measure => simp [intOf]; omega
    · obtain rfl : j = lb.length := by omega
      have HS : Hid (GetsAt w wr gp gh) := by
        obtain ⟨L, hL, hown, hc⟩ := HI.out
        exact ⟨⟨lb, false⟩, HLB.out, HAH.out.both hc fun k hk => HIF.out k (by simpa using hk)⟩
      clear HI HIF HAH hjl hj
      obtain ⟨wo, rfl⟩ : ∃ wo : World, wo = wr := ⟨_, rfl⟩
      go_wp2_with fail
      go_loopw [9] (fun i wi => ∃ k : Nat, k ≤ l.length ∧ i = .int .i64 (k : Nat) ∧ Hid (GetsAt w wi gp gh)) (fun i _ => l.length - (intOf i).toNat)
      case atStart => exact ⟨0, Nat.zero_le _, rfl, HS.out⟩
      case round =>
        obtain ⟨k, hk, rfl, HR⟩ := hrel
        clear HS
        obtain ⟨s, hsl, hbo⟩ := HR.out
        have HBO := Lib.hid hbo
        have HSL : Hid (s.l.length ≤ 20000) := hsl
        clear HR hbo hsl
        by_cases hlt : k < l.length
        · obtain ⟨b, off, rfl, hb, hc⟩ := HC.out (by omega)
          obtain ⟨q, hqk⟩ : ∃ p, l[k]? = some p := ⟨_, List.getElem?_eq_getElem hlt⟩
          obtain ⟨u, hu⟩ := hc k q hqk
          have HQ : Hid (∀ w2, Below w.heap.size w w2 → PartAt w2 b (off + k * 4) q u) := fun w2 hb2 => hu.below hb2 (Nat.le_refl _) hb
          obtain ⟨c0, c1, c2, c3, hby, hok⟩ := HQ.out wr HBO.out.below
          have HOK := Lib.hid hok
          obtain ⟨ua, uc, hue, _⟩ := hby.form
          subst hue
          have hget := get_any (some ⟨gp, 0, none⟩) s q ua q.b.length uc wr hok (by have := HSL.out; omega) HBO.out.code
          have HGE := Lib.hid hget
          have HLE := Lib.hid (get_le q.k q.most s)
          have hk5 := q.k_lt
          clear hget hu hc hqk hby hok hb
          obtain ⟨S, M, x, B⟩ := q
          dsimp only at *
          go_wp2_with fail
          refine HGE.out.mono ?_
          rintro e w5 ⟨rfl, hr5, hc5⟩
          have HB5 := Lib.hid (HBO.out.read hr5 hc5)
          clear hr5 hc5 HBO HGE c0 c1 c2 c3
          obtain ⟨c0, c1, c2, c3, _, _⟩ := HQ.out w5 HB5.out.below
          dsimp only at *
          go_wp2_with fail
          refine (sort_any ⟨S, M, x, B⟩ ua B.length uc w5 HOK.out).mono ?_
          rintro e w6 ⟨rfl, hb6⟩
          have HB6 := Lib.hid (HB5.out.kept hb6 (Nat.le_refl _))
          clear hb6 HB5 c0 c1 c2 c3
          obtain ⟨c0, c1, c2, c3, _, _⟩ := HQ.out w6 HB6.out.below
          dsimp only at *
          obtain ⟨K, hK⟩ : ∃ K, PV.k ⟨S, M, x, B⟩ = K := ⟨_, rfl⟩
          rw [hK] at HB6 HLE hk5 ⊢
          clear hK
          have cases5 : K = 0 ∨ K = 1 ∨ K = 2 ∨ K = 3 ∨ K = 4 := by omega
          clear hk5
          rcases cases5 with rfl | rfl | rfl | rfl | rfl
          · obtain ⟨r, hr⟩ : ∃ r, s.get 0 M = r := ⟨_, rfl⟩
            have HGR := Lib.hid hr
            have hsp := get_number (k := 0) (by decide) M s
            rw [hr] at HB6 HLE hsp ⊢
            obtain ⟨⟨N, SS⟩, ⟨t, tb⟩⟩ := r
            dsimp only at *
            subst hsp
            clear hr
            go_wp2_with fail
            have h7 := rWide0 gh s M w6 HB6.out.doc (by have := HSL.out; omega)
            rw [HGR.out] at h7
            refine h7.mono ?_
            rintro e w7 ⟨rfl, hr7, hc7⟩
            have HBD := Lib.hid (HB6.out.told hr7 hc7)
            clear hr7 hc7 h7
            have HBX : Hid (Both w w7.drew gp gh ⟨t, tb⟩ ⟨t, tb⟩) := HBD.out.kept (Below.refl _ _).drew (Nat.le_refl _)
            have HN : Hid (GetsAt w w7.drew gp gh) := ⟨⟨t, tb⟩, Nat.le_trans HLE.out HSL.out, HBX.out⟩
            obtain ⟨v9, hi9, hb9⟩ := HBD.out.doc
            obtain ⟨a9, c9, rfl, _⟩ := hb9.form
            have e0 := hi9.cell0
            have e1 := hi9.cell1
            have herr := err_same tb
            dsimp only at *
            clear hi9 hb9 HBD HB6 c0 c1 c2 c3
            go_wp2_with fail
            go_region_held (fun w' => w'.cell? ⟨gh, 0, none⟩ = some (.slice a9 t.length c9) ∧ w'.cell? ⟨gh, 1, none⟩ = some (.bool tb)) (exact ⟨e0, e1⟩) (first | (go_at_call 24; refine (left_any (some ⟨gp, 0, none⟩) ⟨t, tb⟩ _ HBX.out.code).mono ?_; rintro e w8 ⟨rfl, rfl⟩) | (go_at_call 25; refine (err_any (some ⟨gp, 0, none⟩) ⟨t, tb⟩ _ HBX.out.code).mono ?_; rintro e w9 ⟨rfl, rfl⟩))
            go_wp2_with fail
            go_roundw
            case rel => exact ⟨k + 1, by omega, by go_num, HN.out⟩
            case measure => simp [intOf]; omega
          · obtain ⟨r, hr⟩ : ∃ r, s.get 1 M = r := ⟨_, rfl⟩
            have HGR := Lib.hid hr
            have hsp := get_number (k := 1) (by decide) M s
            rw [hr] at HB6 HLE hsp ⊢
            obtain ⟨⟨N, SS⟩, ⟨t, tb⟩⟩ := r
            dsimp only at *
            subst hsp
            clear hr
            go_wp2_with fail
            have h7 := rWide1 gh s M w6 HB6.out.doc (by have := HSL.out; omega)
            rw [HGR.out] at h7
            refine h7.mono ?_
            rintro e w7 ⟨rfl, hr7, hc7⟩
            have HBD := Lib.hid (HB6.out.told hr7 hc7)
            clear hr7 hc7 h7
            have HBX : Hid (Both w w7.drew gp gh ⟨t, tb⟩ ⟨t, tb⟩) := HBD.out.kept (Below.refl _ _).drew (Nat.le_refl _)
            have HN : Hid (GetsAt w w7.drew gp gh) := ⟨⟨t, tb⟩, Nat.le_trans HLE.out HSL.out, HBX.out⟩
            obtain ⟨v9, hi9, hb9⟩ := HBD.out.doc
            obtain ⟨a9, c9, rfl, _⟩ := hb9.form
            have e0 := hi9.cell0
            have e1 := hi9.cell1
            have herr := err_same tb
            dsimp only at *
            clear hi9 hb9 HBD HB6 c0 c1 c2 c3
            go_wp2_with fail
            go_region_held (fun w' => w'.cell? ⟨gh, 0, none⟩ = some (.slice a9 t.length c9) ∧ w'.cell? ⟨gh, 1, none⟩ = some (.bool tb)) (exact ⟨e0, e1⟩) (first | (go_at_call 24; refine (left_any (some ⟨gp, 0, none⟩) ⟨t, tb⟩ _ HBX.out.code).mono ?_; rintro e w8 ⟨rfl, rfl⟩) | (go_at_call 25; refine (err_any (some ⟨gp, 0, none⟩) ⟨t, tb⟩ _ HBX.out.code).mono ?_; rintro e w9 ⟨rfl, rfl⟩))
            go_wp2_with fail
            go_roundw
            case rel => exact ⟨k + 1, by omega, by go_num, HN.out⟩
            case measure => simp [intOf]; omega
          · obtain ⟨r, hr⟩ : ∃ r, s.get 2 M = r := ⟨_, rfl⟩
            have HGR := Lib.hid hr
            have hsp := get_number (k := 2) (by decide) M s
            rw [hr] at HB6 HLE hsp ⊢
            obtain ⟨⟨N, SS⟩, ⟨t, tb⟩⟩ := r
            dsimp only at *
            subst hsp
            clear hr
            go_wp2_with fail
            have h7 := rUint gh s M w6 HB6.out.doc (by have := HSL.out; omega)
            rw [HGR.out] at h7
            refine h7.mono ?_
            rintro e w7 ⟨rfl, hr7, hc7⟩
            have HBD := Lib.hid (HB6.out.told hr7 hc7)
            clear hr7 hc7 h7
            have HBX : Hid (Both w w7.drew gp gh ⟨t, tb⟩ ⟨t, tb⟩) := HBD.out.kept (Below.refl _ _).drew (Nat.le_refl _)
            have HN : Hid (GetsAt w w7.drew gp gh) := ⟨⟨t, tb⟩, Nat.le_trans HLE.out HSL.out, HBX.out⟩
            obtain ⟨v9, hi9, hb9⟩ := HBD.out.doc
            obtain ⟨a9, c9, rfl, _⟩ := hb9.form
            have e0 := hi9.cell0
            have e1 := hi9.cell1
            have herr := err_same tb
            dsimp only at *
            clear hi9 hb9 HBD HB6 c0 c1 c2 c3
            go_wp2_with fail
            go_region_held (fun w' => w'.cell? ⟨gh, 0, none⟩ = some (.slice a9 t.length c9) ∧ w'.cell? ⟨gh, 1, none⟩ = some (.bool tb)) (exact ⟨e0, e1⟩) (first | (go_at_call 24; refine (left_any (some ⟨gp, 0, none⟩) ⟨t, tb⟩ _ HBX.out.code).mono ?_; rintro e w8 ⟨rfl, rfl⟩) | (go_at_call 25; refine (err_any (some ⟨gp, 0, none⟩) ⟨t, tb⟩ _ HBX.out.code).mono ?_; rintro e w9 ⟨rfl, rfl⟩))
            go_wp2_with fail
            go_roundw
            case rel => exact ⟨k + 1, by omega, by go_num, HN.out⟩
            case measure => simp [intOf]; omega
          · obtain ⟨r, hr⟩ : ∃ r, s.get 3 M = r := ⟨_, rfl⟩
            have HGR := Lib.hid hr
            have hsp := get_text (k := 3) (by decide) M s
            rw [hr] at HB6 HLE hsp ⊢
            obtain ⟨⟨N, SS⟩, ⟨t, tb⟩⟩ := r
            dsimp only at *
            subst hsp
            clear hr
            go_wp2_with fail
            have h7 := rText gh s M w6 HOK.out.most HB6.out.doc (by have := HSL.out; omega)
            rw [HGR.out] at h7
            refine h7.mono ?_
            rintro e w7 ⟨rfl, hr7, hc7⟩
            have HBD := Lib.hid (HB6.out.told hr7 hc7)
            clear hr7 hc7 h7
            have HBX : Hid (Both w w7.drew gp gh ⟨t, tb⟩ ⟨t, tb⟩) := HBD.out.kept (Below.refl _ _).drew (Nat.le_refl _)
            have HN : Hid (GetsAt w w7.drew gp gh) := ⟨⟨t, tb⟩, Nat.le_trans HLE.out HSL.out, HBX.out⟩
            obtain ⟨v9, hi9, hb9⟩ := HBD.out.doc
            obtain ⟨a9, c9, rfl, _⟩ := hb9.form
            have e0 := hi9.cell0
            have e1 := hi9.cell1
            have herr := err_same tb
            dsimp only at *
            clear hi9 hb9 HBD HB6 c0 c1 c2 c3
            go_wp2_with fail
            go_region_held (fun w' => w'.cell? ⟨gh, 0, none⟩ = some (.slice a9 t.length c9) ∧ w'.cell? ⟨gh, 1, none⟩ = some (.bool tb)) (exact ⟨e0, e1⟩) (first | (go_at_call 24; refine (left_any (some ⟨gp, 0, none⟩) ⟨t, tb⟩ _ HBX.out.code).mono ?_; rintro e w8 ⟨rfl, rfl⟩) | (go_at_call 25; refine (err_any (some ⟨gp, 0, none⟩) ⟨t, tb⟩ _ HBX.out.code).mono ?_; rintro e w9 ⟨rfl, rfl⟩))
            go_wp2_with fail
            go_roundw
            case rel => exact ⟨k + 1, by omega, by go_num, HN.out⟩
            case measure => simp [intOf]; omega
          · obtain ⟨r, hr⟩ : ∃ r, s.get 4 M = r := ⟨_, rfl⟩
            have HGR := Lib.hid hr
            have hsp := get_text (k := 4) (by decide) M s
            rw [hr] at HB6 HLE hsp ⊢
            obtain ⟨⟨N, SS⟩, ⟨t, tb⟩⟩ := r
            dsimp only at *
            subst hsp
            clear hr
            go_wp2_with fail
            have h7 := rRawG gh s M w6 HB6.out.doc (by have := HSL.out; omega)
            rw [HGR.out] at h7
            refine h7.mono ?_
            rintro e w7 ⟨v7, rfl, hby7, hr7, hc7⟩
            have hs7 := string_bytes hby7
            dsimp only at hs7
            have HBD := Lib.hid (HB6.out.told hr7 hc7)
            clear hr7 hc7 h7 hby7
            have HBX : Hid (Both w w7.drew gp gh ⟨t, tb⟩ ⟨t, tb⟩) := HBD.out.kept (Below.refl _ _).drew (Nat.le_refl _)
            have HN : Hid (GetsAt w w7.drew gp gh) := ⟨⟨t, tb⟩, Nat.le_trans HLE.out HSL.out, HBX.out⟩
            obtain ⟨v9, hi9, hb9⟩ := HBD.out.doc
            obtain ⟨a9, c9, rfl, _⟩ := hb9.form
            have e0 := hi9.cell0
            have e1 := hi9.cell1
            have herr := err_same tb
            dsimp only at *
            clear hi9 hb9 HBD HB6 c0 c1 c2 c3
            go_wp2_with fail
            go_region_held (fun w' => w'.cell? ⟨gh, 0, none⟩ = some (.slice a9 t.length c9) ∧ w'.cell? ⟨gh, 1, none⟩ = some (.bool tb)) (exact ⟨e0, e1⟩) (first | (go_at_call 24; refine (left_any (some ⟨gp, 0, none⟩) ⟨t, tb⟩ _ HBX.out.code).mono ?_; rintro e w8 ⟨rfl, rfl⟩) | (go_at_call 25; refine (err_any (some ⟨gp, 0, none⟩) ⟨t, tb⟩ _ HBX.out.code).mono ?_; rintro e w9 ⟨rfl, rfl⟩))
            go_wp2_with fail
            go_roundw
            case rel => exact ⟨k + 1, by omega, by go_num, HN.out⟩
            case measure => simp [intOf]; omega
        · obtain rfl : k = l.length := by omega
          have herr := err_same s.end'.bad
          go_wp2_with fail
          refine (end_any (some ⟨gp, 0, none⟩) s wr HBO.out.code).mono ?_
          rintro e w5 ⟨rfl, hr5, hc5⟩
          have HB5 := Lib.hid (HBO.out.read hr5 hc5)
          clear hr5 hc5
          go_wp2_with fail
          refine (rEnd gh s w5 HB5.out.doc).mono ?_
          rintro e w6 ⟨rfl, hr6, hc6⟩
          have HB6 := Lib.hid (HB5.out.told hr6 hc6).below
          clear hr6 hc6
          go_wp2_with (go_at_call 11; refine (HX.out _ HB6.out).mono ?_; rintro e w7 ⟨rfl, hb⟩; have HBE := Lib.hid hb; clear hb)
          go_ret
          exact ⟨rfl, HBE.out⟩
end Go.Proofs.Ytniogemgkcoimaa
