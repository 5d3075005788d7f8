/- The walk of the law CodePuts. -/
import Derived.Test.YtniogemgkcoimaaTrio
import Derived.StillTailTactics
import Derived.Deep.RegionHeld
namespace Go.Proofs.Ytniogemgkcoimaa
open Go.RowKit
/-- what the loop over the parts keeps -/
def PutsAt (w wr : World) (g1 g2 base : Nat) (l : List PV) (k : Nat) (v3 : Value) : Prop := ∃ v1 v2, Trio w wr g1 g2 base v1 v2 v3 (rowBytes (l.take k)) (rowBytes (l.take k)) (rowBytes (l.take k))
/-- the loop over what was handed in: it changes its own bytes alone -/
def IncAt (w1 wr : World) (base : Nat) (v : Value) (n : Nat) : Prop := ∃ L : List UInt8, L.length = n ∧ OwnBytes base wr v L ∧ Chg v.ownBlock.toList w1 wr
theorem IncAt.next {w1 wr : World} {base g n c k : Nat} (L : List UInt8) (hL : L.length = n) (hown : OwnBytes base wr (.slice (some ⟨g, 0, none⟩) n c) L) (hc : Chg (Value.slice (some ⟨g, 0, none⟩) n c).ownBlock.toList w1 wr) (b : UInt8) :
    IncAt w1 (wr.setCell ⟨g, k, none⟩ (byteV b)) base (.slice (some ⟨g, 0, none⟩) n c) n :=
  ⟨L.set k b, by simp [hL], hown.set hL b, hc.setCell (p := ⟨g, k, none⟩) (.inl (by simp [Value.ownBlock])) _⟩
theorem own_some {base : Nat} {w : World} {a : Option Addr} {n c : Nat} {l : List UInt8} (h : OwnBytes base w (.slice a n c) l) (hn : 0 < n) : ∃ g, a = some ⟨g, 0, none⟩ := by
  rcases h.2 with ⟨he, h0⟩ | ⟨g, cap, cur, he, _⟩
  · cases he; omega
  · cases he; exact ⟨g, rfl⟩
/-- the loop over what was told: what is ahead is as it was -/
def IncTo (w1 wr : World) (base : Nat) (v : Value) (R : List UInt8) (j : Nat) : Prop := ∃ L : List UInt8, L.length = R.length ∧ OwnBytes base wr v L ∧ Chg v.ownBlock.toList w1 wr ∧ ∀ t, j ≤ t → L.getD t 0 = R.getD t 0
theorem IncTo.next {w1 wr : World} {base g n c k : Nat} {R : List UInt8} (L : List UInt8) (hn : R.length = n) (hL : L.length = R.length) (hown : OwnBytes base wr (.slice (some ⟨g, 0, none⟩) n c) L) (hc : Chg (Value.slice (some ⟨g, 0, none⟩) n c).ownBlock.toList w1 wr) (hs : ∀ t, k ≤ t → L.getD t 0 = R.getD t 0) (b : UInt8) :
    IncTo w1 (wr.setCell ⟨g, k, none⟩ (byteV b)) base (.slice (some ⟨g, 0, none⟩) n c) R (k + 1) :=
  ⟨L.set k b, by simp [hL], hown.set (by omega) b, hc.setCell (p := ⟨g, k, none⟩) (.inl (by simp [Value.ownBlock])) _, fun t ht => by
    rw [← hs t (by omega)]
    simp only [List.getD_eq_getElem?_getD, List.getElem?_set]
    rw [if_neg (by omega)]⟩
set_option maxRecDepth 100000 in
set_option maxHeartbeats 4000000 in
theorem codePuts_any (v : Value) (l : List PV) (w : World) (hp : PartsAt w v l) :
    Calls Try.prog 3 #[v] w fun e w' => e = .returned (.bool true) ∧ Below w.heap.size w w' := by
  have HP := Lib.hid hp
  have HX : Hid (∀ wr, Below w.heap.size w wr → Calls Try.prog 11 #[] wr fun e w' => e = .returned (.bool true) ∧ Below w.heap.size w w') := fun wr hbw => (awake_any wr).mono fun e w' h => ⟨h.1, hbw.trans (h.2.mono hbw.size)⟩
  have HG := Lib.hid (great_any v l w hp)
  obtain ⟨a, c, rfl, hl, _, hcells⟩ := hp
  have HC := Lib.hid hcells
  rw [maxLen_eq] at hl
  clear hcells
  by_cases hg1 : 2000 < countTo l l.length
  · rw [decide_eq_true hg1] at HG
    clear hg1
    go_enter Try.func3, Try.ntmps3
    go_wp2_with (first | (go_at_call 10; refine HG.out.mono ?_; rintro e w1 ⟨rfl, rfl⟩) | (go_at_call 11; refine (HX.out _ (Below.refl _ _)).mono ?_; rintro e w1 ⟨rfl, hb⟩; have HBE := Lib.hid hb; clear hb))
    go_ret
    exact ⟨rfl, HBE.out⟩
  have HSM := Lib.hid (row_small l hg1)
  rw [decide_eq_false hg1] at HG
  clear hg1
  go_enter Try.func3, Try.ntmps3
  go_wp2_with fail
  refine HG.out.mono ?_
  rintro e w1 ⟨rfl, rfl⟩
  clear HG
  go_wp2_with fail
  refine (new_writer w).mono ?_
  rintro e w1 ⟨rfl, hw, hc⟩
  have HB1 : Hid (Below w.heap.size w w1) := hc.below (Nat.le_refl _) (by simp)
  have hlt1 : w.heap.size < w1.heap.size := lt_of_block hw.at.block
  have H0 : Hid (PutsAt w (w1.alloc (.cells #[.slice none 0 0] 29)) w.heap.size w1.heap.size (w1.heap.size + 1) l 0 (.slice none 0 0)) := by
    refine ⟨.slice none 0 0, .slice none 0 0, ⟨?_, OwnBytes.nil _ _, by omega, by simp⟩, ⟨heap_alloc_new w1 _, OwnBytes.nil _ _, by omega, by simp⟩, OwnBytes.nil _ _, HB1.out.alloc HB1.out.size _, by omega, ⟨Nat.le_refl _, by omega⟩, by simp [Value.ownBlock], by simp [Value.ownBlock], by simp [Value.ownBlock]⟩
    rw [heap_alloc_old w1 _ hlt1]; exact hw.at.block
  have HBASE : Hid (w.heap.size ≤ w1.heap.size + 1) := by simp only [Hid]; omega
  clear hw hc hlt1 HB1
  go_wp2_with fail
  generalize w1.heap.size + 1 = base at H0 HBASE
  generalize w1.heap.size = g2 at H0 ⊢
  go_loopw [6, 7] (fun v3 i wr => ∃ k : Nat, k ≤ l.length ∧ i = .int .i64 (k : Nat) ∧ (∃ a c, v3 = .slice a (rowBytes (l.take k)).length c) ∧ Hid (PutsAt w wr w.heap.size g2 base l k v3)) (fun _ i _ => l.length - (intOf i).toNat)
  case atStart => exact ⟨0, Nat.zero_le _, rfl, ⟨none, 0, rfl⟩, H0.out⟩
  case round =>
    obtain ⟨k, hk, rfl, ⟨a3, c3, rfl⟩, HR⟩ := hrel
    clear H0
    by_cases hlt : k < l.length
    · obtain ⟨b, off, rfl, hb, hc⟩ := HC.out (by omega)
      obtain ⟨q, hqk⟩ : ∃ p, l[k]? = some p := ⟨_, List.getElem?_eq_getElem hlt⟩
      obtain ⟨u, hu⟩ := hc k q hqk
      obtain ⟨v1, v2, ht⟩ := HR.out
      have HT := Lib.hid ht
      have HQ : Hid (∀ w2, Below w.heap.size w w2 → PartAt w2 b (off + k * 4) q u) := fun w2 hb2 => hu.below hb2 (Nat.le_refl _) hb
      have hu1 := HQ.out (wr.alloc (.cells #[] 5)) (ht.below.alloc ht.below.size _)
      have cc3 := hu1.c3
      have HOK := Lib.hid hu1.ok
      have HSN := Lib.hid (rowBytes_snoc l k q hqk)
      have HLE := Lib.hid (And.intro (rowBytes_take l k) (rowBytes_take l (k + 1)))
      have hqb := HSM.out.2.2 q (List.mem_of_getElem? hqk)
      have HA0 : Hid (OwnBytes wr.heap.size (wr.alloc (.cells #[] 5)) (.slice (some ⟨wr.heap.size, 0, none⟩) 0 0) []) := OwnBytes.made wr _ (Nat.le_refl _)
      have HBB : Hid (Below wr.heap.size wr (wr.alloc (.cells #[] 5))) := Go.Joins.below_alloc1 wr _
      have HBY : Hid (BytesAt (wr.alloc (.cells #[] 5)) u q.b) := hu1.bytes
      obtain ⟨ua, uc, hue, _⟩ := hu1.bytes.form
      subst hue
      clear hu hu1 ht hc hqk HR
      obtain ⟨S, M, x, B⟩ := q
      dsimp only at *
      go_wp2_with (at_builtin; refine wpList_append_bytes rfl _ _ rfl wr.heap.size _ _ [] B rfl rfl HA0.out HBY.out (by simp; omega) HBB.out.size ?_; intro vo w2 hown hgrow; have HO : Hid (OwnBytes wr.heap.size w2 vo B ∧ Below wr.heap.size wr w2) := ⟨hown, HBB.out.grown hgrow HBB.out.size HA0.out.own⟩; clear hown hgrow)
      have HT2 := Lib.hid (HT.out.kept HO.out.2 (Nat.le_refl _))
      obtain ⟨ao, co, rfl⟩ := HO.out.1.form
      have hpart := HQ.out w2 HT2.out.below
      have d0 := hpart.c0
      have d1 := hpart.c1
      have d2 := hpart.c2
      have d3 := hpart.c3
      clear hpart cc3 HA0 HBB HBY
      dsimp only at *
      go_still_tail 18, (by kernel_rfl)
      change wpList _ _ _ _ _ w2.drew
      have HT3 : Hid (Trio w w2.drew w.heap.size g2 base v1 v2 (.slice a3 (rowBytes (l.take k)).length c3) (rowBytes (l.take k)) (rowBytes (l.take k)) (rowBytes (l.take k))) := HT2.out.kept (Below.refl _ _).drew (Nat.le_refl _)
      have HO3 : Hid (OwnBytes wr.heap.size w2.drew (.slice ao B.length co) B) := HO.out.1
      clear HT2 HO d0 d1 d2 d3
      generalize w2.drew = w3 at HT3 HO3 ⊢
      go_wp2_with fail
      refine (put_any (some ⟨w.heap.size, 0, none⟩) base v1 (.slice ao B.length co) (rowBytes (l.take k)) ⟨S, M, x, B⟩ w3 (.inr ⟨_, rfl, HT3.out.one⟩) HO3.out.bytesAt HOK.out (by have := HLE.out; have := HSM.out; dsimp only; omega)).mono ?_
      rintro e w4 hp
      rw [taken_some, ← HSN.out] at hp
      obtain ⟨rfl, v1', ht4, hf4, hc4⟩ := HT3.out.first HBASE.out hp
      have HT4 := Lib.hid ht4
      have HIF : Hid (OwnBytes wr.heap.size w4 (.slice ao B.length co) B ∧ ∀ j, (Value.slice ao B.length co).ownBlock = some j → Free w.heap.size g2 v1' v2 (.slice a3 (rowBytes (l.take k)).length c3) j ∧ w.heap.size ≤ j) := by
        have hfree : ∀ j, (Value.slice ao B.length co).ownBlock = some j → Free w.heap.size g2 v1 v2 (.slice a3 (rowBytes (l.take k)).length c3) j := fun j hj => HT.out.free j (HO3.out.lt j hj).1
        refine ⟨HO3.out.chg hc4 fun j hj hm => ?_, fun j hj => ⟨hf4 j (HO3.out.lt j hj).2 (hfree j hj), Nat.le_trans HT.out.below.size (HO3.out.lt j hj).1⟩⟩
        rcases wset_mem hm with hm | hm
        · exact (hfree j hj).1 hm
        · exact (hfree j hj).2.2.1 hm
      have HI0 : Hid (IncAt w4 w4 wr.heap.size (.slice ao B.length co) B.length) := ⟨B, rfl, HIF.out.1, Chg.refl _ _⟩
      clear hp hf4 hc4 ht4 HT3 HO3 HT
      obtain ⟨wo, rfl⟩ : ∃ wo : World, wo = wr := ⟨_, rfl⟩
      go_wp2_with fail
      go_loopw [9] (fun i wi => ∃ j : Nat, j ≤ B.length ∧ i = .int .i64 (j : Nat) ∧ Hid (IncAt w4 wi wo.heap.size (.slice ao B.length co) B.length)) (fun i _ => B.length - (intOf i).toNat)
      case atStart => exact ⟨0, Nat.zero_le _, rfl, HI0.out⟩
      case round =>
        obtain ⟨j, hj, rfl, HI⟩ := hrel
        clear HI0
        by_cases hjl : j < B.length
        · obtain ⟨L, hL, hown, hc⟩ := HI.out
          obtain ⟨g, rfl⟩ := own_some hown (by omega)
          obtain ⟨hcell, hfr⟩ := hown.cell hL hjl
          obtain ⟨X, hX⟩ : ∃ X : Nat, (L.getD j 0).toNat = X := ⟨_, rfl⟩
          have hX8 : X < 256 := by rw [← hX]; exact (L.getD j 0).toNat_lt
          rw [hX] at hcell
          have hn := IncAt.next (k := j) L hL hown hc (UInt8.ofNat (X + 1))
          rw [← byte_wrap] at hn
          have HN := Lib.hid hn
          clear hn hown hc hX hL HI
          go_wp2
          go_roundw
          case rel => exact ⟨j + 1, by omega, by go_num, HN.out⟩
          case measure => simp [intOf]; omega
        · obtain rfl : j = B.length := by omega
          have HT5 : Hid (Trio w wr w.heap.size g2 base v1' v2 (.slice a3 (rowBytes (l.take k)).length c3) (rowBytes (l.take (k + 1))) (rowBytes (l.take k)) (rowBytes (l.take k))) := by
            obtain ⟨L, hL, hown, hc⟩ := HI.out
            exact HT4.out.chg hc (fun j hj => (HIF.out.2 j (by simpa using hj)).1) (fun j hj => (HIF.out.2 j (by simpa using hj)).2)
          clear HI HIF HT4
          obtain ⟨d0, d1, d2, d3, hby, _⟩ := HQ.out wr HT5.out.below
          dsimp only at *
          have HBY := Lib.hid hby
          clear hby
          clear hjl hj
          go_wp2_with fail
          refine (put_any (some ⟨g2, 0, none⟩) base v2 (.slice ua B.length uc) (rowBytes (l.take k)) ⟨S, M, x, B⟩ wr (.inr ⟨_, rfl, HT5.out.two⟩) HBY.out HOK.out (by have := HLE.out; have := HSM.out; dsimp only; omega)).mono ?_
          rintro e w5 hp
          rw [taken_some, ← HSN.out] at hp
          obtain ⟨rfl, v2', ht6, -, -⟩ := HT5.out.second HBASE.out hp
          have HT6 := Lib.hid ht6
          clear hp ht6 HT5 d0 d1 d2 d3 HBY
          obtain ⟨d0, d1, d2, d3, hby, _⟩ := HQ.out w5 HT6.out.below
          dsimp only at *
          have HBY := Lib.hid hby
          clear hby
          go_wp2_with fail
          refine (put_any none base (.slice none 0 0) (.slice ua B.length uc) [] ⟨S, M, x, B⟩ w5 (.inl ⟨rfl, rfl, rfl⟩) HBY.out HOK.out (by dsimp only; simp; omega)).mono ?_
          rintro e w6 ⟨rfl, _, _, hc, _⟩
          have HT7 : Hid (Trio w w6 w.heap.size g2 base v1' v2' (.slice a3 (rowBytes (l.take k)).length c3) (rowBytes (l.take (k + 1))) (rowBytes (l.take (k + 1))) (rowBytes (l.take k))) := HT6.out.chg (S := wset none (.slice none 0 0)) hc (by simp [wset, Value.ownBlock]) (by simp [wset, Value.ownBlock])
          clear hc HT6 d0 d1 d2 d3 HBY
          obtain ⟨d0, d1, d2, d3, hby, _⟩ := HQ.out w6 HT7.out.below
          dsimp only at *
          have HBY := Lib.hid hby
          clear hby
          go_wp2_with fail
          refine (refBytes_any (.slice ua B.length uc) ⟨S, M, x, B⟩ w6 HBY.out HOK.out (by dsimp only; omega)).mono ?_
          rintro e w7 ⟨vb, rfl, hb7, hbel⟩
          have HB7 := Lib.hid hb7
          have HT8 := Lib.hid (HT7.out.kept hbel (Nat.le_refl _))
          have hbl := bytes_length ⟨S, M, x, B⟩
          dsimp only at hbl
          clear hb7 hbel HT7 d0 d1 d2 d3 HBY
          go_wp2_with (at_builtin; refine wpList_append_place rfl _ _ rfl base _ _ (rowBytes (l.take k)) (PV.bytes ⟨S, M, x, B⟩) rfl rfl HT8.out.three HB7.out (by have := HLE.out; have := HSM.out; omega) HT8.out.one.le ?_; intro v3 w8 hown hgrow hpl; rw [← HSN.out] at hown; have HT9 := Lib.hid (HT8.out.third HBASE.out hown hgrow hpl); obtain ⟨a9, c9, rfl⟩ := hown.form; clear hown hgrow hpl)
          clear HB7 HT8 hbl
          go_wp2_with fail
          refine (wLen (some ⟨w.heap.size, 0, none⟩) base v1' _ w8 (.inr ⟨_, rfl, HT9.out.one⟩)).mono ?_
          rintro e w9 ⟨rfl, rfl⟩
          have HN : Hid (PutsAt w w8 w.heap.size g2 base l (k + 1) (.slice a9 (rowBytes (l.take (k + 1))).length c9)) := ⟨v1', v2', HT9.out⟩
          clear HT9
          go_wp2_with fail
          go_roundw
          case rel => exact ⟨k + 1, by omega, by go_num, ⟨_, _, rfl⟩, HN.out⟩
          case measure => simp [intOf]; omega
    · obtain rfl : k = l.length := by omega
      rw [List.take_length] at *
      obtain ⟨v1, v2, ht⟩ := HR.out
      rw [List.take_length] at ht
      have HT := Lib.hid ht
      have hR := HSM.out.2.1
      generalize rowBytes l = R at *
      clear ht HR HP HC
      go_wp2_with fail
      refine (wBytes (some ⟨w.heap.size, 0, none⟩) base v1 R wr (.inr ⟨_, rfl, HT.out.one⟩) (by omega)).mono ?_
      rintro e w2 ⟨vb, rfl, hown, hbel⟩
      have HT2 := Lib.hid (HT.out.kept hbel (Nat.le_refl _))
      have HF2 : Hid (∀ j, vb.ownBlock = some j → Free w.heap.size g2 v1 v2 (.slice a3 R.length c3) j ∧ w.heap.size ≤ j) := fun j hj => ⟨HT.out.free j (hown.lt j hj).1, Nat.le_trans HT.out.below.size (hown.lt j hj).1⟩
      have H0 : Hid (IncTo w2 w2 wr.heap.size vb R 0) := ⟨R, rfl, hown, Chg.refl _ _, fun _ _ => rfl⟩
      obtain ⟨ab, cb, rfl⟩ := hown.form
      have HRL : Hid (R.length = R.length) := rfl
      clear hown hbel HT
      obtain ⟨wo, rfl⟩ : ∃ wo : World, wo = wr := ⟨_, rfl⟩
      go_wp2_with fail
      go_loopw [11] (fun i wi => ∃ j : Nat, j ≤ R.length ∧ i = .int .i64 (j : Nat) ∧ Hid (IncTo w2 wi wo.heap.size (.slice ab R.length cb) R j)) (fun i _ => R.length - (intOf i).toNat)
      case atStart => exact ⟨0, Nat.zero_le _, rfl, H0.out⟩
      case round =>
        obtain ⟨j, hj, rfl, HI⟩ := hrel
        clear H0
        obtain ⟨L, hL, hown, hc, hs⟩ := HI.out
        have HT3 : Hid (Trio w wr w.heap.size g2 base v1 v2 (.slice a3 R.length c3) R R R) := HT2.out.chg hc (fun j hj => (HF2.out j (by simpa using hj)).1) (fun j hj => (HF2.out j (by simpa using hj)).2)
        by_cases hjl : j < R.length
        · obtain ⟨g, rfl⟩ := own_some hown (by omega)
          obtain ⟨hcell, hfr⟩ := hown.cell hL (by omega)
          obtain ⟨g3, rfl⟩ := own_some HT3.out.three (by omega)
          obtain ⟨hcell3, _⟩ := HT3.out.three.cell rfl hjl
          rw [hs j (Nat.le_refl _)] at hcell
          obtain ⟨X, hX⟩ : ∃ X : Nat, (R.getD j 0).toNat = X := ⟨_, rfl⟩
          have hX8 : X < 256 := by rw [← hX]; exact (R.getD j 0).toNat_lt
          rw [hX] at hcell hcell3
          have hown2 : OwnBytes wo.heap.size wr.drew (.slice (some ⟨g, 0, none⟩) R.length cb) L := hown
          have hcell2 : wr.drew.cell? ⟨g, j, none⟩ = some (.int .u8 (X : Nat)) := hcell
          have hfr2 : wr.drew.frozen? ⟨g, j, none⟩ = false := hfr
          have hn := IncTo.next (k := j) L rfl hL hown2 hc.drew hs (UInt8.ofNat (X + 1))
          rw [← byte_wrap] at hn
          have HN := Lib.hid hn
          clear hn hown hown2 hc hX hL hs HI HT3
          go_wp2_with fail
          go_still_tail 8, (by kernel_rfl)
          change wpList _ _ _ _ _ wr.drew
          clear hcell hcell3 hfr
          generalize wr.drew = w3 at *
          go_wp2_with fail
          go_roundw
          case rel => exact ⟨j + 1, by omega, by go_num, HN.out⟩
          case measure => simp [intOf]; omega
        · obtain rfl : j = R.length := by omega
          clear hown hc hs HI HT2 HF2 hL
          have hs3 := fun w' (h : Trio w w' w.heap.size g2 base v1 v2 (.slice a3 R.length c3) R R R) => string_bytes h.three.bytesAt
          obtain ⟨SR, hSR⟩ : ∃ SR : ByteArray, (⟨R.toArray⟩ : ByteArray) = SR := ⟨_, rfl⟩
          have HSR := Lib.hid hSR
          have HKEEP : Hid (∀ w', Trio w w' w.heap.size g2 base v1 v2 (.slice a3 R.length c3) R R R → (convert 27 9 (.slice a3 R.length c3)).run Try.prog w' = .ok (.string SR) w') := fun w' h => by rw [← hSR]; exact hs3 w' h
          clear hs3 hSR
          have HT4 : Hid (Trio w wr.drew w.heap.size g2 base v1 v2 (.slice a3 R.length c3) R R R) := HT3.out.kept (Below.refl _ _).drew (Nat.le_refl _)
          clear HT3
          go_wp2_with fail
          have K1 : True := trivial
          have K2 : True := trivial
          have K3 : True := trivial
          go_region_held (fun w' => (convert 27 9 (.slice a3 R.length c3)).run Try.prog w' = .ok (.string SR) w') ((refine HKEEP.out _ ?_; first | exact HT4.out | exact HTA.out | exact HTB.out | exact HTC.out | exact HTE.out)) (first | (clear K1; go_at_call 16; refine (wBytes (some ⟨w.heap.size, 0, none⟩) base v1 R _ (.inr ⟨_, rfl, HT4.out.one⟩) (by omega)).mono ?_; rintro e wA ⟨vA, rfl, hownA, hbA⟩; have HTA := Lib.hid (HT4.out.kept hbA (Nat.le_refl _)); have hsA := string_bytes hownA.bytesAt; rw [HSR.out] at hsA; clear hownA hbA) | (clear K2; go_at_call 16; refine (wBytes (some ⟨g2, 0, none⟩) base v2 R _ (.inr ⟨_, rfl, HTA.out.two⟩) (by omega)).mono ?_; rintro e wB ⟨vB, rfl, hownB, hbB⟩; have HTB := Lib.hid (HTA.out.kept hbB (Nat.le_refl _)); have hsB := string_bytes hownB.bytesAt; rw [HSR.out] at hsB; clear hownB hbB) | (clear K3; go_at_call 16; refine (wBytes none base (.slice none 0 0) [] _ (.inl ⟨rfl, rfl, rfl⟩) (by simp)).mono ?_; rintro e wC ⟨vC, rfl, hownC, hbC⟩; have HTC := Lib.hid (HTB.out.kept hbC (Nat.le_refl _)); obtain ⟨aC, cC, rfl⟩ := hownC.form; clear hownC hbC) | (go_at_call 15; refine (wLen none base (.slice none 0 0) [] _ (.inl ⟨rfl, rfl, rfl⟩)).mono ?_; rintro e wD ⟨rfl, rfl⟩) | (go_at_call 11; refine (awake_any _).mono ?_; rintro e wE ⟨rfl, hb⟩; have HTE := Lib.hid (HTC.out.kept hb (Nat.le_refl _)); clear hb))
          have HBE := Lib.hid HTE.out.below
          go_wp2
          go_ret
          exact ⟨rfl, HBE.out⟩
end Go.Proofs.Ytniogemgkcoimaa
