/- many, Same, count. -/
import Derived.Test.YtbmebmkpjbgdoaaOpen
import Derived.Test.YtbmebmkpjbgdoaaSys
import Derived.StillTailTactics
namespace Go.Proofs.Ytbmebmkpjbgdoaa
open Go.RowKit
theorem BytesAt.belowB {w w' : World} {B : Nat} {v : Value} {l : List UInt8} (h : BytesAt w v l) (hb : Below B w w') (hB : w.heap.size ≤ B) : BytesAt w' v l := BytesIn.below h hb hB
theorem ActsAt.below {w w' : World} {v : Value} {l : List AV} (h : ActsAt w v l) (hb : Below w.heap.size w w') : ActsAt w' v l := by
  obtain ⟨a, cap, hv, hl, hlc, hn, h⟩ := h
  refine ⟨a, cap, hv, hl, hlc, hn, fun h0 => ?_⟩
  obtain ⟨b, off, ha, hbl, hc⟩ := h h0
  refine ⟨b, off, ha, by have := hb.size; omega, fun j q hj => ?_⟩
  obtain ⟨hok, u, hu, hr⟩ := hc j q hj
  exact ⟨hok, u, hu.belowB hb (Nat.le_refl _), fun r hr' => by rw [hb.cell (show (⟨b, off + j * 5 + r, none⟩ : Addr).block < _ from hbl)]; exact hr r hr'⟩
/-- what one act counts -/
def AV.much (q : AV) : Nat := q.b.length / 256
/-- how much the first k are, by the laws' count -/
def countTo (l : List AV) (k : Nat) : Nat := k + ((l.take k).map AV.much).sum
theorem countTo_succ (l : List AV) (k : Nat) (q : AV) (h : l[k]? = some q) : countTo l (k + 1) = countTo l k + 1 + q.much := by
  obtain ⟨hk, he⟩ := List.getElem?_eq_some_iff.1 h
  unfold countTo
  rw [List.take_succ_eq_append_getElem hk, he]
  simp; omega
theorem countTo_mono (l : List AV) (k : Nat) (hk : k ≤ l.length) : countTo l k ≤ countTo l l.length := by
  unfold countTo
  rw [List.take_length]
  have : (l.map AV.much).sum = ((l.take k).map AV.much).sum + ((l.drop k).map AV.much).sum := by
    rw [← List.sum_append, ← List.map_append, List.take_append_drop]
  omega
theorem wrap_sm {z : Int} (h0 : -9223372036854775808 ≤ z) (h1 : z ≤ 9223372036854775807) : wrap64 z = z := by unfold wrap64; omega
theorem many_sum (C x : Nat) (hC : C ≤ 600) (hx : x ≤ 9223372036854775807) : wrap64 ((C : Int) + wrap64 (1 + wrap64 ((x : Int) / 256))) = ((C + 1 + x / 256 : Nat) : Int) := by
  have h2 : (x : Int) / 256 = ((x / 256 : Nat) : Int) := by omega
  rw [h2]
  generalize hq : x / 256 = q
  have : q ≤ 36028797018963968 := by omega
  rw [wrap_sm (z := (q : Int)) (by omega) (by omega), wrap_sm (z := 1 + (q : Int)) (by omega) (by omega), wrap_sm (by omega) (by omega)]
  omega
set_option maxRecDepth 100000 in
set_option maxHeartbeats 400000 in
theorem many_any (v : Value) (l : List AV) (w : World) (hp : ActsAt w v l) :
    Calls Try.prog 8 #[v] w fun e w' => e = .returned (.bool (decide (600 < countTo l l.length))) ∧ Below w.heap.size w w' := by
  obtain ⟨a, cap, rfl, hlen, hlc, hn, hcells⟩ := hp
  rw [maxLen_eq] at hlen
  have HC := Lib.hid hcells
  clear hcells hn
  go_enter Try.func8, Try.ntmps8
  go_wp2
  go_loopw [3, 4] (fun n i wr => ∃ k : Nat, k ≤ l.length ∧ i = .int .i64 (k : Nat) ∧ n = .int .i64 (countTo l k : Nat) ∧ Hid (Below w.heap.size w wr ∧ countTo l k ≤ 600)) (fun _ i _ => l.length - (intOf i).toNat)
  case atStart => exact ⟨0, Nat.zero_le _, rfl, by simp [countTo], Below.refl _ _, by simp [countTo]⟩
  case round =>
    obtain ⟨k, hk, rfl, rfl, HW⟩ := hrel
    by_cases hlt : k < l.length
    · obtain ⟨b, off, rfl, hb, hc⟩ := HC.out (by omega)
      obtain ⟨q, hqk⟩ : ∃ q, l[k]? = some q := ⟨_, List.getElem?_eq_getElem hlt⟩
      obtain ⟨hok, u, hu, hr⟩ := hc k q hqk
      have hbw := HW.out.1
      have h4 : wr.cell? ⟨b, off + k * 5 + 4, none⟩ = some u := by rw [hbw.cell (show (⟨b, off + k * 5 + 4, none⟩ : Addr).block < _ from hb)]; exact hr 4 (by omega)
      obtain ⟨ub, uc, hue, _⟩ := hu.form
      have HSU := Lib.hid (countTo_succ l k q hqk)
      have HM := Lib.hid (countTo_mono l (k + 1) (by omega))
      have HE := Lib.hid (many_sum (countTo l k) q.b.length HW.out.2 hu.length_le)
      have HB := Lib.hid hbw
      have HMU : Hid (q.much = q.b.length / 256) := rfl
      have hw2 := HW.out.2
      subst hue
      obtain ⟨C, hC⟩ : ∃ C, countTo l k = C := ⟨_, rfl⟩
      obtain ⟨M, hM⟩ : ∃ M, q.b.length / 256 = M := ⟨_, rfl⟩
      rw [HMU.out, hC, hM] at HSU
      rw [hC, hM] at HE
      rw [hC] at hw2
      rw [hC]
      clear hc hu hqk HW hbw hr hok hM HMU hC
      have he := HE.out
      obtain ⟨T, hT⟩ : ∃ T, C + 1 + M = T := ⟨_, rfl⟩
      rw [hT] at he HSU
      clear HE hT
      by_cases hbig : 600 < T
      · have hbi : (600 : Int) < (T : Int) := by omega
        go_wp2
        go_ret
        have hm := HM.out
        have hsu := HSU.out
        rw [decide_eq_true (show 600 < countTo l l.length by omega)]
        exact ⟨rfl, HB.out⟩
      · have hbi : ¬ (600 : Int) < (T : Int) := by omega
        have HT : Hid (T ≤ 600) := by show T ≤ 600; omega
        go_wp2
        go_roundw
        case rel => exact ⟨k + 1, by omega, by go_num, by rw [HSU.out, he], HB.out, by rw [HSU.out]; exact HT.out⟩
        case measure => simp [intOf]; omega
    · obtain rfl : k = l.length := by omega
      have HW1 := Lib.hid HW.out
      have hw := HW.out.2
      obtain ⟨C, hC⟩ : ∃ C, countTo l l.length = C := ⟨_, rfl⟩
      have HCe := Lib.hid hC
      rw [hC] at hw ⊢
      clear HW hC
      go_wp2
      go_ret
      refine ⟨?_, HW1.out.1⟩
      rw [HCe.out, decide_eq_false (by omega)]
      rfl
/-- are two messages the same? -/
def Msg.same (a b : Msg) : Bool := a.fr == b.fr && a.to == b.to && a.b == b.b
theorem bytes_ne {a b : Bs} (h : a ≠ b) : ((⟨a.toArray⟩ : ByteArray).toList == (⟨b.toArray⟩ : ByteArray).toList) = false := by
  rw [ByteArray.toList_eq, ByteArray.toList_eq]
  simpa using h
theorem bytes_eq (a : Bs) : ((⟨a.toArray⟩ : ByteArray).toList == (⟨a.toArray⟩ : ByteArray).toList) = true := by simp
set_option maxRecDepth 100000 in
theorem same_any (m m' : Msg) (u u' : Value) (w : World) (h : BytesAt w u m.b) (h' : BytesAt w u' m'.b) :
    Calls Try.prog 35 #[.agg #[.int .i64 m.fr, .int .i64 m.to, u], .agg #[.int .i64 m'.fr, .int .i64 m'.to, u']] w fun e w' => e = .returned (.bool (m.same m')) ∧ Below w.heap.size w w' := by
  have hb2 : ∀ o1 o2, Below w.heap.size w ((w.alloc o1).alloc o2) := fun o1 o2 => Go.Joins.below_alloc2 w o1 o2
  have s1 := fun o1 o2 => string_bytes (h.below (hb2 o1 o2) (Nat.le_refl _))
  have s2 := fun o1 o2 => string_bytes (h'.below (hb2 o1 o2) (Nat.le_refl _))
  obtain ⟨ua, uc, rfl, _⟩ := h.form
  obtain ⟨va, vc, rfl, _⟩ := h'.form
  have HB := Lib.hid hb2
  unfold Msg.same
  by_cases h1 : m.fr = m'.fr
  · by_cases h2 : m.to = m'.to
    · have e1 : (m.fr == m'.fr) = true := by simp [h1]
      have e2 : (m.to == m'.to) = true := by simp [h2]
      rw [e1, e2]
      by_cases h3 : m.b = m'.b
      · have e3 : (m.b == m'.b) = true := by simp [h3]
        rw [e3]
        rw [h3] at s1 ⊢
        have h4 := bytes_eq m'.b
        generalize (⟨m'.b.toArray⟩ : ByteArray) = S at s1 s2 h4
        clear h h' hb2 e3 h3
        go_enter Try.func35, Try.ntmps35
        go_wp2
        go_ret
        exact ⟨rfl, HB.out _ _⟩
      · have e3 : (m.b == m'.b) = false := by simp [h3]
        rw [e3]
        have h4 := bytes_ne h3
        generalize (⟨m.b.toArray⟩ : ByteArray) = S at s1 h4
        generalize (⟨m'.b.toArray⟩ : ByteArray) = S' at s2 h4
        clear h h' hb2 e3 h3
        go_enter Try.func35, Try.ntmps35
        go_wp2
        go_ret
        exact ⟨rfl, HB.out _ _⟩
    · have e2 : (m.to == m'.to) = false := by simp [h2]
      have e1 : (m.fr == m'.fr) = true := by simp [h1]
      rw [e1, e2]
      clear h h' hb2 s1 s2
      go_enter Try.func35, Try.ntmps35
      go_wp2
      go_ret
      exact ⟨by simp, HB.out _ _⟩
  · have e1 : (m.fr == m'.fr) = false := by simp [h1]
    rw [e1]
    clear h h' hb2 s1 s2
    go_enter Try.func35, Try.ntmps35
    go_wp2
    go_ret
    exact ⟨by simp, HB.out _ _⟩
/-- how many messages are like one -/
def like (l : List Msg) (m : Msg) : Nat := l.countP fun x => x.same m
theorem like_take (l : List Msg) (m x : Msg) {k : Nat} (h : l[k]? = some x) : like (l.take (k + 1)) m = like (l.take k) m + (if x.same m = true then 1 else 0) := by
  obtain ⟨hk, he⟩ := List.getElem?_eq_some_iff.1 h
  unfold like
  rw [List.take_succ_eq_append_getElem hk, he, List.countP_append, List.countP_singleton]
set_option maxRecDepth 100000 in
set_option maxHeartbeats 1000000 in
theorem count_any {w : World} {sv : Value} {vs : List MV} (h : OwnMs w sv vs) (hb : ∀ v ∈ vs, BytesAt w v.2 v.1.b) (m : Msg) (u : Value) (hu : BytesAt w u m.b) (hl : vs.length ≤ 100000) :
    Calls Try.prog 26 #[sv, .agg #[.int .i64 m.fr, .int .i64 m.to, u]] w fun e w' => e = .returned (.int .i64 (like (vs.map (·.1)) m : Nat)) ∧ Below w.heap.size w w' := by
  obtain ⟨sa, sc, rfl⟩ := h.form
  obtain ⟨ua, uc, rfl, _⟩ := hu.form
  obtain ⟨W1, hW1⟩ : ∃ W1, W1 = w.alloc (.cells #[.int .i64 m.fr, .int .i64 m.to, .slice ua m.b.length uc] 49) := ⟨_, rfl⟩
  have hA1 : Below w.heap.size w W1 := by rw [hW1]; exact Go.Joins.below_alloc1 w _
  have hs1 : W1.heap.size = w.heap.size + 1 := by rw [hW1, World.size_alloc]
  have q : ∀ W r, Below W1.heap.size W1 W → r < 3 → W.cell? ⟨w.heap.size, r, none⟩ = (#[.int .i64 m.fr, .int .i64 m.to, .slice ua m.b.length uc] : Array Value)[r]? := fun W r hb' hr => by
    have hq : W1.cell? ⟨w.heap.size, r, none⟩ = (#[.int .i64 m.fr, .int .i64 m.to, .slice ua m.b.length uc] : Array Value)[r]? := by rw [hW1, World.cell?_alloc_new]
    rw [← hq]
    exact hb'.cell (p := ⟨w.heap.size, r, none⟩) (by show w.heap.size < _; omega)
  have HQ := Lib.hid q
  have HH := Lib.hid h
  have HBY := Lib.hid hb
  have HU := Lib.hid hu
  have HA1 := Lib.hid hA1
  have HL : Hid ((vs.map (·.1)).length = vs.length) := List.length_map _
  obtain ⟨L, hL⟩ : ∃ L, vs.length = L := ⟨_, rfl⟩
  obtain ⟨Z, hZ⟩ : ∃ Z, m.b.length = Z := ⟨_, rfl⟩
  have HZ := Lib.hid hZ
  have HLL := Lib.hid hL
  rw [hL] at hl ⊢
  rw [hZ] at hW1 ⊢
  clear h hb hu hA1 hL hZ q hs1
  go_enter Try.func26, Try.ntmps26
  go_wp2
  rw [← hW1]
  clear hW1
  go_loopw [5, 6] (fun n i wr => ∃ k : Nat, k ≤ L ∧ i = .int .i64 (k : Nat) ∧ n = .int .i64 (like ((vs.map (·.1)).take k) m : Nat) ∧ Hid (Below W1.heap.size W1 wr) ∧ like ((vs.map (·.1)).take k) m ≤ k) (fun _ i _ => L - (intOf i).toNat)
  case atStart => exact ⟨0, Nat.zero_le _, rfl, by simp [like], Below.refl _ _, by simp [like]⟩
  case round =>
    obtain ⟨k, hk, rfl, rfl, HW, hlk⟩ := hrel
    by_cases hlt : k < L
    · obtain ⟨⟨x, v⟩, hx⟩ : ∃ x, vs[k]? = some x := ⟨_, List.getElem?_eq_getElem (by rw [HLL.out]; exact hlt)⟩
      have hxm : (vs.map (·.1))[k]? = some x := by rw [List.getElem?_map, hx]; rfl
      have hB : Below w.heap.size w wr := HA1.out.trans (HW.out.mono HA1.out.size)
      have hv := (HBY.out _ (List.mem_of_getElem? hx)).below hB (Nat.le_refl _)
      dsimp only at hv
      obtain ⟨va, vc, rfl, _⟩ := hv.form
      have hrow : OwnMs wr (.slice sa vs.length sc) vs := HH.out.chg (Chg.of_below (S := fun _ => False) hB (Nat.le_refl _)) fun _ _ h => h
      have hLt := like_take (vs.map (·.1)) m x hxm
      have HSAME : Hid (Calls Try.prog 35 #[.agg #[.int .i64 x.fr, .int .i64 x.to, .slice va x.b.length vc], .agg #[.int .i64 m.fr, .int .i64 m.to, .slice ua Z uc]] wr.drew fun e w' => e = .returned (.bool (x.same m)) ∧ Below wr.heap.size wr w') := by
        have hd := Chg.refl (fun _ => False) wr
        have h1 := same_any x m _ _ wr.drew (hv.chg hd.drew fun _ h => h.elim) ((HU.out.below hB (Nat.le_refl _)).chg hd.drew fun _ h => h.elim)
        rw [HZ.out] at h1
        refine h1.mono ?_
        rintro e w' ⟨rfl, hb'⟩
        exact ⟨rfl, ⟨hb'.os, hb'.tape, hb'.output, hb'.size, hb'.block⟩⟩
      have hq0 := HQ.out wr 0 HW.out (by omega)
      have hq1 := HQ.out wr 1 HW.out (by omega)
      have hq2 := HQ.out wr 2 HW.out (by omega)
      rw [HZ.out] at hq2
      have hg : ∃ g, sa = some ⟨g, 0, none⟩ := by
        rcases hrow.2 with ⟨h1, h0⟩ | ⟨g, cap', cur, hv', _⟩
        · rw [HLL.out] at h0; omega
        · injection hv' with e1; exact ⟨g, e1⟩
      obtain ⟨g, rfl⟩ := hg
      have e0 : wr.cell? ⟨g, k * 3, none⟩ = some (.int .i64 x.fr) := hrow.cell hx 0 (by omega)
      have e1 : wr.cell? ⟨g, k * 3 + 1, none⟩ = some (.int .i64 x.to) := hrow.cell hx 1 (by omega)
      have e2 : wr.cell? ⟨g, k * 3 + 2, none⟩ = some (.slice va x.b.length vc) := hrow.cell hx 2 (by omega)
      obtain ⟨c, hc⟩ : ∃ c, like ((vs.map (·.1)).take k) m = c := ⟨_, rfl⟩
      rw [hc] at hlk hLt
      rw [hc]
      have HB := Lib.hid hB
      have HLT := Lib.hid hLt
      clear hx hxm hB hv hrow hLt hc
      cases hsm : x.same m
      · rw [hsm] at HSAME HLT
        go_wp2
        go_still_tail 5, (by kernel_rfl)
        change wpList _ _ _ _ _ wr.drew
        go_wp2_with (go_at_call 35; refine HSAME.out.mono ?_; rintro e w3 ⟨rfl, hb3⟩; have HB3 := Lib.hid hb3; clear hb3)
        go_roundw
        case rel => exact ⟨k + 1, by omega, by go_num, by rw [HLT.out]; simp, HW.out.trans (HB3.out.mono HW.out.size), by rw [HLT.out]; simp; omega⟩
        case measure => simp [intOf]; omega
      · rw [hsm] at HSAME HLT
        go_wp2
        go_still_tail 5, (by kernel_rfl)
        change wpList _ _ _ _ _ wr.drew
        go_wp2_with (go_at_call 35; refine HSAME.out.mono ?_; rintro e w3 ⟨rfl, hb3⟩; have HB3 := Lib.hid hb3; clear hb3)
        go_roundw
        case rel => exact ⟨k + 1, by omega, by go_num, by rw [HLT.out]; simp, HW.out.trans (HB3.out.mono HW.out.size), by rw [HLT.out]; simp; omega⟩
        case measure => simp [intOf]; omega
    · obtain rfl : k = L := by omega
      have HB2 : Hid (Below w.heap.size w wr) := HA1.out.trans (HW.out.mono HA1.out.size)
      have htk : (vs.map (·.1)).take k = vs.map (·.1) := List.take_of_length_le (by rw [HL.out, HLL.out]; exact Nat.le_refl _)
      rw [htk]
      rw [htk] at hlk
      obtain ⟨c, hc⟩ : ∃ c, like (vs.map (·.1)) m = c := ⟨_, rfl⟩
      have HCC := Lib.hid hc
      rw [hc] at hlk ⊢
      clear HW htk hc
      go_wp2
      go_ret
      refine ⟨?_, HB2.out⟩
      rw [HCC.out]; rfl
end Go.Proofs.Ytbmebmkpjbgdoaa
