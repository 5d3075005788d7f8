/- many: how much acts are; does: what an act does. -/
import Derived.Test.YticbfnflillokaaSized
import Derived.Test.YticbfnflillokaaSys
namespace Go.Proofs.Yticbfnflillokaa
open Go.RowKit
theorem BytesAt.belowB {w w' : World} {B : Nat} {v : Value} {l : List UInt8} (h : BytesAt w v l) (hb : Below B w w') (hB : w.heap.size ≤ B) : BytesAt w' v l := BytesIn.below h hb hB
theorem ActsIn.below {w w' : World} {v : Value} {l : List AV} (h : ActsIn w v l) (hb : Below w.heap.size w w') : ActsIn w' v l := by
  obtain ⟨⟨a, cap, hv, hl, hlc, hn, h⟩, hs⟩ := h
  refine ⟨⟨a, cap, hv, hl, hlc, hn, fun h0 => ?_⟩, hs⟩
  obtain ⟨b, off, ha, hbl, hc⟩ := h h0
  refine ⟨b, off, ha, by have := hb.size; omega, fun j q hj => ?_⟩
  obtain ⟨hok, u, hu, hr⟩ := hc j q hj
  exact ⟨hok, u, hu.belowB hb (Nat.le_refl _), fun r hr' => by rw [hb.cell (show (⟨b, off + j * 6 + r, none⟩ : Addr).block < _ from hbl)]; exact hr r hr'⟩
/-- what one act counts -/
def AV.much (q : AV) : Nat := (q.name.length + q.to.length + q.b.length) / 64
/-- how much the first k are, by the laws' count -/
def countTo (l : List AV) (k : Nat) : Nat := k + ((l.take k).map AV.much).sum
theorem countTo_succ (l : List AV) (k : Nat) (q : AV) (h : l[k]? = some q) : countTo l (k + 1) = countTo l k + 1 + q.much := by
  obtain ⟨hk, he⟩ := List.getElem?_eq_some_iff.1 h
  unfold countTo
  rw [List.take_succ_eq_append_getElem hk, he]
  simp; omega
theorem countTo_mono (l : List AV) (k : Nat) (hk : k ≤ l.length) : countTo l k ≤ countTo l l.length := by
  unfold countTo
  rw [List.take_length]
  have : (l.map AV.much).sum = ((l.take k).map AV.much).sum + ((l.drop k).map AV.much).sum := by
    rw [← List.sum_append, ← List.map_append, List.take_append_drop]
  omega
theorem wrap_sm {z : Int} (h0 : -9223372036854775808 ≤ z) (h1 : z ≤ 9223372036854775807) : wrap64 z = z := by unfold wrap64; omega
theorem many_sum (C x y z : Nat) (hC : C ≤ 400) (hx : x ≤ 140737488351232) (hy : y ≤ 140737488351232) (hz : z ≤ 140737488351232) : wrap64 ((C : Int) + wrap64 (1 + wrap64 (Int.tdiv (wrap64 (wrap64 ((x : Int) + y) + z)) 64))) = ((C + 1 + (x + y + z) / 64 : Nat) : Int) := by
  rw [wrap_sm (z := (x : Int) + y) (by omega) (by omega), wrap_sm (z := (x : Int) + y + z) (by omega) (by omega)]
  have h2 : Int.tdiv ((x : Int) + y + z) 64 = (((x + y + z) / 64 : Nat) : Int) := by
    rw [Int.tdiv_eq_ediv_of_nonneg (by omega)]; omega
  rw [h2]
  generalize hq : (x + y + z) / 64 = q
  have : q ≤ 6597069766464 := by omega
  rw [wrap_sm (z := (q : Int)) (by omega) (by omega), wrap_sm (z := 1 + (q : Int)) (by omega) (by omega), wrap_sm (by omega) (by omega)]
  omega
set_option maxRecDepth 100000 in
set_option maxHeartbeats 400000 in
theorem many_any (v : Value) (l : List AV) (w : World) (hp : ActsIn w v l) :
    Calls Try.prog 9 #[v] w fun e w' => e = .returned (.bool (decide (400 < countTo l l.length))) ∧ Below w.heap.size w w' := by
  obtain ⟨⟨a, cap, rfl, hlen, hlc, hn, hcells⟩, hsm⟩ := hp
  rw [maxLen_eq] at hlen
  have HC := Lib.hid hcells
  have HS := Lib.hid hsm
  clear hcells hsm hn
  go_enter Try.func9, Try.ntmps9
  go_wp2
  go_loopw [3, 4] (fun n i wr => ∃ k : Nat, k ≤ l.length ∧ i = .int .i64 (k : Nat) ∧ n = .int .i64 (countTo l k : Nat) ∧ Hid (Below w.heap.size w wr ∧ countTo l k ≤ 400)) (fun _ i _ => l.length - (intOf i).toNat)
  case atStart => exact ⟨0, Nat.zero_le _, rfl, by simp [countTo], Below.refl _ _, by simp [countTo]⟩
  case round =>
    obtain ⟨k, hk, rfl, rfl, HW⟩ := hrel
    by_cases hlt : k < l.length
    · obtain ⟨b, off, rfl, hb, hc⟩ := HC.out (by omega)
      obtain ⟨q, hqk⟩ : ∃ q, l[k]? = some q := ⟨_, List.getElem?_eq_getElem hlt⟩
      obtain ⟨hok, u, hu, hr⟩ := hc k q hqk
      have hbw := HW.out.1
      have h1 : wr.cell? ⟨b, off + k * 6 + 1, none⟩ = some (.string ⟨q.name.toArray⟩) := by rw [hbw.cell (show (⟨b, off + k * 6 + 1, none⟩ : Addr).block < _ from hb)]; exact hr 1 (by omega)
      have h2 : wr.cell? ⟨b, off + k * 6 + 2, none⟩ = some (.string ⟨q.to.toArray⟩) := by rw [hbw.cell (show (⟨b, off + k * 6 + 2, none⟩ : Addr).block < _ from hb)]; exact hr 2 (by omega)
      have h3 : wr.cell? ⟨b, off + k * 6 + 3, none⟩ = some u := by rw [hbw.cell (show (⟨b, off + k * 6 + 3, none⟩ : Addr).block < _ from hb)]; exact hr 3 (by omega)
      obtain ⟨ub, uc, hue, _⟩ := hu.form
      have HSU := Lib.hid (countTo_succ l k q hqk)
      have HM := Lib.hid (countTo_mono l (k + 1) (by omega))
      have hs := HS.out q (List.mem_of_getElem? hqk)
      have HE := Lib.hid (many_sum (countTo l k) q.name.length q.to.length q.b.length HW.out.2 hs.1 hs.2.1 hs.2.2)
      have HB := Lib.hid hbw
      have HMU : Hid (q.much = (q.name.length + q.to.length + q.b.length) / 64) := rfl
      have hw2 := HW.out.2
      subst hue
      obtain ⟨C, hC⟩ : ∃ C, countTo l k = C := ⟨_, rfl⟩
      obtain ⟨M, hM⟩ : ∃ M, (q.name.length + q.to.length + q.b.length) / 64 = M := ⟨_, rfl⟩
      rw [HMU.out, hC, hM] at HSU
      rw [hC, hM] at HE
      rw [hC] at hw2
      rw [hC]
      clear hc hu hqk HW hbw hr hs hok hM HMU hC
      have e1 : (⟨q.name.toArray⟩ : ByteArray).size = q.name.length := by simp [ByteArray.size]
      have e2 : (⟨q.to.toArray⟩ : ByteArray).size = q.to.length := by simp [ByteArray.size]
      have HEN := Lib.hid (And.intro e1 e2)
      clear e1 e2
      go_wp2
      go_quiet (fail)
      rw [HE.out]
      by_cases hbig : 400 < C + 1 + M
      · have hbi : (400 : Int) < ((C + 1 + M : Nat) : Int) := by omega
        generalize C + 1 + M = T at *
        go_wp2
        go_ret
        have hm := HM.out
        have hsu := HSU.out
        rw [decide_eq_true (show 400 < countTo l l.length by omega)]
        exact ⟨rfl, HB.out.trans (Go.Joins.below_draws _ _ _)⟩
      · have hbi : ¬ (400 : Int) < ((C + 1 + M : Nat) : Int) := by omega
        have HT : Hid (C + 1 + M ≤ 400) := by show C + 1 + M ≤ 400; omega
        generalize C + 1 + M = T at *
        go_wp2
        go_roundw
        case rel => exact ⟨k + 1, by omega, by go_num, by rw [HSU.out], HB.out.trans (Go.Joins.below_draws _ _ _), by rw [HSU.out]; exact HT.out⟩
        case measure => simp [intOf]; omega
    · obtain rfl : k = l.length := by omega
      have HW1 := Lib.hid HW.out
      have hw := HW.out.2
      obtain ⟨C, hC⟩ : ∃ C, countTo l l.length = C := ⟨_, rfl⟩
      have HCe := Lib.hid hC
      rw [hC] at hw ⊢
      clear HW hC
      go_wp2
      go_ret
      refine ⟨?_, HW1.out.1⟩
      rw [HCe.out, decide_eq_false (by omega)]
      rfl
end Go.Proofs.Yticbfnflillokaa
