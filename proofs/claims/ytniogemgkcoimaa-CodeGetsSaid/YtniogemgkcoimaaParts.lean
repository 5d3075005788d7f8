/- A slice of parts that came in; whether they are too many. -/
import Derived.Test.YtniogemgkcoimaaLawGet
import Derived.Test.YtniogemgkcoimaaWrite
namespace Go.Proofs.Ytniogemgkcoimaa
open Go.RowKit
/-- the four cells at that place are the part p -/
structure PartAt (w : World) (b off : Nat) (p : PV) (u : Value) : Prop where
  c0 : w.cell? ⟨b, off, none⟩ = some (.int .i64 p.sort)
  c1 : w.cell? ⟨b, off + 1, none⟩ = some (.int .i64 p.most)
  c2 : w.cell? ⟨b, off + 2, none⟩ = some (.int .u64 (p.x : Nat))
  c3 : w.cell? ⟨b, off + 3, none⟩ = some u
  bytes : BytesAt w u p.b
  ok : p.ok
/-- the slice v reads as the parts l -/
def PartsAt (w : World) (v : Value) (l : List PV) : Prop :=
  ∃ a cap, v = .slice a l.length cap ∧ l.length ≤ maxLen ∧ l.length ≤ cap ∧ (0 < l.length → ∃ b off, a = some ⟨b, off, none⟩ ∧ b < w.heap.size ∧ ∀ j p, l[j]? = some p → ∃ u, PartAt w b (off + j * 4) p u)
theorem PartAt.below {w w' : World} {B b off : Nat} {p : PV} {u : Value} (h : PartAt w b off p u) (hb : Below B w w') (hB : w.heap.size ≤ B) (hlt : b < w.heap.size) : PartAt w' b off p u :=
  ⟨by rw [hb.cell (p := ⟨b, off, none⟩) (by show b < B; omega)]; exact h.c0, by rw [hb.cell (p := ⟨b, off + 1, none⟩) (by show b < B; omega)]; exact h.c1, by rw [hb.cell (p := ⟨b, off + 2, none⟩) (by show b < B; omega)]; exact h.c2, by rw [hb.cell (p := ⟨b, off + 3, none⟩) (by show b < B; omega)]; exact h.c3, h.bytes.below hb hB, h.ok⟩
theorem PartsAt.below {w w' : World} {B : Nat} {v : Value} {l : List PV} (h : PartsAt w v l) (hb : Below B w w') (hB : w.heap.size ≤ B) : PartsAt w' v l := by
  obtain ⟨a, cap, hv, hl, hlc, h⟩ := h
  refine ⟨a, cap, hv, hl, hlc, fun h0 => ?_⟩
  obtain ⟨b, off, ha, hbl, hc⟩ := h h0
  exact ⟨b, off, ha, by have := hb.size; omega, fun j p hj => by obtain ⟨u, hu⟩ := hc j p hj; exact ⟨u, hu.below hb hB hbl⟩⟩
/-- how many are gone through, by the laws' count -/
def countTo (l : List PV) (k : Nat) : Nat := l.length + ((l.take k).map fun p => p.b.length / 20).sum
theorem countTo_succ (l : List PV) (k : Nat) (p : PV) (h : l[k]? = some p) : countTo l (k + 1) = countTo l k + p.b.length / 20 := by
  obtain ⟨hk, he⟩ := List.getElem?_eq_some_iff.1 h
  unfold countTo
  rw [List.take_succ_eq_append_getElem hk, he]
  simp; omega
theorem countTo_mono (l : List PV) (k : Nat) : countTo l k ≤ countTo l l.length := by
  unfold countTo
  rw [List.take_length]
  have : (l.map fun p => p.b.length / 20).sum = ((l.take k).map fun p => p.b.length / 20).sum + ((l.drop k).map fun p => p.b.length / 20).sum := by
    rw [← List.sum_append, ← List.map_append, List.take_append_drop]
  omega
theorem wrap_small {z : Int} (h0 : -9223372036854775808 ≤ z) (h1 : z ≤ 9223372036854775807) : wrap64 z = z := by unfold wrap64; omega
theorem great_sum (C PL : Nat) (hC : C ≤ 2000) (hPL : PL ≤ 9223372036854775807) : wrap64 ((C : Int) + wrap64 ((PL : Int) / 20)) = ((C + PL / 20 : Nat) : Int) ∧ C + PL / 20 ≤ 9223372036854775807 := by
  have h1 : PL / 20 ≤ 461168601842738791 := by omega
  have h2 : wrap64 ((PL : Int) / 20) = ((PL / 20 : Nat) : Int) := by
    rw [wrap_small (by omega) (by omega)]; rfl
  rw [h2]
  generalize PL / 20 = q at *
  rw [wrap_small (by omega) (by omega)]
  omega
theorem maxLen_eq : maxLen = 9223372036854775807 := rfl
set_option maxRecDepth 100000 in
set_option maxHeartbeats 400000 in
theorem great_any (v : Value) (l : List PV) (w : World) (hp : PartsAt w v l) :
    Calls Try.prog 10 #[v] w fun e w' => e = .returned (.bool (decide (2000 < countTo l l.length))) ∧ w = w' := by
  obtain ⟨a, cap, rfl, hlen, hlc, hcells⟩ := hp
  rw [maxLen_eq] at hlen
  have HC := Lib.hid hcells
  clear hcells
  go_enter Try.func10, Try.ntmps10
  go_wp2
  go_loopw [3, 4] (fun n i wr => ∃ k : Nat, k ≤ l.length ∧ i = .int .i64 (k : Nat) ∧ n = .int .i64 (countTo l k : Nat) ∧ Hid (w = wr ∧ countTo l k ≤ 9223372036854775807)) (fun _ i _ => l.length - (intOf i).toNat)
  case atStart => exact ⟨0, Nat.zero_le _, rfl, by simp [countTo], rfl, by simp [countTo]; omega⟩
  case round =>
    obtain ⟨k, hk, rfl, rfl, HW⟩ := hrel
    by_cases hlt : k < l.length
    · obtain ⟨b, off, rfl, hb, hc⟩ := HC.out (by omega)
      obtain ⟨p, hpk⟩ : ∃ p, l[k]? = some p := ⟨_, List.getElem?_eq_getElem hlt⟩
      obtain ⟨u, hu⟩ := hc k p hpk
      have h3 : wr.cell? ⟨b, off + k * 4 + 3, none⟩ = some u := by rw [← HW.out.1]; exact hu.c3
      obtain ⟨ub, uc, hue, hlenu, _⟩ := hu.bytes.form
      rw [maxLen_eq] at hlenu
      have HS := Lib.hid (countTo_succ l k p hpk)
      have HM := Lib.hid (countTo_mono l k)
      have HW1 := Lib.hid HW.out.1
      subst hue
      generalize p.b.length = PL at *
      generalize countTo l k = C at *
      clear hc hu hpk HW
      by_cases hC : C ≤ 2000
      · have E1 : Hid (wrap64 ((C : Int) + wrap64 ((PL : Int) / 20)) = ((C + PL / 20 : Nat) : Int) ∧ C + PL / 20 ≤ 9223372036854775807) := great_sum C PL hC hlenu
        clear hlenu
        go_wp2
        rw [E1.out.1]
        refine ⟨⟨k + 1, by omega, by go_num, by rw [HS.out], HW1.out, by rw [HS.out]; exact E1.out.2⟩, by simp [intOf]; omega⟩
      · clear hlenu
        go_wp2
        go_ret
        refine ⟨?_, HW1.out⟩
        have hm := HM.out
        rw [decide_eq_true (show 2000 < countTo l l.length by omega)]
        rfl
    · obtain rfl : k = l.length := by omega
      have HW1 := Lib.hid HW.out.1
      obtain ⟨C, hC⟩ : ∃ C, countTo l l.length = C := ⟨_, rfl⟩
      have HCe := Lib.hid hC
      rw [hC]
      clear HW hC
      go_wp2
      go_ret
      refine ⟨?_, HW1.out⟩
      rw [HCe.out]
      have e : decide (2000 < (C : Int)) = decide (2000 < C) := by
        by_cases h : 2000 < C
        · rw [decide_eq_true h, decide_eq_true (by omega)]
        · rw [decide_eq_false h, decide_eq_false (by omega)]
      rw [← e]; rfl
end Go.Proofs.Ytniogemgkcoimaa
