/- A reader's octets, wide numbers, numbers: any reader, nil or not, behind a fault or not. -/
import Derived.Test.YtniogemgkcoimaaPart
namespace Go.Proofs.Ytniogemgkcoimaa
open Go.RowKit
/-- the reader that p points to stands so; a nil one is behind a fault, and has nothing -/
def Rd (w : World) (p : Option Addr) (s : RS) : Prop := (p = none ∧ s = ⟨[], true⟩) ∨ ∃ g, p = some ⟨g, 0, none⟩ ∧ RdAt w g s
/-- what a reader's call may change -/
def at' (p : Option Addr) : List Nat := p.toList.map (·.block)
theorem nb_one {w : World} {k : Nat} {v : Value} {t : TypeId} {fr : Nat × Nat} (h : w.heap[k]? = some (.cells #[v] t fr)) (hv : ∀ n, v ≠ .int .u8 n) : NB w k := by
  intro j n hc
  rw [Go.Joins.cell_of_block h] at hc
  match j with
  | 0 => exact hv n (by simpa using hc)
  | j + 1 => simp at hc
theorem Rd.lt {w : World} {p : Option Addr} {s : RS} (h : Rd w p s) : ∀ k ∈ at' p, k < w.heap.size := by
  rcases h with ⟨rfl, _⟩ | ⟨g, rfl, h⟩
  · simp [at']
  · intro k hk; have : k = g := by simpa [at'] using hk
    rw [this]; exact h.lt
theorem Rd.nb {w : World} {p : Option Addr} {s : RS} (h : Rd w p s) : ∀ k ∈ at' p, NB w k := by
  rcases h with ⟨rfl, _⟩ | ⟨g, rfl, h⟩
  · simp [at']
  · intro k hk; have : k = g := by simpa [at'] using hk
    rw [this]; exact h.nb
theorem Rd.chg {w w' : World} {p : Option Addr} {s : RS} {S : List Nat} (h : Rd w p s) (hc : Chg S w w') (hg : ∀ k ∈ at' p, k ∉ S) (hs : ∀ k ∈ S, NB w k) : Rd w' p s := by
  rcases h with ⟨rfl, rfl⟩ | ⟨g, rfl, h⟩
  · exact .inl ⟨rfl, rfl⟩
  · exact .inr ⟨g, rfl, h.chg hc (hg g (by simp [at'])) hs⟩
theorem Rd.below {w w' : World} {p : Option Addr} {s : RS} {B : Nat} (h : Rd w p s) (hb : Below B w w') (hB : w.heap.size ≤ B) : Rd w' p s :=
  h.chg (Chg.of_below (S := []) hb hB) (by simp) (by simp)

theorem enter55 : ∀ caps w, (callFunc 55 caps).run Try.prog w = .ok (.enter 55 caps) w := fun caps w => by kernel_rfl
theorem enter57 : ∀ caps w, (callFunc 57 caps).run Try.prog w = .ok (.enter 57 caps) w := fun caps w => by kernel_rfl
theorem enter48 : ∀ caps w, (callFunc 48 caps).run Try.prog w = .ok (.enter 48 caps) w := fun caps w => by kernel_rfl
theorem enter50 : ∀ caps w, (callFunc 50 caps).run Try.prog w = .ok (.enter 50 caps) w := fun caps w => by kernel_rfl
theorem enter53 : ∀ caps w, (callFunc 53 caps).run Try.prog w = .ok (.enter 53 caps) w := fun caps w => by kernel_rfl

theorem octet_raw (g : Nat) (v : Value) (b : UInt8) (t : List UInt8) (bad : Bool) (w : World) (hi : RdIn w g v bad) (hb : BytesAt w v (b :: t)) :
    Calls Try.prog 56 #[.pointer (some ⟨g, 0, none⟩)] w fun e w' => e = .returned (.int .u8 (b.toNat : Int)) ∧ ∃ u, RdIn w' g u bad ∧ (∀ W, BytesAt W v (b :: t) → BytesAt W u t) ∧ Chg [g] w w' := by
  have HI := Lib.hid hi
  have HB := Lib.hid hb
  have HN : Hid (NB w g) := RdAt.nb (s := ⟨b :: t, bad⟩) ⟨v, hi, hb⟩
  clear hi hb
  go_enter Try.func56, Try.ntmps56
  go_wp2_with fail
  refine (take_raw g 1 v (b :: t) bad _ HI.out HB.out (by simp)).mono ?_
  rintro e w1 ⟨a, u, rfl, hw, hbytes⟩
  have hc1 : Chg [g] w w1 := by rw [hw]; exact (Chg.refl _ _).setCell (.inl (by simp)) _
  have hB1 : BytesAt w1 v (b :: t) := HB.out.chg hc1 (fun k hk => by rw [List.mem_singleton.1 hk]; exact HN.out)
  obtain ⟨a', cap', hv, _, _, hcell⟩ := (hbytes w1 hB1).1.form
  cases hv
  obtain ⟨bl, off, rfl, _, hcell⟩ := hcell (by simp)
  have h0 := hcell 0 (by simp)
  have HF : Hid (∃ u, RdIn w1 g u bad ∧ (∀ W, BytesAt W v (b :: t) → BytesAt W u t) ∧ Chg [g] w w1) := ⟨u, by rw [hw]; exact HI.out.set0 u, fun W h => (hbytes W h).2, hc1⟩
  clear hw hc1 hB1 hbytes hcell
  simp at h0
  go_wp2
  go_ret
  exact ⟨rfl, HF.out⟩
theorem u8c_yes (g pr px : Nat) (v x0 : Value) (b : UInt8) (t : List UInt8) (w : World) (hi : RdIn w g v false) (hb : BytesAt w v (b :: t)) (hp : w.heap[pr]? = some (.cells #[.pointer (some ⟨g, 0, none⟩)] 37 (0, 0))) (hx : w.heap[px]? = some (.cells #[x0] 5 (0, 0))) (hgp : g ≠ px) :
    Calls Try.prog 55 #[.pointer (some ⟨pr, 0, none⟩), .pointer (some ⟨px, 0, none⟩)] w fun e w' => e = .returned (.tuple #[]) ∧ (∃ u, RdIn w' g u false ∧ ∀ W, BytesAt W v (b :: t) → BytesAt W u t) ∧ w'.heap[px]? = some (.cells #[.int .u8 (b.toNat : Int)] 5 (0, 0)) ∧ Chg [g, px] w w' := by
  have c0 := cell_of_one hp
  have HI := Lib.hid hi
  have HB := Lib.hid hb
  have HX := Lib.hid hx
  clear hp hi hb hx
  go_enter Try.func55, Try.ntmps55
  go_wp2_with fail
  refine (octet_raw g v b t false _ HI.out HB.out).mono ?_
  rintro e w1 ⟨rfl, u, hi, hbs, hc⟩
  have hx1 : w1.heap[px]? = some (.cells #[x0] 5 (0, 0)) := hc.heap HX.out (by simp; omega)
  have c1 := cell_of_one hx1
  have f1 := free_of_one hx1
  have HF : Hid (∀ y, (∃ u, RdIn (w1.setCell ⟨px, 0, none⟩ y) g u false ∧ ∀ W, BytesAt W v (b :: t) → BytesAt W u t) ∧ (w1.setCell ⟨px, 0, none⟩ y).heap[px]? = some (.cells #[y] 5 (0, 0)) ∧ Chg [g, px] w (w1.setCell ⟨px, 0, none⟩ y)) := fun y =>
    ⟨⟨u, by show (World.setCell _ _ _).heap[g]? = _; rw [Below.heap_setCell _ _ _ _ hgp]; exact hi, hbs⟩, one_setCell hx1, (hc.mono (by simp)).setCell (.inl (by simp)) _⟩
  clear hi hbs hc hx1
  go_wp2
  go_end0
  exact ⟨rfl, HF.out _⟩
theorem u8c_no (g pr px : Nat) (w : World) (hr : RdAt w g ⟨[], false⟩) (hp : w.heap[pr]? = some (.cells #[.pointer (some ⟨g, 0, none⟩)] 37 (0, 0))) :
    Calls Try.prog 55 #[.pointer (some ⟨pr, 0, none⟩), .pointer (some ⟨px, 0, none⟩)] w (GaveUp g false w) := by
  have c0 := cell_of_one hp
  have HR := Lib.hid hr
  clear hp hr
  go_enter Try.func55, Try.ntmps55
  go_wp2_with fail
  refine (octet_no g false _ HR.out).mono ?_
  rintro e w1 ⟨rfl, hs, hc⟩
  exact ⟨rfl, rfl, hs, hc⟩
end Go.Proofs.Ytniogemgkcoimaa
