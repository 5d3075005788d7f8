/- What a reader takes: an octet, four bytes, a number, a text; or it gives up. -/
import Derived.Test.YtniogemgkcoimaaOwn
import Derived.Deep.RegionLaw
import Derived.Laws.CopyOwn
namespace Go.Proofs.Ytniogemgkcoimaa
open Go.RowKit
/-- given up: a reader's block is one still, and nothing else has changed -/
def GaveUp (g : Nat) (bad : Bool) (w : World) (e : Ending) (w' : World) : Prop := e = .panicked boom ∧ (∃ s, RdAt w' g ⟨s, bad⟩) ∧ Chg [g] w w'
theorem octet_no (g : Nat) (bad : Bool) (w : World) (hr : RdAt w g ⟨[], bad⟩) :
    Calls Try.prog 56 #[.pointer (some ⟨g, 0, none⟩)] w (GaveUp g bad w) := by
  have HR := Lib.hid hr
  clear hr
  go_enter Try.func56, Try.ntmps56
  go_wp2_with (go_at_call 54; refine (take_no g 1 ⟨[], bad⟩ _ HR.out (.inr (by simp))).mono ?_; rintro e w1 ⟨rfl, rfl⟩)
  exact ⟨rfl, rfl, ⟨[], HR.out⟩, Chg.refl _ _⟩
theorem octet_yes (g : Nat) (b : UInt8) (t : List UInt8) (bad : Bool) (w : World) (hr : RdAt w g ⟨b :: t, bad⟩) :
    Calls Try.prog 56 #[.pointer (some ⟨g, 0, none⟩)] w fun e w' => e = .returned (.int .u8 (b.toNat : Int)) ∧ RdAt w' g ⟨t, bad⟩ ∧ Chg [g] w w' := by
  have HR := Lib.hid hr
  clear hr
  go_enter Try.func56, Try.ntmps56
  go_wp2_with fail
  refine (take_yes g 1 (b :: t) bad _ HR.out (by simp)).mono ?_
  rintro e w1 ⟨a, rfl, hb, hr, hc⟩
  obtain ⟨a', cap', hv, _, _, hcell⟩ := hb.form
  cases hv
  obtain ⟨bl, off, rfl, _, hcell⟩ := hcell (by simp)
  have h0 := hcell 0 (by simp)
  have HR1 := Lib.hid hr
  have HC1 := Lib.hid hc
  clear hb hr hc hcell
  simp at h0
  go_wp2
  go_ret
  exact ⟨rfl, HR1.out, HC1.out⟩
theorem chg_alloc_rd {g : Nat} {s : RS} {w : World} (hr : RdAt w g s) (o : Obj) : RdAt (w.alloc o) g s := hr.below ((Below.refl _ w).alloc (Nat.le_refl _) o) (Nat.le_refl _)
theorem wide_no (g : Nat) (l : List UInt8) (bad : Bool) (w : World) (hr : RdAt w g ⟨l, bad⟩) (hl : l.length < 4) :
    Calls Try.prog 58 #[.pointer (some ⟨g, 0, none⟩)] w (GaveUp g bad w) := by
  have HR := Lib.hid hr
  clear hr
  go_enter Try.func58, Try.ntmps58
  go_wp2
  refine wp_region_any (by kernel_rfl) ?_
  change wpAny _ _ _ _ _ _ _ (World.drew _)
  refine wpAny_take (i := 0) (v := ?_) rfl (by kernel_rfl) (by kernel_rfl) (by kernel_rfl) (fun _ _ _ h => h) (Or.inl ⟨by rfl, ?_⟩) ?_
  rotate_left
  · intro w; go_simp; try with_reducible rfl
  refine wpAny_take (i := 1) (v := ?_) rfl (by kernel_rfl) (by kernel_rfl) (by kernel_rfl) (fun _ _ _ h => h) (Or.inl ⟨by rfl, ?_⟩) ?_
  rotate_left
  · intro w; go_simp; try with_reducible rfl
  refine wpAny_ready (rs := [2]) (by kernel_rfl) (by simp) ?_
  refine AllReady.cons rfl (fun K hK => ?_) AllReady.nil
  go_simp
  go_at_call 54
  refine (take_no g 4 ⟨l, bad⟩ _ (HR.out.below ((Below.refl _ _).alloc (Nat.le_refl _) _).drew (Nat.le_refl _)) (.inr (by dsimp only; omega))).mono ?_
  rintro e w1 ⟨rfl, rfl⟩
  exact ⟨rfl, rfl, ⟨l, HR.out.below ((Below.refl _ _).alloc (Nat.le_refl _) _).drew (Nat.le_refl _)⟩, ((Chg.refl _ _).alloc _).drew⟩
theorem u32_or_nat' (x y : Nat) (hx : x < 4294967296) (hy : y < 4294967296) : bits .or .u32 (x : Int) (y : Int) = ((x ||| y : Nat) : Int) := u32_or_nat x y hx hy
theorem or_add (a b i : Nat) (ha : a < 2 ^ i) : a ||| b * 2 ^ i = a + 2 ^ i * b := by
  rw [Nat.or_comm, nat_join i _ _ (by simp) ha, Nat.mul_comm, Nat.add_comm]
set_option maxHeartbeats 400000 in
theorem wide_yes (g : Nat) (b0 b1 b2 b3 : UInt8) (t : List UInt8) (bad : Bool) (w : World) (hr : RdAt w g ⟨b0 :: b1 :: b2 :: b3 :: t, bad⟩) :
    Calls Try.prog 58 #[.pointer (some ⟨g, 0, none⟩)] w fun e w' => e = .returned (.int .u32 (ofLe [b0, b1, b2, b3] : Nat)) ∧ RdAt w' g ⟨t, bad⟩ ∧ Chg [g] w w' := by
  have hnb := hr.nb
  have hlt := hr.lt
  obtain ⟨v, hi, hb⟩ := hr
  have HI := Lib.hid hi
  have HB := Lib.hid hb
  have HN := Lib.hid hnb
  clear hi hb hnb
  go_enter Try.func58, Try.ntmps58
  go_wp2
  refine wp_region_any (by kernel_rfl) ?_
  change wpAny _ _ _ _ _ _ _ (World.drew _)
  refine wpAny_take (i := 0) (v := ?_) rfl (by kernel_rfl) (by kernel_rfl) (by kernel_rfl) (fun _ _ _ h => h) (Or.inl ⟨by rfl, ?_⟩) ?_
  rotate_left
  · intro w; go_simp; try with_reducible rfl
  refine wpAny_take (i := 1) (v := ?_) rfl (by kernel_rfl) (by kernel_rfl) (by kernel_rfl) (fun _ _ _ h => h) (Or.inl ⟨by rfl, ?_⟩) ?_
  rotate_left
  · intro w; go_simp; try with_reducible rfl
  refine wpAny_ready (rs := [2]) (by kernel_rfl) (by simp) ?_
  refine AllReady.cons rfl (fun K hK => ?_) AllReady.nil
  go_simp
  go_at_call 54
  refine (take_raw g 4 v _ bad _ (by have h := HI.out; exact (Chg.alloc (Chg.refl [] w) _).drew.heap h (by simp)) (HB.out.below ((Below.refl _ _).alloc (Nat.le_refl _) _).drew (Nat.le_refl _)) (by simp)).mono ?_
  rintro e w1 ⟨a, u, rfl, hw1, hbytes⟩
  refine hK _ _ ?_
  clear hK K
  refine wpAny_ready (rs := [3]) (by kernel_rfl) (by simp) ?_
  refine AllReady.cons rfl (fun K hK => ?_) AllReady.nil
  have hc1 : Chg [g] w w1 := by rw [hw1]; exact ((Chg.refl _ _).alloc _).drew.setCell (.inl (by simp)) _
  have hB1 : BytesAt w1 v (b0 :: b1 :: b2 :: b3 :: t) := HB.out.chg hc1 (fun k hk => by rw [List.mem_singleton.1 hk]; exact HN.out)
  have hA1 : w1.heap[w.heap.size]? = some (.cells ([.int .u8 0, .int .u8 0, .int .u8 0, .int .u8 0] : List Value).toArray 83 (0, 0)) := by
    rw [hw1, Below.heap_setCell _ _ _ _ (by show w.heap.size ≠ g; omega)]
    exact heap_alloc_new w _
  obtain ⟨a', cap', hv, _, _, hcell⟩ := (hbytes w1 hB1).1.form
  cases hv
  obtain ⟨bl, off, rfl, _, hcell⟩ := hcell (by simp)
  refine step_copy_splice rfl (.tmp 4) (.tmp 6) 27 27 rfl 5 Try.underlying27 (by kernel_rfl) _ _ 4 4 4 4 rfl rfl w.heap.size 0 [.int .u8 0, .int .u8 0, .int .u8 0, .int .u8 0] 83 hA1 ([b0, b1, b2, b3].map byteV) rfl ?_ (by simp) ?_ w.heap.size w1 (Below.refl _ _) (Nat.le_refl _) ?_
  · intro _
    refine ⟨rfl, _, rfl, fun j x hj => ?_⟩
    rw [Addr.add_lit]
    have hj4 : j < 4 := by have := (List.getElem?_eq_some_iff.1 hj).1; simpa using this
    rw [← hj, getD_cell [b0, b1, b2, b3] j hj4]
    exact hcell j hj4
  · intro x hx
    obtain ⟨y, _, rfl⟩ := List.mem_map.1 hx
    rfl
  intro w2 hblk hbel
  have hblk' : w2.heap[w.heap.size]? = some (.cells #[.int .u8 (b0.toNat : Int), .int .u8 (b1.toNat : Int), .int .u8 (b2.toNat : Int), .int .u8 (b3.toNat : Int)] 83 (0, 0)) := hblk.out
  have c0 := Go.Joins.cell_of_block hblk' 0
  have c1 := Go.Joins.cell_of_block hblk' 1
  have c2 := Go.Joins.cell_of_block hblk' 2
  have c3 := Go.Joins.cell_of_block hblk' 3
  have hc2 : Chg [g] w w2 := hc1.then (S' := [w.heap.size]) (by
    exact ⟨hbel.os, hbel.tape, hbel.output, hbel.size, fun k hk hn => by
      rcases Nat.lt_or_ge k w.heap.size with h | h
      · exact hbel.block k h
      · have hsz : w1.heap.size = w.heap.size + 1 := by rw [hw1]; simp [World.setCell, World.drew]
        exact absurd (show k = w.heap.size by omega) (by simpa using hn)⟩) (fun i hi => .inr (by simp at hi; omega))
  have hR : RdAt w2 g ⟨t, bad⟩ := by
    have hB2 : BytesAt w2 v (b0 :: b1 :: b2 :: b3 :: t) := HB.out.chg hc2 (fun k hk => by rw [List.mem_singleton.1 hk]; exact HN.out)
    refine ⟨u, ?_, (hbytes w2 hB2).2⟩
    have h1 : RdIn w1 g u bad := by
      rw [hw1]
      exact RdIn.set0 (w := (w.alloc _).drew) (by have h := HI.out; exact (Chg.alloc (Chg.refl [] w) _).drew.heap h (by simp)) u
    show w2.heap[g]? = _
    rw [hbel.block g hlt]
    exact h1
  have HF := Lib.hid (And.intro hR hc2)
  have h0 := b0.toNat_lt
  have h1 := b1.toNat_lt
  have h2 := b2.toNat_lt
  have h3 := b3.toNat_lt
  have HE : Hid (ofLe [b0, b1, b2, b3] = b0.toNat + 256 * b1.toNat + 65536 * b2.toNat + 16777216 * b3.toNat) := by simp only [Hid, ofLe]; omega
  refine hK _ _ ?_
  clear hK K hblk hblk' hbel hc1 hc2 hR hw1 hB1 hA1 hcell hbytes
  generalize b0.toNat = Y0 at *
  generalize b1.toNat = Y1 at *
  generalize b2.toNat = Y2 at *
  generalize b3.toNat = Y3 at *
  have o1 : bits .or .u32 (Y0 : Int) ((Y1 : Int) * 256) = ((Y0 + 256 * Y1 : Nat) : Int) := by
    have := u32_or_nat Y0 (Y1 * 256) (by omega) (by omega); rw [or_add Y0 Y1 8 (by omega)] at this; exact this
  have m1 : Y0 + 256 * Y1 < 65536 := by omega
  obtain ⟨p2, hp2⟩ : ∃ p, Y0 + 256 * Y1 = p := ⟨_, rfl⟩
  rw [hp2] at o1 m1 HE
  have o2 : bits .or .u32 (p2 : Int) ((Y2 : Int) * 65536) = ((p2 + 65536 * Y2 : Nat) : Int) := by
    have := u32_or_nat p2 (Y2 * 65536) (by omega) (by omega); rw [or_add p2 Y2 16 (by omega)] at this; exact this
  have m2 : p2 + 65536 * Y2 < 16777216 := by omega
  obtain ⟨p3, hp3⟩ : ∃ p, p2 + 65536 * Y2 = p := ⟨_, rfl⟩
  rw [hp3] at o2 m2 HE
  have o3 : bits .or .u32 (p3 : Int) ((Y3 : Int) * 16777216) = ((p3 + 16777216 * Y3 : Nat) : Int) := by
    have := u32_or_nat p3 (Y3 * 16777216) (by omega) (by omega); rw [or_add p3 Y3 24 (by omega)] at this; exact this
  have m3 : p3 + 16777216 * Y3 < 4294967296 := by omega
  obtain ⟨p4, hp4⟩ : ∃ p, p3 + 16777216 * Y3 = p := ⟨_, rfl⟩
  rw [hp4] at o3 m3 HE
  clear hp2 hp3 hp4
  refine wpAny_done (by kernel_rfl) ?_ _
  go_wp2
  go_ret
  refine ⟨by rw [HE.out]; rfl, HF.out⟩
end Go.Proofs.Ytniogemgkcoimaa
