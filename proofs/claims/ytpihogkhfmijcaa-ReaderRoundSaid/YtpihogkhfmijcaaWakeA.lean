/- The chapter's ledger, and its answers. -/
import Derived.Test.YtpihogkhfmijcaaLawB
import Derived.Lib.ConvBytes
namespace Go.Proofs.Ytpihogkhfmijcaa
open Go.RowKit Go.Maps Go.Shelf
set_option linter.unusedSimpArgs false
theorem place_any (n : Int) (w : World) : Calls Try.prog 18 #[.int .i64 n] w fun e w' => e = .returned (PL.val ⟨n, 1⟩) ∧ Below w.heap.size w w' := by
  have HX := Lib.hid (BoxC.new w 38 #[.int .i64 n, .int .u64 1])
  have HB := Lib.hid (Go.Joins.below_alloc1 w (.cells #[.int .i64 n, .int .u64 1] 38))
  go_enter Try.func18, Try.ntmps18
  go_wp2
  refine bodyPost_ret (results_cell_row rfl _ _ w.heap.size 38 _ (0, 0) _ rfl HX.out Try.underlying38 rfl (by kernel_rfl)) rfl ?_
  exact ⟨rfl, HB.out⟩
def tri : List PL := [⟨7, 1⟩, ⟨8, 1⟩, ⟨9, 1⟩]
theorem small_ok (n : Int) (h : 0 ≤ n ∧ n ≤ 100) : (⟨n, 1⟩ : PL).ok := ⟨⟨by show _ ≤ n; omega, by show n ≤ _; omega⟩, by show 0 ≤ (1 : Int) ∧ (1 : Int) ≤ _; decide⟩
theorem tri_ok : ∀ q ∈ tri, q.ok := fun q hq => by
  simp only [tri, List.mem_cons, List.not_mem_nil, or_false] at hq
  rcases hq with rfl | rfl | rfl <;> exact small_ok _ (by decide)
theorem tri_new (w : World) : PsAt (w.alloc (.cells #[.int .i64 7, .int .u64 1, .int .i64 8, .int .u64 1, .int .i64 9, .int .u64 1] 38)) (.slice (some ⟨w.heap.size, 0, none⟩) 3 3) tri := by
  refine PsAt.new w tri (by decide) tri_ok _ fun j q r hj hr => ?_
  have hjl := (List.getElem?_eq_some_iff.1 hj).1
  simp only [tri, List.length_cons, List.length_nil] at hjl
  rcases (show j = 0 ∨ j = 1 ∨ j = 2 by omega) with rfl | rfl | rfl <;> (simp [tri] at hj; subst hj; rcases (show r = 0 ∨ r = 1 by omega) with rfl | rfl <;> rfl)
def triF (b : Nat) : FV := ⟨1, some ⟨b, 0, none⟩, 3, tri⟩
/-- one fragment in a new block -/
theorem frag_new (w : World) (b : Nat) (h : PsAt w (.slice (some ⟨b, 0, none⟩) 3 3) tri) : FsAt (w.alloc (.cells #[.int .u64 1, .slice (some ⟨b, 0, none⟩) 3 3] 70)) (.slice (some ⟨w.heap.size, 0, none⟩) 1 1) [triF b] := by
  refine ⟨_, _, rfl, by simp, Nat.le_refl _, (fun h => by cases h), fun _ => ⟨_, 0, rfl, by simp [World.size_alloc], fun j x hj => ?_⟩⟩
  have hjl := (List.getElem?_eq_some_iff.1 hj).1
  simp only [List.length_cons, List.length_nil] at hjl
  obtain rfl : j = 0 := by omega
  simp at hj
  subst hj
  refine ⟨⟨by unfold u64ok triF; dsimp only; omega, h.below (Go.Joins.below_alloc1 w _)⟩, fun r hr => ?_⟩
  simp only [Nat.zero_add, Nat.zero_mul]
  rw [World.cell?_alloc_new]
  rcases (show r = 0 ∨ r = 1 by omega) with rfl | rfl <;> rfl
theorem FsAt.ch1 {g : Nat} {w w' : World} {a : Option Addr} {n c : Nat} {L : List FV} (h : FsAt w (.slice a n c) L) (hg : ∀ b, ab a = some b → b ≠ g) (hgs : ∀ x ∈ L, ∀ b, ab x.a = some b → b ≠ g) (hc : Ch1 g w w') : FsAt w' (.slice a n c) L :=
  RowAt.frame h hc.size (fun b hb h0 => hc.block b h0 (hg b hb)) (fun x hx hxo => ⟨hxo.1, RowAt.ch1 hxo.2 (hgs x hx) hc⟩)
def threeV (a b : Nat) : LgV := ⟨1, 2, 2, some ⟨a, 0, none⟩, 1, [triF b], 0, 0⟩
def zero25 : Array Value := #[.int .u64 0, .int .i64 0, .int .i64 0, .slice none 0 0, .int .i64 0, .int .u64 0]
set_option maxRecDepth 100000 in
set_option maxHeartbeats 2000000 in
theorem three_any (w : World) : Calls Try.prog 16 #[] w fun e w' => ∃ a b, e = .returned (threeV a b).val ∧ FsAt w' (.slice (some ⟨a, 0, none⟩) 1 1) [triF b] ∧ Below w.heap.size w w' := by
  have HB := Lib.hid (Go.Joins.below_alloc1 w (.cells zero25 25))
  have HP := Lib.hid (fun n W => place_any n W)
  have hbx := BoxC.new w 25 zero25
  have HBX := Lib.hid hbx
  unfold zero25 at HBX
  clear hbx
  go_enter Try.func16, Try.ntmps16
  go_wp2_with fail
  refine (HP.out _ _).mono ?_
  rintro e w1 ⟨rfl, hb1⟩
  have H1 := Lib.hid (And.intro (HBX.out.below hb1) (HB.out.trans (hb1.mono HB.out.size)))
  clear hb1 HB HBX
  go_wp2_with fail
  refine (HP.out _ _).mono ?_
  rintro e w2 ⟨rfl, hb2⟩
  have H2 := Lib.hid (And.intro (H1.out.1.below hb2) (H1.out.2.trans (hb2.mono H1.out.2.size)))
  clear hb2 H1
  go_wp2_with fail
  refine (HP.out _ _).mono ?_
  rintro e w3 ⟨rfl, hb3⟩
  have H3 := Lib.hid (And.intro (H2.out.1.below hb3) (H2.out.2.trans (hb3.mono H2.out.2.size)))
  clear hb3 H2 HP
  have hx := (H3.out.1.alloc (.cells #[.int .i64 7, .int .u64 1, .int .i64 8, .int .u64 1, .int .i64 9, .int .u64 1] 38)).alloc (.cells #[.int .u64 1, .slice (some ⟨w3.heap.size, 0, none⟩) 3 3] 70)
  have HX := Lib.hid hx
  have f0 := hx.fz
  have c0 := hx.cell 0
  have c1 := hx.cell 1
  have c2 := hx.cell 2
  have c3 := hx.cell 3
  have c4 := hx.cell 4
  have c5 := hx.cell 5
  simp only [List.getElem?_toArray, List.getElem?_cons_succ, List.getElem?_cons_zero] at c0 c1 c2 c3 c4 c5
  clear hx
  go_wp2
  have hF := HX.out.full [.int .u64 1, .int .i64 2, .int .i64 2, .slice (some ⟨w3.heap.size + 1, 0, none⟩) 1 1, .int .i64 0, .int .u64 0] rfl
  have hlt := H3.out.1.lt
  have hFs := frag_new (w3.alloc (.cells #[.int .i64 7, .int .u64 1, .int .i64 8, .int .u64 1, .int .i64 9, .int .u64 1] 38)) w3.heap.size (tri_new w3)
  rw [World.size_alloc] at hFs
  have hc := Ch1.sets ((w3.alloc (.cells #[.int .i64 7, .int .u64 1, .int .i64 8, .int .u64 1, .int .i64 9, .int .u64 1] 38)).alloc (.cells #[.int .u64 1, .slice (some ⟨w3.heap.size, 0, none⟩) 3 3] 70)) w.heap.size [.int .u64 1, .int .i64 2, .int .i64 2, .slice (some ⟨w3.heap.size + 1, 0, none⟩) 1 1, .int .i64 0, .int .u64 0]
  have hF2 := FsAt.ch1 hFs (fun b hb => by cases hb; show w3.heap.size + 1 ≠ w.heap.size; omega) (fun x hx b hb => by rw [List.mem_singleton] at hx; subst hx; cases hb; show w3.heap.size ≠ w.heap.size; omega) hc
  have hBl := Below.sets (Nat.le_refl _) [.int .u64 1, .int .i64 2, .int .i64 2, .slice (some ⟨w3.heap.size + 1, 0, none⟩) 1 1, .int .i64 0, .int .u64 0] ((H3.out.2.alloc H3.out.2.size (.cells #[.int .i64 7, .int .u64 1, .int .i64 8, .int .u64 1, .int .i64 9, .int .u64 1] 38)).alloc (by rw [World.size_alloc]; have := H3.out.2.size; omega) (.cells #[.int .u64 1, .slice (some ⟨w3.heap.size, 0, none⟩) 3 3] 70))
  simp only [World.setCells, Nat.reduceAdd, Nat.zero_add] at hF hF2 hBl
  refine bodyPost_ret (results_cell_row rfl _ _ w.heap.size 25 _ (0, 0) _ rfl hF Try.underlying25 rfl (by kernel_rfl)) rfl ?_
  exact ⟨w3.heap.size + 1, w3.heap.size, rfl, hF2, hBl⟩
/-- bytes of a text -/
theorem conv_bs (w : World) (l : List UInt8) (hl : l.length ≤ 100) : ∃ a c W, (convert 9 27 (.string ⟨l.toArray⟩)).run Try.prog w = .ok (.slice a l.length c) W ∧ BsAt W (.slice a l.length c) (l.map fun y => (y.toNat : Int)) ∧ Below w.heap.size w W ∧ ∀ b, ab a = some b → w.heap.size ≤ b := by
  have hs : (⟨l.toArray⟩ : ByteArray).size = l.length := by simp [ByteArray.size]
  refine ⟨some ⟨w.heap.size, 0, none⟩, grownCap w l.length 0 5, _, by rw [Lib.run_convert_string_bytes w 9 27 5 ⟨l.toArray⟩ Try.underlying9 Try.underlying27 Try.underlying5, hs], ?_, ?_, fun b hb => by cases hb; exact Nat.le_refl _⟩
  · refine ⟨_, _, by rw [List.length_map], by rw [List.length_map]; omega, by rw [List.length_map]; exact grownCap_ge _ _ _ _, (fun h => by cases h), fun _ => ⟨_, 0, rfl, by rw [Lib.bytesWorld_size]; omega, fun j x hj => ?_⟩⟩
    obtain ⟨hjl, he⟩ := List.getElem?_eq_some_iff.1 hj
    rw [List.length_map] at hjl
    rw [List.getElem_map] at he
    refine ⟨by rw [← he]; have := (l[j]).toNat_lt; omega, fun r hr => ?_⟩
    obtain rfl : r = 0 := by omega
    rw [Nat.zero_add, Nat.mul_one, Nat.add_zero, Lib.bytesWorld_cell w 5 ⟨l.toArray⟩ j (by rw [hs]; exact hjl)]
    rw [← he]
    simp [byC, List.getD, hjl]
  · exact ⟨rfl, rfl, rfl, by rw [Lib.bytesWorld_size]; omega, fun k hk => Lib.bytesWorld_at_old w 5 _ k hk⟩
def zero40 : Array Value := #[.int .i64 0, .int .u64 0, .int .i64 0, .int .i64 0, .int .u64 0, .int .u64 0, .int .u64 0, .int .u64 0, .slice none 0 0]
set_option maxRecDepth 100000 in
set_option maxHeartbeats 2000000 in
theorem says_any (code node : Int) (l : List UInt8) (hl : l.length ≤ 100) (hn : 0 ≤ node ∧ node ≤ 100) (w : World) : Calls Try.prog 17 #[.int .i64 code, .int .i64 node, .string ⟨l.toArray⟩] w fun e w' => ∃ a c, e = .returned (RsV.mk ⟨node, 1⟩ 3 code 1 2 5 0 a c (l.map fun y => (y.toNat : Int))).val ∧ (RsV.mk ⟨node, 1⟩ 3 code 1 2 5 0 a c (l.map fun y => (y.toNat : Int))).ok w' ∧ Below w.heap.size w w' := by
  have HB := Lib.hid (Go.Joins.below_alloc1 w (.cells zero40 40))
  have HBX := Lib.hid (BoxC.new w 40 zero40)
  have HP := Lib.hid (place_any node (w.alloc (.cells zero40 40)))
  have HN := Lib.hid (small_ok node hn)
  have HL := Lib.hid (show (l.map fun y => (y.toNat : Int)).length = l.length from List.length_map _)
  unfold zero40 at HBX HP
  go_enter Try.func17, Try.ntmps17
  go_wp2_with fail
  refine HP.out.mono ?_
  rintro e w1 ⟨rfl, hb1⟩
  obtain ⟨a, c, W, hrun, hbs, hbl, hba⟩ := conv_bs w1 l hl
  have hx := (HBX.out.below hb1).below hbl
  have HX := Lib.hid hx
  have HLT := Lib.hid (HBX.out.below hb1).lt
  have HBW := Lib.hid ((HB.out.trans (hb1.mono HB.out.size)).trans (hbl.mono (HB.out.trans (hb1.mono HB.out.size)).size))
  have HBA := Lib.hid (And.intro hbs hba)
  have f0 := hx.fz
  have c0 := hx.cell 0
  have c1 := hx.cell 1
  have c2 := hx.cell 2
  have c3 := hx.cell 3
  have c4 := hx.cell 4
  have c5 := hx.cell 5
  have c6 := hx.cell 6
  have c7 := hx.cell 7
  have c8 := hx.cell 8
  simp only [List.getElem?_toArray, List.getElem?_cons_succ, List.getElem?_cons_zero] at c0 c1 c2 c3 c4 c5 c6 c7 c8
  clear hx hbs hba hbl hb1 HP HB HBX hn hl
  go_wp2
  have hF := HX.out.full [.int .i64 node, .int .u64 1, .int .i64 3, .int .i64 code, .int .u64 1, .int .u64 2, .int .u64 5, .int .u64 0, .slice a l.length c] rfl
  have hc := Ch1.sets W w.heap.size [.int .i64 node, .int .u64 1, .int .i64 3, .int .i64 code, .int .u64 1, .int .u64 2, .int .u64 5, .int .u64 0, .slice a l.length c]
  have hB2 := RowAt.ch1 HBA.out.1 (fun b hb => by have := HBA.out.2 b hb; have := HLT.out; omega) hc
  have hBl := Below.sets (Nat.le_refl _) [.int .i64 node, .int .u64 1, .int .i64 3, .int .i64 code, .int .u64 1, .int .u64 2, .int .u64 5, .int .u64 0, .slice a l.length c] HBW.out
  simp only [World.setCells, Nat.reduceAdd, Nat.zero_add] at hF hB2 hBl
  refine bodyPost_ret (results_cell_row rfl _ _ w.heap.size 40 _ (0, 0) _ rfl hF Try.underlying40 rfl (by kernel_rfl)) rfl ?_
  exact ⟨a, c, by simp only [RsV.val, List.length_map], ⟨HN.out, by rw [HL.out]; exact hB2⟩, hBl⟩
end Go.Proofs.Ytpihogkhfmijcaa
