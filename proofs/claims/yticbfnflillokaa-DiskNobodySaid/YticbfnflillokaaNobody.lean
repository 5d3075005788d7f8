/- A disk that nobody made; the law DiskNobody. -/
import Derived.Test.YticbfnflillokaaAwake
namespace Go.Proofs.Yticbfnflillokaa
open Go.RowKit Go.Maps Go.WideMaps
theorem NotMade.below {w w' : World} {q : Option Addr} {B : Nat} (h : NotMade w q) (hb : Below B w w') (hB : w.heap.size ≤ B) : NotMade w' q := by
  rcases h with rfl | ⟨p, rfl, h⟩
  · exact .inl rfl
  · exact .inr ⟨p, rfl, cell_chg (S := fun _ => False) h (Chg.of_below hb hB) id (cell_lt h)⟩
theorem no_down {w : World} {q : Option Addr} (h : NotMade w q) : ∀ W, Below w.heap.size w W → Calls Try.prog 31 #[.pointer q] W fun e w' => e = .returned (.bool true) ∧ W = w' := fun W hb => down_no q W (h.below hb (Nat.le_refl _))
theorem no_refuses {w : World} {q : Option Addr} (h : NotMade w q) (v : Value) : ∀ W, Below w.heap.size w W → Calls Try.prog 38 #[.pointer q, v] W fun e w' => e = .returned (.int .i64 6) ∧ W = w' := fun W hb => refuses_down q v W (no_down h W hb)
set_option maxRecDepth 100000 in
theorem no_lacks {w : World} {q : Option Addr} (h : NotMade w q) (v : Value) : ∀ W, Below w.heap.size w W → Calls Try.prog 55 #[.pointer q, v] W fun e w' => e = .returned (.int .i64 6) ∧ W = w' := fun W hb => by
  have HR := Lib.hid (no_refuses h v W hb)
  clear h hb
  go_enter Try.func55, Try.ntmps55
  go_wp2_with (go_at_call 38; refine HR.out.mono ?_; rintro e w1 ⟨rfl, rfl⟩)
  go_ret
  exact ⟨rfl, rfl⟩
/-- what such a call answers -/
def No (w : World) (v : Value) (e : Ending) (w' : World) : Prop := e = .returned v ∧ Below w.heap.size w w'
set_option maxRecDepth 100000 in
theorem no_append {w : World} {q : Option Addr} (h : NotMade w q) (s : ByteArray) (u : Value) : Calls Try.prog 14 #[.pointer q, .string s, u] w (No w (.int .i64 6)) := by
  have HB : Hid (∀ o1 o2, Below w.heap.size w ((w.alloc o1).alloc o2)) := fun o1 o2 => Go.Joins.below_alloc2 w o1 o2
  have HR := fun v => Lib.hid (no_refuses h v)
  clear h
  go_enter Try.func14, Try.ntmps14
  go_wp2_with (go_at_call 38; refine ((HR _).out _ (HB.out _ _)).mono ?_; rintro e w1 ⟨rfl, rfl⟩)
  go_ret
  exact ⟨rfl, HB.out _ _⟩
set_option maxRecDepth 100000 in
theorem no_put {w : World} {q : Option Addr} (h : NotMade w q) (s : ByteArray) (u : Value) : Calls Try.prog 19 #[.pointer q, .string s, u] w (No w (.int .i64 6)) := by
  have HB : Hid (∀ o1 o2, Below w.heap.size w ((w.alloc o1).alloc o2)) := fun o1 o2 => Go.Joins.below_alloc2 w o1 o2
  have HR := fun v => Lib.hid (no_refuses h v)
  clear h
  go_enter Try.func19, Try.ntmps19
  go_wp2_with (go_at_call 38; refine ((HR _).out _ (HB.out _ _)).mono ?_; rintro e w1 ⟨rfl, rfl⟩)
  go_ret
  exact ⟨rfl, HB.out _ _⟩
set_option maxRecDepth 100000 in
theorem no_rename {w : World} {q : Option Addr} (h : NotMade w q) (s t : ByteArray) : Calls Try.prog 20 #[.pointer q, .string s, .string t] w (No w (.int .i64 6)) := by
  have HB : Hid (∀ o1 o2 o3, Below w.heap.size w (((w.alloc o1).alloc o2).alloc o3)) := fun o1 o2 o3 => (Go.Joins.below_alloc2 w o1 o2).alloc (by rw [World.size_alloc, World.size_alloc]; omega) o3
  have HR := fun v => Lib.hid (no_lacks h v)
  clear h
  go_enter Try.func20, Try.ntmps20
  go_wp2_with (go_at_call 55; refine ((HR _).out _ (HB.out _ _ _)).mono ?_; rintro e w1 ⟨rfl, rfl⟩)
  go_ret
  exact ⟨rfl, HB.out _ _ _⟩
set_option maxRecDepth 100000 in
theorem no_remove {w : World} {q : Option Addr} (h : NotMade w q) (s : ByteArray) : Calls Try.prog 21 #[.pointer q, .string s] w (No w (.int .i64 6)) := by
  have HB : Hid (∀ o1 o2, Below w.heap.size w ((w.alloc o1).alloc o2)) := fun o1 o2 => Go.Joins.below_alloc2 w o1 o2
  have HR := fun v => Lib.hid (no_lacks h v)
  clear h
  go_enter Try.func21, Try.ntmps21
  go_wp2_with (go_at_call 55; refine ((HR _).out _ (HB.out _ _)).mono ?_; rintro e w1 ⟨rfl, rfl⟩)
  go_ret
  exact ⟨rfl, HB.out _ _⟩
set_option maxRecDepth 100000 in
theorem no_read {w : World} {q : Option Addr} (h : NotMade w q) (s : ByteArray) : Calls Try.prog 18 #[.pointer q, .string s] w (No w (.tuple #[.slice none 0 0, .int .i64 6])) := by
  have HB : Hid (∀ o1, Below w.heap.size w (w.alloc o1)) := fun o1 => Go.Joins.below_alloc1 w o1
  have HR := fun v => Lib.hid (no_lacks h v)
  clear h
  go_enter Try.func18, Try.ntmps18
  go_wp2_with (go_at_call 55; refine ((HR _).out _ (HB.out _)).mono ?_; rintro e w1 ⟨rfl, rfl⟩)
  go_ret2
  exact ⟨rfl, HB.out _⟩
set_option maxRecDepth 100000 in
theorem no_sync {w : World} {q : Option Addr} (h : NotMade w q) : Calls Try.prog 22 #[.pointer q] w (No w (.int .i64 6)) := by
  have HD := Lib.hid (no_down h w (Below.refl _ _))
  clear h
  go_enter Try.func22, Try.ntmps22
  go_wp2_with (go_at_call 31; refine HD.out.mono ?_; rintro e w1 ⟨rfl, rfl⟩)
  go_ret
  exact ⟨rfl, Below.refl _ _⟩
set_option maxRecDepth 100000 in
theorem no_crash {w : World} {q : Option Addr} (h : NotMade w q) (a b : Int) : Calls Try.prog 23 #[.pointer q, .int .i64 a, .int .i64 b] w (No w (.int .i64 6)) := by
  have HD := Lib.hid (no_down h w (Below.refl _ _))
  clear h
  go_enter Try.func23, Try.ntmps23
  go_wp2_with (go_at_call 31; refine HD.out.mono ?_; rintro e w1 ⟨rfl, rfl⟩)
  go_ret
  exact ⟨rfl, Below.refl _ _⟩
set_option maxRecDepth 100000 in
theorem no_start {w : World} {q : Option Addr} (h : NotMade w q) : Calls Try.prog 24 #[.pointer q] w (No w (.int .i64 1)) := by
  have HD := Lib.hid (isMade_no q w h)
  clear h
  go_enter Try.func24, Try.ntmps24
  go_wp2_with (go_at_call 35; refine HD.out.mono ?_; rintro e w1 ⟨rfl, rfl⟩)
  go_ret
  exact ⟨rfl, Below.refl _ _⟩
set_option maxRecDepth 100000 in
theorem no_wipe {w : World} {q : Option Addr} (h : NotMade w q) : Calls Try.prog 15 #[.pointer q] w (No w (.tuple #[])) := by
  have HD := Lib.hid (isMade_no q w h)
  clear h
  go_enter Try.func15, Try.ntmps15
  go_wp2_with (go_at_call 35; refine HD.out.mono ?_; rintro e w1 ⟨rfl, rfl⟩)
  exact bodyPost_ret (results_none rfl _ _ _) rfl ⟨rfl, Below.refl _ _⟩
set_option maxRecDepth 100000 in
theorem no_size {w : World} {q : Option Addr} (h : NotMade w q) (s : ByteArray) : Calls Try.prog 25 #[.pointer q, .string s] w (No w (.int .i64 0)) := by
  have HD := Lib.hid (no_down h w (Below.refl _ _))
  clear h
  go_enter Try.func25, Try.ntmps25
  go_wp2_with (go_at_call 31; refine HD.out.mono ?_; rintro e w1 ⟨rfl, rfl⟩)
  go_ret
  exact ⟨rfl, Below.refl _ _⟩
set_option maxRecDepth 100000 in
theorem no_names {w : World} {q : Option Addr} (h : NotMade w q) : Calls Try.prog 26 #[.pointer q] w (No w (.slice none 0 0)) := by
  have HD := Lib.hid (no_down h w (Below.refl _ _))
  clear h
  go_enter Try.func26, Try.ntmps26
  go_wp2_with (go_at_call 31; refine HD.out.mono ?_; rintro e w1 ⟨rfl, rfl⟩)
  go_ret
  exact ⟨rfl, Below.refl _ _⟩
set_option maxRecDepth 100000 in
theorem no_bytes {w : World} {q : Option Addr} (h : NotMade w q) : Calls Try.prog 27 #[.pointer q] w (No w (.int .i64 0)) := by
  have HD := Lib.hid (no_down h w (Below.refl _ _))
  clear h
  go_enter Try.func27, Try.ntmps27
  go_wp2_with (go_at_call 31; refine HD.out.mono ?_; rintro e w1 ⟨rfl, rfl⟩)
  go_ret
  exact ⟨rfl, Below.refl _ _⟩
set_option maxRecDepth 100000 in
theorem no_waits {w : World} {q : Option Addr} (h : NotMade w q) : Calls Try.prog 28 #[.pointer q] w (No w (.int .i64 0)) := by
  have HD := Lib.hid (no_down h w (Below.refl _ _))
  clear h
  go_enter Try.func28, Try.ntmps28
  go_wp2_with (go_at_call 31; refine HD.out.mono ?_; rintro e w1 ⟨rfl, rfl⟩)
  go_ret
  exact ⟨rfl, Below.refl _ _⟩
set_option maxRecDepth 100000 in
theorem no_serial {w : World} {q : Option Addr} (h : NotMade w q) : Calls Try.prog 29 #[.pointer q] w (No w (.int .u64 0)) := by
  have HD := Lib.hid (isMade_no q w h)
  clear h
  go_enter Try.func29, Try.ntmps29
  go_wp2_with (go_at_call 35; refine HD.out.mono ?_; rintro e w1 ⟨rfl, rfl⟩)
  go_ret
  exact ⟨rfl, Below.refl _ _⟩
set_option maxRecDepth 100000 in
theorem no_capacity {w : World} {q : Option Addr} (h : NotMade w q) : Calls Try.prog 30 #[.pointer q] w (No w (.int .i64 0)) := by
  have HD := Lib.hid (isMade_no q w h)
  clear h
  go_enter Try.func30, Try.ntmps30
  go_wp2_with (go_at_call 35; refine HD.out.mono ?_; rintro e w1 ⟨rfl, rfl⟩)
  go_ret
  exact ⟨rfl, Below.refl _ _⟩
/-- the cells of an act -/
def acells (o a b : Int) (s t : ByteArray) (ua : Option Addr) (un uc : Nat) : Array Value := #[.int .i64 o, .string s, .string t, .slice ua un uc, .int .i64 a, .int .i64 b]
set_option maxRecDepth 100000 in
set_option maxHeartbeats 4000000 in
theorem nobody_any (o a b : Int) (s t : ByteArray) (ua : Option Addr) (un uc : Nat) (w : World) : Calls Try.prog 4 #[.agg (acells o a b s t ua un uc)] w fun e w' => e = .returned (.bool true) ∧ Below w.heap.size w w' := by
  unfold acells
  have HX : Hid (∀ W, Below w.heap.size w W → Calls Try.prog 10 #[] W fun e w' => e = .returned (.bool true) ∧ Below w.heap.size w w') := fun W hb => (awake_any W).mono fun e w' h => ⟨h.1, hb.trans (h.2.mono hb.size)⟩
  obtain ⟨W0, hW0⟩ : ∃ W0, W0 = ((w.alloc (.cells #[.int .i64 o, .string s, .string t, .slice ua un uc, .int .i64 a, .int .i64 b] 33)).alloc (.cells #[.map none, .int .i64 0, .int .i64 0, .int .u64 0, .bool false, .map none, .int .i64 0, .slice none 0 0, .pointer none] 47)).alloc (.cells #[.pointer none, .pointer (some ⟨w.heap.size + 1, 0, none⟩)] 25) := ⟨_, rfl⟩
  have hz : W0.heap.size = w.heap.size + 3 := by rw [hW0, World.size_alloc, World.size_alloc, World.size_alloc]
  have hx0 : W0.heap[w.heap.size]? = some (.cells #[.int .i64 o, .string s, .string t, .slice ua un uc, .int .i64 a, .int .i64 b] 33 (0, 0)) := by
    rw [hW0, heap_alloc_old (h := by rw [World.size_alloc, World.size_alloc]; omega), heap_alloc_old (h := by rw [World.size_alloc]; omega), heap_alloc_new]
  have hx1 : W0.heap[w.heap.size + 1]? = some (.cells #[.map none, .int .i64 0, .int .i64 0, .int .u64 0, .bool false, .map none, .int .i64 0, .slice none 0 0, .pointer none] 47 (0, 0)) := by
    rw [hW0, heap_alloc_old (h := by rw [World.size_alloc, World.size_alloc]; omega), heap_alloc2_new]
  have hx2 : W0.heap[w.heap.size + 2]? = some (.cells #[.pointer none, .pointer (some ⟨w.heap.size + 1, 0, none⟩)] 25 (0, 0)) := by
    have h := heap_alloc_new ((w.alloc (.cells #[.int .i64 o, .string s, .string t, .slice ua un uc, .int .i64 a, .int .i64 b] 33)).alloc (.cells #[.map none, .int .i64 0, .int .i64 0, .int .u64 0, .bool false, .map none, .int .i64 0, .slice none 0 0, .pointer none] 47)) (.cells #[.pointer none, .pointer (some ⟨w.heap.size + 1, 0, none⟩)] 25)
    rw [World.size_alloc, World.size_alloc, ← hW0] at h
    exact h
  have HB0 : Hid (Below w.heap.size w W0) := by rw [hW0]; exact (Go.Joins.below_alloc2 w _ _).alloc (by rw [World.size_alloc, World.size_alloc]; omega) _
  have HF : Hid (∀ W, Below W0.heap.size W0 W → (W.heap[w.heap.size]? = some (.cells #[.int .i64 o, .string s, .string t, .slice ua un uc, .int .i64 a, .int .i64 b] 33 (0, 0)) ∧ W.heap[w.heap.size + 2]? = some (.cells #[.pointer none, .pointer (some ⟨w.heap.size + 1, 0, none⟩)] 25 (0, 0))) ∧ NotMade W none ∧ NotMade W (some ⟨w.heap.size + 1, 0, none⟩)) := fun W hb => by
    refine ⟨⟨?_, ?_⟩, .inl rfl, .inr ⟨_, rfl, ?_⟩⟩
    · rw [hb.block _ (by omega)]; exact hx0
    · rw [hb.block _ (by omega)]; exact hx2
    · have h1 := hx1
      rw [← hb.block _ (by omega)] at h1
      rw [Go.Joins.cell_of_block h1]; rfl
  clear hx0 hx1 hx2
  go_enter Try.func4, Try.ntmps4
  go_wp2
  rw [← hW0]
  clear hW0
  go_loopw [5] (fun i wr => ∃ j : Nat, j ≤ 2 ∧ i = .int .i64 (j : Nat) ∧ Hid (Below W0.heap.size W0 wr)) (fun i _ => 2 - (intOf i).toNat)
  case atStart => exact ⟨0, by omega, rfl, Below.refl _ _⟩
  case round =>
    obtain ⟨j, hj, rfl, HR⟩ := hrel
    by_cases hlt : j < 2
    · obtain ⟨q, hq, hnm⟩ : ∃ q, wr.cell? ⟨w.heap.size + 1 + 1, j, none⟩ = some (.pointer q) ∧ ∀ W, Below W0.heap.size W0 W → NotMade W q := by
        have h := HF.out wr HR.out
        have hj2 : j = 0 ∨ j = 1 := by omega
        rcases hj2 with rfl | rfl
        · exact ⟨none, by rw [Go.Joins.cell_of_block h.1.2]; rfl, fun W hb => (HF.out W hb).2.1⟩
        · exact ⟨some ⟨w.heap.size + 1, 0, none⟩, by rw [Go.Joins.cell_of_block h.1.2]; rfl, fun W hb => (HF.out W hb).2.2⟩
      have HN := Lib.hid hnm
      clear hnm
      have c1 : wr.cell? ⟨w.heap.size, 1, none⟩ = some (.string s) := by rw [Go.Joins.cell_of_block (HF.out wr HR.out).1.1]; rfl
      have c2 : wr.cell? ⟨w.heap.size, 2, none⟩ = some (.string t) := by rw [Go.Joins.cell_of_block (HF.out wr HR.out).1.1]; rfl
      have c3 : wr.cell? ⟨w.heap.size, 3, none⟩ = some (.slice ua un uc) := by rw [Go.Joins.cell_of_block (HF.out wr HR.out).1.1]; rfl
      have c4 : wr.cell? ⟨w.heap.size, 4, none⟩ = some (.int .i64 a) := by rw [Go.Joins.cell_of_block (HF.out wr HR.out).1.1]; rfl
      have c5 : wr.cell? ⟨w.heap.size, 5, none⟩ = some (.int .i64 b) := by rw [Go.Joins.cell_of_block (HF.out wr HR.out).1.1]; rfl
      go_wp2_with fail
      refine (no_read (HN.out wr HR.out) s).mono ?_
      rintro e v0 ⟨rfl, hb⟩
      have HV0 : Hid (Below W0.heap.size W0 v0) := HR.out.trans (hb.mono HR.out.size)
      clear hb c1 c2 c3 c4 c5 hq
      have c1 : v0.cell? ⟨w.heap.size, 1, none⟩ = some (.string s) := by rw [Go.Joins.cell_of_block (HF.out v0 HV0.out).1.1]; rfl
      have c2 : v0.cell? ⟨w.heap.size, 2, none⟩ = some (.string t) := by rw [Go.Joins.cell_of_block (HF.out v0 HV0.out).1.1]; rfl
      have c3 : v0.cell? ⟨w.heap.size, 3, none⟩ = some (.slice ua un uc) := by rw [Go.Joins.cell_of_block (HF.out v0 HV0.out).1.1]; rfl
      have c4 : v0.cell? ⟨w.heap.size, 4, none⟩ = some (.int .i64 a) := by rw [Go.Joins.cell_of_block (HF.out v0 HV0.out).1.1]; rfl
      have c5 : v0.cell? ⟨w.heap.size, 5, none⟩ = some (.int .i64 b) := by rw [Go.Joins.cell_of_block (HF.out v0 HV0.out).1.1]; rfl
      go_wp2_with fail
      refine (no_append (HN.out v0 HV0.out) s (.slice ua un uc)).mono ?_
      rintro e v1 ⟨rfl, hb⟩
      have HV1 : Hid (Below W0.heap.size W0 v1) := HV0.out.trans (hb.mono HV0.out.size)
      clear hb c1 c2 c3 c4 c5
      have c1 : v1.cell? ⟨w.heap.size, 1, none⟩ = some (.string s) := by rw [Go.Joins.cell_of_block (HF.out v1 HV1.out).1.1]; rfl
      have c2 : v1.cell? ⟨w.heap.size, 2, none⟩ = some (.string t) := by rw [Go.Joins.cell_of_block (HF.out v1 HV1.out).1.1]; rfl
      have c3 : v1.cell? ⟨w.heap.size, 3, none⟩ = some (.slice ua un uc) := by rw [Go.Joins.cell_of_block (HF.out v1 HV1.out).1.1]; rfl
      have c4 : v1.cell? ⟨w.heap.size, 4, none⟩ = some (.int .i64 a) := by rw [Go.Joins.cell_of_block (HF.out v1 HV1.out).1.1]; rfl
      have c5 : v1.cell? ⟨w.heap.size, 5, none⟩ = some (.int .i64 b) := by rw [Go.Joins.cell_of_block (HF.out v1 HV1.out).1.1]; rfl
      go_wp2_with fail
      refine (no_put (HN.out v1 HV1.out) s (.slice ua un uc)).mono ?_
      rintro e v2 ⟨rfl, hb⟩
      have HV2 : Hid (Below W0.heap.size W0 v2) := HV1.out.trans (hb.mono HV1.out.size)
      clear hb c1 c2 c3 c4 c5
      have c1 : v2.cell? ⟨w.heap.size, 1, none⟩ = some (.string s) := by rw [Go.Joins.cell_of_block (HF.out v2 HV2.out).1.1]; rfl
      have c2 : v2.cell? ⟨w.heap.size, 2, none⟩ = some (.string t) := by rw [Go.Joins.cell_of_block (HF.out v2 HV2.out).1.1]; rfl
      have c3 : v2.cell? ⟨w.heap.size, 3, none⟩ = some (.slice ua un uc) := by rw [Go.Joins.cell_of_block (HF.out v2 HV2.out).1.1]; rfl
      have c4 : v2.cell? ⟨w.heap.size, 4, none⟩ = some (.int .i64 a) := by rw [Go.Joins.cell_of_block (HF.out v2 HV2.out).1.1]; rfl
      have c5 : v2.cell? ⟨w.heap.size, 5, none⟩ = some (.int .i64 b) := by rw [Go.Joins.cell_of_block (HF.out v2 HV2.out).1.1]; rfl
      go_wp2_with fail
      refine (no_rename (HN.out v2 HV2.out) s t).mono ?_
      rintro e v3 ⟨rfl, hb⟩
      have HV3 : Hid (Below W0.heap.size W0 v3) := HV2.out.trans (hb.mono HV2.out.size)
      clear hb c1 c2 c3 c4 c5
      have c1 : v3.cell? ⟨w.heap.size, 1, none⟩ = some (.string s) := by rw [Go.Joins.cell_of_block (HF.out v3 HV3.out).1.1]; rfl
      have c2 : v3.cell? ⟨w.heap.size, 2, none⟩ = some (.string t) := by rw [Go.Joins.cell_of_block (HF.out v3 HV3.out).1.1]; rfl
      have c3 : v3.cell? ⟨w.heap.size, 3, none⟩ = some (.slice ua un uc) := by rw [Go.Joins.cell_of_block (HF.out v3 HV3.out).1.1]; rfl
      have c4 : v3.cell? ⟨w.heap.size, 4, none⟩ = some (.int .i64 a) := by rw [Go.Joins.cell_of_block (HF.out v3 HV3.out).1.1]; rfl
      have c5 : v3.cell? ⟨w.heap.size, 5, none⟩ = some (.int .i64 b) := by rw [Go.Joins.cell_of_block (HF.out v3 HV3.out).1.1]; rfl
      go_wp2_with fail
      refine (no_remove (HN.out v3 HV3.out) s).mono ?_
      rintro e v4 ⟨rfl, hb⟩
      have HV4 : Hid (Below W0.heap.size W0 v4) := HV3.out.trans (hb.mono HV3.out.size)
      clear hb c1 c2 c3 c4 c5
      have c1 : v4.cell? ⟨w.heap.size, 1, none⟩ = some (.string s) := by rw [Go.Joins.cell_of_block (HF.out v4 HV4.out).1.1]; rfl
      have c2 : v4.cell? ⟨w.heap.size, 2, none⟩ = some (.string t) := by rw [Go.Joins.cell_of_block (HF.out v4 HV4.out).1.1]; rfl
      have c3 : v4.cell? ⟨w.heap.size, 3, none⟩ = some (.slice ua un uc) := by rw [Go.Joins.cell_of_block (HF.out v4 HV4.out).1.1]; rfl
      have c4 : v4.cell? ⟨w.heap.size, 4, none⟩ = some (.int .i64 a) := by rw [Go.Joins.cell_of_block (HF.out v4 HV4.out).1.1]; rfl
      have c5 : v4.cell? ⟨w.heap.size, 5, none⟩ = some (.int .i64 b) := by rw [Go.Joins.cell_of_block (HF.out v4 HV4.out).1.1]; rfl
      go_wp2_with fail
      refine (no_sync (HN.out v4 HV4.out)).mono ?_
      rintro e v5 ⟨rfl, hb⟩
      have HV5 : Hid (Below W0.heap.size W0 v5) := HV4.out.trans (hb.mono HV4.out.size)
      clear hb c1 c2 c3 c4 c5
      have c1 : v5.cell? ⟨w.heap.size, 1, none⟩ = some (.string s) := by rw [Go.Joins.cell_of_block (HF.out v5 HV5.out).1.1]; rfl
      have c2 : v5.cell? ⟨w.heap.size, 2, none⟩ = some (.string t) := by rw [Go.Joins.cell_of_block (HF.out v5 HV5.out).1.1]; rfl
      have c3 : v5.cell? ⟨w.heap.size, 3, none⟩ = some (.slice ua un uc) := by rw [Go.Joins.cell_of_block (HF.out v5 HV5.out).1.1]; rfl
      have c4 : v5.cell? ⟨w.heap.size, 4, none⟩ = some (.int .i64 a) := by rw [Go.Joins.cell_of_block (HF.out v5 HV5.out).1.1]; rfl
      have c5 : v5.cell? ⟨w.heap.size, 5, none⟩ = some (.int .i64 b) := by rw [Go.Joins.cell_of_block (HF.out v5 HV5.out).1.1]; rfl
      go_wp2_with fail
      refine (no_crash (HN.out v5 HV5.out) a b).mono ?_
      rintro e v6 ⟨rfl, hb⟩
      have HV6 : Hid (Below W0.heap.size W0 v6) := HV5.out.trans (hb.mono HV5.out.size)
      clear hb c1 c2 c3 c4 c5
      have c1 : v6.cell? ⟨w.heap.size, 1, none⟩ = some (.string s) := by rw [Go.Joins.cell_of_block (HF.out v6 HV6.out).1.1]; rfl
      have c2 : v6.cell? ⟨w.heap.size, 2, none⟩ = some (.string t) := by rw [Go.Joins.cell_of_block (HF.out v6 HV6.out).1.1]; rfl
      have c3 : v6.cell? ⟨w.heap.size, 3, none⟩ = some (.slice ua un uc) := by rw [Go.Joins.cell_of_block (HF.out v6 HV6.out).1.1]; rfl
      have c4 : v6.cell? ⟨w.heap.size, 4, none⟩ = some (.int .i64 a) := by rw [Go.Joins.cell_of_block (HF.out v6 HV6.out).1.1]; rfl
      have c5 : v6.cell? ⟨w.heap.size, 5, none⟩ = some (.int .i64 b) := by rw [Go.Joins.cell_of_block (HF.out v6 HV6.out).1.1]; rfl
      go_wp2_with fail
      refine (no_start (HN.out v6 HV6.out)).mono ?_
      rintro e v7 ⟨rfl, hb⟩
      have HV7 : Hid (Below W0.heap.size W0 v7) := HV6.out.trans (hb.mono HV6.out.size)
      clear hb c1 c2 c3 c4 c5
      have c1 : v7.cell? ⟨w.heap.size, 1, none⟩ = some (.string s) := by rw [Go.Joins.cell_of_block (HF.out v7 HV7.out).1.1]; rfl
      have c2 : v7.cell? ⟨w.heap.size, 2, none⟩ = some (.string t) := by rw [Go.Joins.cell_of_block (HF.out v7 HV7.out).1.1]; rfl
      have c3 : v7.cell? ⟨w.heap.size, 3, none⟩ = some (.slice ua un uc) := by rw [Go.Joins.cell_of_block (HF.out v7 HV7.out).1.1]; rfl
      have c4 : v7.cell? ⟨w.heap.size, 4, none⟩ = some (.int .i64 a) := by rw [Go.Joins.cell_of_block (HF.out v7 HV7.out).1.1]; rfl
      have c5 : v7.cell? ⟨w.heap.size, 5, none⟩ = some (.int .i64 b) := by rw [Go.Joins.cell_of_block (HF.out v7 HV7.out).1.1]; rfl
      go_wp2_with fail
      refine (no_wipe (HN.out v7 HV7.out)).mono ?_
      rintro e v8 ⟨rfl, hb⟩
      have HV8 : Hid (Below W0.heap.size W0 v8) := HV7.out.trans (hb.mono HV7.out.size)
      clear hb c1 c2 c3 c4 c5
      have c1 : v8.cell? ⟨w.heap.size, 1, none⟩ = some (.string s) := by rw [Go.Joins.cell_of_block (HF.out v8 HV8.out).1.1]; rfl
      have c2 : v8.cell? ⟨w.heap.size, 2, none⟩ = some (.string t) := by rw [Go.Joins.cell_of_block (HF.out v8 HV8.out).1.1]; rfl
      have c3 : v8.cell? ⟨w.heap.size, 3, none⟩ = some (.slice ua un uc) := by rw [Go.Joins.cell_of_block (HF.out v8 HV8.out).1.1]; rfl
      have c4 : v8.cell? ⟨w.heap.size, 4, none⟩ = some (.int .i64 a) := by rw [Go.Joins.cell_of_block (HF.out v8 HV8.out).1.1]; rfl
      have c5 : v8.cell? ⟨w.heap.size, 5, none⟩ = some (.int .i64 b) := by rw [Go.Joins.cell_of_block (HF.out v8 HV8.out).1.1]; rfl
      go_wp2_with fail
      refine (no_size (HN.out v8 HV8.out) s).mono ?_
      rintro e v9 ⟨rfl, hb⟩
      have HV9 : Hid (Below W0.heap.size W0 v9) := HV8.out.trans (hb.mono HV8.out.size)
      clear hb c1 c2 c3 c4 c5
      have c1 : v9.cell? ⟨w.heap.size, 1, none⟩ = some (.string s) := by rw [Go.Joins.cell_of_block (HF.out v9 HV9.out).1.1]; rfl
      have c2 : v9.cell? ⟨w.heap.size, 2, none⟩ = some (.string t) := by rw [Go.Joins.cell_of_block (HF.out v9 HV9.out).1.1]; rfl
      have c3 : v9.cell? ⟨w.heap.size, 3, none⟩ = some (.slice ua un uc) := by rw [Go.Joins.cell_of_block (HF.out v9 HV9.out).1.1]; rfl
      have c4 : v9.cell? ⟨w.heap.size, 4, none⟩ = some (.int .i64 a) := by rw [Go.Joins.cell_of_block (HF.out v9 HV9.out).1.1]; rfl
      have c5 : v9.cell? ⟨w.heap.size, 5, none⟩ = some (.int .i64 b) := by rw [Go.Joins.cell_of_block (HF.out v9 HV9.out).1.1]; rfl
      go_wp2_with fail
      refine (no_names (HN.out v9 HV9.out)).mono ?_
      rintro e v10 ⟨rfl, hb⟩
      have HV10 : Hid (Below W0.heap.size W0 v10) := HV9.out.trans (hb.mono HV9.out.size)
      clear hb c1 c2 c3 c4 c5
      have c1 : v10.cell? ⟨w.heap.size, 1, none⟩ = some (.string s) := by rw [Go.Joins.cell_of_block (HF.out v10 HV10.out).1.1]; rfl
      have c2 : v10.cell? ⟨w.heap.size, 2, none⟩ = some (.string t) := by rw [Go.Joins.cell_of_block (HF.out v10 HV10.out).1.1]; rfl
      have c3 : v10.cell? ⟨w.heap.size, 3, none⟩ = some (.slice ua un uc) := by rw [Go.Joins.cell_of_block (HF.out v10 HV10.out).1.1]; rfl
      have c4 : v10.cell? ⟨w.heap.size, 4, none⟩ = some (.int .i64 a) := by rw [Go.Joins.cell_of_block (HF.out v10 HV10.out).1.1]; rfl
      have c5 : v10.cell? ⟨w.heap.size, 5, none⟩ = some (.int .i64 b) := by rw [Go.Joins.cell_of_block (HF.out v10 HV10.out).1.1]; rfl
      go_wp2_with fail
      refine (no_bytes (HN.out v10 HV10.out)).mono ?_
      rintro e v11 ⟨rfl, hb⟩
      have HV11 : Hid (Below W0.heap.size W0 v11) := HV10.out.trans (hb.mono HV10.out.size)
      clear hb c1 c2 c3 c4 c5
      have c1 : v11.cell? ⟨w.heap.size, 1, none⟩ = some (.string s) := by rw [Go.Joins.cell_of_block (HF.out v11 HV11.out).1.1]; rfl
      have c2 : v11.cell? ⟨w.heap.size, 2, none⟩ = some (.string t) := by rw [Go.Joins.cell_of_block (HF.out v11 HV11.out).1.1]; rfl
      have c3 : v11.cell? ⟨w.heap.size, 3, none⟩ = some (.slice ua un uc) := by rw [Go.Joins.cell_of_block (HF.out v11 HV11.out).1.1]; rfl
      have c4 : v11.cell? ⟨w.heap.size, 4, none⟩ = some (.int .i64 a) := by rw [Go.Joins.cell_of_block (HF.out v11 HV11.out).1.1]; rfl
      have c5 : v11.cell? ⟨w.heap.size, 5, none⟩ = some (.int .i64 b) := by rw [Go.Joins.cell_of_block (HF.out v11 HV11.out).1.1]; rfl
      go_wp2_with fail
      refine (no_waits (HN.out v11 HV11.out)).mono ?_
      rintro e v12 ⟨rfl, hb⟩
      have HV12 : Hid (Below W0.heap.size W0 v12) := HV11.out.trans (hb.mono HV11.out.size)
      clear hb c1 c2 c3 c4 c5
      have c1 : v12.cell? ⟨w.heap.size, 1, none⟩ = some (.string s) := by rw [Go.Joins.cell_of_block (HF.out v12 HV12.out).1.1]; rfl
      have c2 : v12.cell? ⟨w.heap.size, 2, none⟩ = some (.string t) := by rw [Go.Joins.cell_of_block (HF.out v12 HV12.out).1.1]; rfl
      have c3 : v12.cell? ⟨w.heap.size, 3, none⟩ = some (.slice ua un uc) := by rw [Go.Joins.cell_of_block (HF.out v12 HV12.out).1.1]; rfl
      have c4 : v12.cell? ⟨w.heap.size, 4, none⟩ = some (.int .i64 a) := by rw [Go.Joins.cell_of_block (HF.out v12 HV12.out).1.1]; rfl
      have c5 : v12.cell? ⟨w.heap.size, 5, none⟩ = some (.int .i64 b) := by rw [Go.Joins.cell_of_block (HF.out v12 HV12.out).1.1]; rfl
      go_wp2_with fail
      refine (no_serial (HN.out v12 HV12.out)).mono ?_
      rintro e v13 ⟨rfl, hb⟩
      have HV13 : Hid (Below W0.heap.size W0 v13) := HV12.out.trans (hb.mono HV12.out.size)
      clear hb c1 c2 c3 c4 c5
      have c1 : v13.cell? ⟨w.heap.size, 1, none⟩ = some (.string s) := by rw [Go.Joins.cell_of_block (HF.out v13 HV13.out).1.1]; rfl
      have c2 : v13.cell? ⟨w.heap.size, 2, none⟩ = some (.string t) := by rw [Go.Joins.cell_of_block (HF.out v13 HV13.out).1.1]; rfl
      have c3 : v13.cell? ⟨w.heap.size, 3, none⟩ = some (.slice ua un uc) := by rw [Go.Joins.cell_of_block (HF.out v13 HV13.out).1.1]; rfl
      have c4 : v13.cell? ⟨w.heap.size, 4, none⟩ = some (.int .i64 a) := by rw [Go.Joins.cell_of_block (HF.out v13 HV13.out).1.1]; rfl
      have c5 : v13.cell? ⟨w.heap.size, 5, none⟩ = some (.int .i64 b) := by rw [Go.Joins.cell_of_block (HF.out v13 HV13.out).1.1]; rfl
      go_wp2_with fail
      refine (no_capacity (HN.out v13 HV13.out)).mono ?_
      rintro e v14 ⟨rfl, hb⟩
      have HV14 : Hid (Below W0.heap.size W0 v14) := HV13.out.trans (hb.mono HV13.out.size)
      clear hb c1 c2 c3 c4 c5
      have c1 : v14.cell? ⟨w.heap.size, 1, none⟩ = some (.string s) := by rw [Go.Joins.cell_of_block (HF.out v14 HV14.out).1.1]; rfl
      have c2 : v14.cell? ⟨w.heap.size, 2, none⟩ = some (.string t) := by rw [Go.Joins.cell_of_block (HF.out v14 HV14.out).1.1]; rfl
      have c3 : v14.cell? ⟨w.heap.size, 3, none⟩ = some (.slice ua un uc) := by rw [Go.Joins.cell_of_block (HF.out v14 HV14.out).1.1]; rfl
      have c4 : v14.cell? ⟨w.heap.size, 4, none⟩ = some (.int .i64 a) := by rw [Go.Joins.cell_of_block (HF.out v14 HV14.out).1.1]; rfl
      have c5 : v14.cell? ⟨w.heap.size, 5, none⟩ = some (.int .i64 b) := by rw [Go.Joins.cell_of_block (HF.out v14 HV14.out).1.1]; rfl
      go_wp2_with fail
      refine (down_no q v14 (HN.out v14 HV14.out)).mono ?_
      rintro e vd ⟨rfl, rfl⟩
      go_wp2_with fail
      refine (copy_no q v14 (HN.out v14 HV14.out)).mono ?_
      rintro e vc ⟨rfl, rfl⟩
      go_wp2
      go_roundw
      case rel => exact ⟨j + 1, by omega, by go_num, HV14.out⟩
      case measure => simp [intOf]; omega
    · obtain rfl : j = 2 := by omega
      go_wp2_with (go_at_call 10; refine (HX.out _ (HB0.out.trans (HR.out.mono HB0.out.size))).mono ?_; rintro e w9 ⟨rfl, hb⟩; have HBE := Lib.hid hb; clear hb)
      go_ret
      exact ⟨rfl, HBE.out⟩
end Go.Proofs.Yticbfnflillokaa
