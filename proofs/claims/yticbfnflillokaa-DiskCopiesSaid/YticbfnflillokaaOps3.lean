/- Put. -/
import Derived.Test.YticbfnflillokaaOps2
namespace Go.Proofs.Yticbfnflillokaa
open Go.RowKit Go.Maps Go.WideMaps
set_option maxRecDepth 100000 in
theorem room_quiet (p : Nat) (c t : Int) (w : World) (h2 : w.cell? ⟨p, 2, none⟩ = some (.int .i64 c)) (h6 : w.cell? ⟨p, 6, none⟩ = some (.int .i64 t)) (hc : 0 ≤ c ∧ c ≤ 65536) (ht : 0 ≤ t ∧ t ≤ 65536) :
    Calls Try.prog 39 #[.pointer (some ⟨p, 0, none⟩)] w fun e w' => e = .returned (.int .i64 (c - t)) ∧ ∃ q, w' = w.drewN q := by
  go_enter Try.func39, Try.ntmps39
  go_wp2
  go_quiet (fail)
  go_wp2
  go_ret
  exact ⟨rfl, _, rfl⟩
theorem size_disk {w : World} {O I : Nat → Prop} {p n1 n2 : Nat} {d : Dk} (h : DiskRaw w O I p n1 n2 d) (k : Bs) (hk : isName k = true) : Calls Try.prog 56 #[.pointer (some ⟨p, 5, none⟩), .string ⟨k.toArray⟩] w fun e w' => e = .returned (.int .i64 (d.seen.size k : Nat)) ∧ w' = w := by
  obtain ⟨m1, m2, wv, vs, S1, S2, hP⟩ := h
  obtain ⟨M, hM, _, _, _, g0, g1, _⟩ := hP.two
  rw [← lenOf_eq g0 g1 k]
  exact size_any p 5 m2 n2 M k w (by rw [Go.Joins.cell_of_block hP.block]; rfl) hM (keyOf_name hk)
set_option maxRecDepth 100000 in
set_option maxHeartbeats 1000000 in
theorem put_any {w : World} {O I : Nat → Prop} {p N : Nat} {d : Dk} (h : DiskAt w O I p N d) (hN : N ≤ 400000) (k l : Bs) (u : Value) (hu : BytesAt w u l) (hk : k.length ≤ maxLen) :
    Calls Try.prog 19 #[.pointer (some ⟨p, 0, none⟩), .string ⟨k.toArray⟩, u] w (Does w O I p (N + 1) (d.putF k l).1 (d.putF k l).2) := by
  have HH := Lib.hid h
  have HU := Lib.hid hu
  have hul := hu.length_le
  obtain ⟨n1, n2, hr⟩ := h.raw
  have HB2 : Hid (Below w.heap.size w ((w.alloc (.cells #[.string ⟨k.toArray⟩] 9)).alloc (.cells #[.string ⟨k.toArray⟩] 9))) := Go.Joins.below_alloc2 w _ _
  have HR := Lib.hid (refuses_disk (hr.below HB2.out (Nat.le_refl _)) (w.heap.size + 1) [k] (names_one hk _ (heap_alloc2_new w _ _)) (by simp))
  have HSTILL : Hid (∀ r w', Below w.heap.size w w' → Does w O I p (N + 1) r d (.returned (.int .i64 r)) w') := fun r w' hb => Does.still h r hb
  obtain ⟨R, hR⟩ : ∃ R, R = refuse d [k] := ⟨_, rfl⟩
  have hcs := refuse_cases d [k]
  rw [← hR] at HR hcs
  obtain ⟨ua, uc, rfl, _⟩ := hu.form
  rcases hcs with h0 | h0 | h0
  · have h00 : refuse d [k] = 0 := hR.symm.trans h0
    have hnm : isName k = true := (refuse_ok h00).2 k List.mem_cons_self
    rw [h0] at HR
    have hcap := h.ok.cap
    have htot := h.ok.total
    have HQ : Hid (∀ W, Below w.heap.size w W → ∀ n, (Calls Try.prog 39 #[.pointer (some ⟨p, 0, none⟩)] (W.drewN n) fun e w' => e = .returned (.int .i64 ((d.cap : Int) - (d.seen.total : Nat))) ∧ ∃ q, w' = W.drewN q) ∧
        Calls Try.prog 56 #[.pointer (some ⟨p, 5, none⟩), .string ⟨k.toArray⟩] (W.drewN n) fun e w' => e = .returned (.int .i64 (d.seen.size k : Nat)) ∧ ∃ q, w' = W.drewN q) := fun W hb n => by
      have hrW : DiskRaw (W.drewN n) O I p n1 n2 d := (hr.below hb (Nat.le_refl _)).chg ((Chg.refl (fun _ => False) W).drewN n) fun _ h => h.elim
      refine ⟨(room_quiet p (d.cap : Nat) (d.seen.total : Nat) _ hrW.c2 hrW.c6 (by omega) (by omega)).mono ?_, (size_disk hrW k hnm).mono ?_⟩
      · rintro e w' ⟨rfl, q, rfl⟩
        exact ⟨rfl, n + q, by simp [World.drewN, Nat.add_assoc]⟩
      · rintro e w' ⟨rfl, rfl⟩
        exact ⟨rfl, n, rfl⟩
    have HBOX : Hid (∀ W, Below (W2 w k).heap.size (W2 w k) W → W.cell? ⟨w.heap.size, 0, none⟩ = some (.string ⟨k.toArray⟩) ∧ W.frozen? ⟨w.heap.size, 0, none⟩ = false) := fun W hb => by
      have hbx : W.heap[w.heap.size]? = some (.cells #[.string ⟨k.toArray⟩] 9 (0, 0)) := by rw [hb.block _ (by rw [W2.size]; omega), W2.box]
      exact ⟨by rw [Go.Joins.cell_of_block hbx]; rfl, by simp [World.frozen?, hbx]⟩
    have hsk : d.seen.size k ≤ d.seen.total := Fs.size_le (h.ok.sees ▸ doAll_ok d.waits h.ok.rises : d.seen.ok) k
    by_cases hfull : d.cap + d.seen.size k < d.seen.total + l.length
    · have hres : d.putF k l = (3, d) := by unfold Dk.putF; rw [h00, if_neg (by simp), if_pos hfull]
      rw [hres]
      clear h hu hr hR h0 h00 hres hnm
      obtain ⟨z, hz⟩ : ∃ z, d.seen.size k = z := ⟨_, rfl⟩
      rw [hz] at HQ hfull hsk
      clear hz
      go_enter Try.func19, Try.ntmps19
      go_wp2_with fail
      refine HR.out.mono ?_
      rintro e w1 ⟨rfl, hb1⟩
      have HB1 : Hid (Below (W2 w k).heap.size (W2 w k) w1) := hb1
      clear hb1
      have c1 := (HBOX.out w1 HB1.out).1
      have HQ1 := Lib.hid (HQ.out w1 (HB2.out.trans (HB1.out.mono HB2.out.size)))
      go_wp2_with fail
      go_quiet (first | exact (HQ1.out _).1 | exact (HQ1.out _).2)
      have HF : Hid (Below w.heap.size w (w1.drewN nq)) := (HB2.out.trans (HB1.out.mono HB2.out.size)).trans (⟨rfl, rfl, rfl, Nat.le_refl _, fun _ _ => rfl⟩ : Below w.heap.size w1 (w1.drewN nq))
      go_wp2
      go_ret
      exact HSTILL.out _ _ HF.out
    · have hres : d.putF k l = (0, d.add (.put k l)) := by unfold Dk.putF; rw [h00, if_neg (by simp), if_neg hfull]
      rw [hres]
      have hadd : (Ch.do (.put k l) d.seen).total ≤ d.cap := by
        have ht := Fs.total_put (h.ok.sees ▸ doAll_ok d.waits h.ok.rises : d.seen.ok) k l
        show (d.seen.put k l).total ≤ d.cap
        omega
      have hl1 : l.length ≤ 100000 := by omega
      have HCL : Hid (∀ W, Below (W2 w k).heap.size (W2 w k) W → Calls Try.prog 41 #[.slice ua l.length uc] W (Gives W l)) := fun W hb => clone_any _ l W ((HU.out.below HB2.out (Nat.le_refl _)).below hb (Nat.le_refl _)) (by omega)
      have HSC : Hid (∀ W, Calls Try.prog 40 #[.string ⟨k.toArray⟩] W fun e w' => e = .returned (.string ⟨k.toArray⟩) ∧ Below W.heap.size W w') := fun W => strClone_any k W (isName_le hnm)
      have HAW : Hid (∀ w4 v, Below (W2 w k).heap.size (W2 w k) w4 → OwnBytes (W2 w k).heap.size w4 v l → Calls Try.prog 42 #[.pointer (some ⟨p, 0, none⟩), .agg #[.func (.func 57) #[] #[.pointer (some ⟨w.heap.size, 0, none⟩), .pointer (some ⟨w4.heap.size, 0, none⟩)], .nilFunc]]
          (((w4.alloc (.cells #[.slice none 0 0] 31)).setCell ⟨w.heap.size, 0, none⟩ (.string ⟨k.toArray⟩)).setCell ⟨w4.heap.size, 0, none⟩ v) fun e w' => e = .returned (.tuple #[]) ∧ ∃ O' I', DiskAt w' O' I' p (N + 1) (d.add (.put k l)) ∧ Step w O I w' O' I') := fun w4 v hb ho => laid_disk h hN k l hb v ho false hnm hl1 hadd
      obtain ⟨z, hz⟩ : ∃ z, d.seen.size k = z := ⟨_, rfl⟩
      rw [hz] at HQ hfull hsk
      clear h hu hr hR h0 h00 hres hnm hadd hz
      go_enter Try.func19, Try.ntmps19
      go_wp2_with fail
      refine HR.out.mono ?_
      rintro e w1 ⟨rfl, hb1⟩
      have HB1 : Hid (Below (W2 w k).heap.size (W2 w k) w1) := hb1
      clear hb1
      have c1 := (HBOX.out w1 HB1.out).1
      have HQ1 := Lib.hid (HQ.out w1 (HB2.out.trans (HB1.out.mono HB2.out.size)))
      go_wp2_with fail
      go_quiet (first | exact (HQ1.out _).1 | exact (HQ1.out _).2)
      have HB3 : Hid (Below (W2 w k).heap.size (W2 w k) (w1.drewN nq)) := HB1.out.trans ((⟨rfl, rfl, rfl, Nat.le_refl _, fun _ _ => rfl⟩ : Below w1.heap.size w1 (w1.drewN nq)).mono HB1.out.size)
      generalize w1.drewN nq = w2 at HB3 ⊢
      have c2 := (HBOX.out w2 HB3.out).1
      go_wp2_with fail
      refine (HSC.out w2).mono ?_
      rintro e w3 ⟨rfl, hb3⟩
      have HB4 : Hid (Below (W2 w k).heap.size (W2 w k) w3) := HB3.out.trans (hb3.mono HB3.out.size)
      clear hb3
      go_wp2_with fail
      refine (HCL.out w3 HB4.out).mono ?_
      rintro e w4 ⟨v, rfl, ho4, hb4⟩
      have HB5 : Hid (Below (W2 w k).heap.size (W2 w k) w4) := HB4.out.trans (hb4.mono HB4.out.size)
      have HX := Lib.hid (HAW.out w4 v HB5.out (ho4.base_le HB4.out.size))
      have c4 := (HBOX.out w4 HB5.out).1
      have f4 := (HBOX.out w4 HB5.out).2
      have c4a : ∀ o, (w4.alloc o).cell? ⟨w.heap.size, 0, none⟩ = some (.string ⟨k.toArray⟩) := fun o => (HBOX.out _ (HB5.out.alloc HB5.out.size o)).1
      have f4a : ∀ o, (w4.alloc o).frozen? ⟨w.heap.size, 0, none⟩ = false := fun o => (HBOX.out _ (HB5.out.alloc HB5.out.size o)).2
      have h8 : ((w4.alloc (.cells #[.slice none 0 0] 31)).setCell ⟨w.heap.size, 0, none⟩ (.string ⟨k.toArray⟩)).heap[w4.heap.size]? = some (.cells #[.slice none 0 0] 31 (0, 0)) :=
        (Chg.one (w4.alloc (.cells #[.slice none 0 0] 31)) ⟨w.heap.size, 0, none⟩ (.string ⟨k.toArray⟩)).heap (heap_alloc_new w4 _) (fun e => by have e : w4.heap.size = w.heap.size := e; have := HB5.out.size; rw [W2.size] at this; omega)
      have c8 : ((w4.alloc (.cells #[.slice none 0 0] 31)).setCell ⟨w.heap.size, 0, none⟩ (.string ⟨k.toArray⟩)).cell? ⟨w4.heap.size, 0, none⟩ = some (.slice none 0 0) := by rw [Go.Joins.cell_of_block h8]; rfl
      have f8 : ((w4.alloc (.cells #[.slice none 0 0] 31)).setCell ⟨w.heap.size, 0, none⟩ (.string ⟨k.toArray⟩)).frozen? ⟨w4.heap.size, 0, none⟩ = false := by simp only [World.frozen?, h8]; rfl
      obtain ⟨va, vc, rfl⟩ := ho4.form
      clear ho4 hb4 h8
      go_wp2_with fail
      refine HX.out.mono ?_
      rintro e w5 ⟨rfl, hfin⟩
      have HY := Lib.hid hfin
      clear hfin
      go_wp2
      go_ret
      exact ⟨rfl, HY.out⟩
  · have hres : d.putF k l = (1, d) := by unfold Dk.putF; rw [← hR, h0, if_pos (by simp)]
    rw [hres]
    rw [h0] at HR
    clear h hu hr hR h0 hres hul
    go_enter Try.func19, Try.ntmps19
    go_wp2_with (go_at_call 38; refine HR.out.mono ?_; rintro e w1 ⟨rfl, hb⟩; have HB := Lib.hid (HB2.out.trans (hb.mono HB2.out.size)); clear hb)
    go_ret
    exact HSTILL.out _ _ HB.out
  · have hres : d.putF k l = (6, d) := by unfold Dk.putF; rw [← hR, h0, if_pos (by simp)]
    rw [hres]
    rw [h0] at HR
    clear h hu hr hR h0 hres hul
    go_enter Try.func19, Try.ntmps19
    go_wp2_with (go_at_call 38; refine HR.out.mono ?_; rintro e w1 ⟨rfl, hb⟩; have HB := Lib.hid (HB2.out.trans (hb.mono HB2.out.size)); clear hb)
    go_ret
    exact HSTILL.out _ _ HB.out
end Go.Proofs.Yticbfnflillokaa
