/- A part of the laws: its sort; how it is asked of a reader. -/
import Derived.Test.YtniogemgkcoimaaGet4
namespace Go.Proofs.Ytniogemgkcoimaa
open Go.RowKit
/-- the value of a part, its bytes being u -/
abbrev PV.val (p : PV) (u : Value) : Value := .agg #[.int .i64 p.sort, .int .i64 p.most, .int .u64 (p.x : Nat), u]
/-- the numbers are such as Go's may be -/
structure PV.ok (p : PV) : Prop where
  sort : -9223372036854775808 ≤ p.sort ∧ p.sort ≤ 9223372036854775807
  most : -9223372036854775808 ≤ p.most ∧ p.most ≤ 9223372036854775807
  x : p.x < 18446744073709551616
set_option maxRecDepth 100000 in
theorem sort_any (p : PV) (a : Option Addr) (n c : Nat) (w : World) (hp : p.ok) :
    Calls Try.prog 19 #[p.val (.slice a n c)] w fun e w' => e = .returned (.int .i64 (p.k : Nat)) ∧ Below w.heap.size w w' := by
  obtain ⟨S, M, x, b⟩ := p
  have hs := hp.sort
  dsimp only at *
  unfold PV.k
  dsimp only
  have HS := Lib.hid hs
  clear hp hs
  have HB : Hid (Below w.heap.size w (w.alloc (.cells #[.int .i64 S, .int .i64 M, .int .u64 x, .slice a n c] 32))) := (Below.refl _ _).alloc (Nat.le_refl _) _
  have h1 : wrap64 (S.tmod 5) = S.tmod 5 := by
    have h2 := Int.tmod_lt_of_pos S (show (0:Int) < 5 by decide)
    have h3 := Int.lt_tmod_of_pos S (show (0:Int) < 5 by decide)
    unfold wrap64; omega
  obtain ⟨T, hT⟩ : ∃ T, S.tmod 5 = T := ⟨_, rfl⟩
  have hk : (0 ≤ T ∧ T = ((S % 5).toNat : Int)) ∨ (T < 0 ∧ T + 5 = ((S % 5).toNat : Int) ∧ -5 < T) := by
    have h2 := Int.tmod_lt_of_pos S (show (0:Int) < 5 by decide)
    have h3 := Int.lt_tmod_of_pos S (show (0:Int) < 5 by decide)
    have h4 := Int.mul_tdiv_add_tmod S 5
    omega
  go_enter Try.func19, Try.ntmps19
  go_wp2
  all_goals go_ret
  · have e : T + 5 = ((S % 5).toNat : Int) := by omega
    exact ⟨by rw [← e]; rfl, HB.out⟩
  · have e : T = ((S % 5).toNat : Int) := by omega
    exact ⟨by rw [← e]; rfl, HB.out⟩
theorem readPart_most {k : Nat} (h : k < 3) (m : Int) (l : List UInt8) : readPart k m l = readPart k 0 l := by
  match k, h with
  | 0, _ => rfl
  | 1, _ => rfl
  | 2, _ => rfl
theorem get_most {k : Nat} (h : k < 3) (m : Int) (s : RS) : s.get k m = s.get k 0 := by
  unfold RS.get; rw [readPart_most h]
theorem get_number {k : Nat} (h : k < 3) (m : Int) (s : RS) : (s.get k m).1.2 = [] := by
  unfold RS.get
  split
  · rfl
  · split
    · rfl
    · rename_i a t ha
      match k, h with
      | 0, _ =>
        simp only [readPart] at ha
        split at ha
        · cases ha
        · cases ha; rfl
      | 1, _ =>
        simp only [readPart] at ha
        split at ha
        · cases ha; rfl
        · cases ha
      | 2, _ =>
        simp only [readPart, Option.map_eq_some_iff] at ha
        obtain ⟨q, _, hq⟩ := ha
        cases hq; rfl
theorem get_text {k : Nat} (h : 3 ≤ k) (m : Int) (s : RS) : (s.get k m).1.1 = 0 := by
  unfold RS.get
  split
  · rfl
  · split
    · rfl
    · rename_i a t ha
      match k, h with
      | 3, _ =>
        simp only [readPart] at ha
        split at ha
        · cases ha
        · split at ha
          · cases ha; rfl
          · cases ha
      | k + 4, _ =>
        simp only [readPart] at ha
        split at ha
        · cases ha; rfl
        · cases ha
theorem ofLe_lt4 (b0 b1 b2 b3 : UInt8) : ofLe [b0, b1, b2, b3] < 4294967296 := by
  have h0 := b0.toNat_lt
  have h1 := b1.toNat_lt
  have h2 := b2.toNat_lt
  have h3 := b3.toNat_lt
  simp only [ofLe]; omega
theorem get_lt (k : Nat) (m : Int) (s : RS) : (s.get k m).1.1 < 18446744073709551616 := by
  rcases Nat.lt_or_ge k 3 with h | h
  · unfold RS.get
    split
    · exact (by decide : 0 < 18446744073709551616)
    · split
      · exact (by decide : 0 < 18446744073709551616)
      · rename_i a t ha
        match k, h with
        | 0, _ =>
          simp only [readPart] at ha
          split at ha
          · cases ha
          · rename_i b _ _
            cases ha
            have := b.toNat_lt
            show b.toNat < _
            omega
        | 1, _ =>
          simp only [readPart] at ha
          split at ha
          · rename_i h4
            cases ha
            match hl : s.l, h4 with
            | b0 :: b1 :: b2 :: b3 :: t, _ =>
              have := ofLe_lt4 b0 b1 b2 b3
              show ofLe [b0, b1, b2, b3] < _
              omega
          · cases ha
        | 2, _ =>
          simp only [readPart, Option.map_eq_some_iff] at ha
          obtain ⟨⟨y, t⟩, hq, he⟩ := ha
          cases he
          exact ((readShort_iff _ _ _).1 hq).1
  · rw [get_text h]; decide
theorem get_wrap (k : Nat) (m : Int) (s : RS) : IntKind.u64.wrap ((s.get k m).1.1 : Int) = ((s.get k m).1.1 : Int) := by
  have h := get_lt k m s
  simp [IntKind.wrap, IntKind.bits, IntKind.signed]
  omega
/-- what get leaves -/
def GetPost (p : Option Addr) (s : RS) (k : Nat) (most : Int) (w : World) (e : Ending) (w' : World) : Prop :=
  e = .returned (.tuple #[.int .u64 (((s.get k most).1.1 : Nat) : Int), .string ⟨(s.get k most).1.2.toArray⟩]) ∧ Rd w' p (s.get k most).2 ∧ Chg (at' p) w w'
set_option maxRecDepth 100000 in
set_option maxHeartbeats 1000000 in
theorem get_any (p : Option Addr) (s : RS) (q : PV) (a : Option Addr) (n c : Nat) (w : World) (hq : q.ok) (hl : s.l.length ≤ 1000000) (h : Rd w p s) :
    Calls Try.prog 18 #[.pointer p, q.val (.slice a n c)] w (GetPost p s q.k q.most w) := by
  have hk := q.k_lt
  have HQ := Lib.hid hq
  have HK : Hid (∀ wx, Calls Try.prog 19 #[q.val (.slice a n c)] wx fun e w' => e = .returned (.int .i64 (q.k : Nat)) ∧ Below wx.heap.size wx w') := fun wx => sort_any q a n c wx hq
  obtain ⟨S, M, x, b⟩ := q
  have HM : Hid (-9223372036854775808 ≤ M ∧ M ≤ 9223372036854775807) := hq.most
  generalize hke : PV.k ⟨S, M, x, b⟩ = k at *
  have H := Lib.hid h
  have HL := Lib.hid hl
  clear h hq hke hl
  dsimp only at *
  have hw0 : Below w.heap.size w (w.alloc (.cells #[.int .i64 S, .int .i64 M, .int .u64 x, .slice a n c] 32)) := (Below.refl _ _).alloc (Nat.le_refl _) _
  have HW0 := Lib.hid hw0
  have HCM : Hid (∀ w1, Below (w.alloc (.cells #[.int .i64 S, .int .i64 M, .int .u64 x, .slice a n c] 32)).heap.size (w.alloc (.cells #[.int .i64 S, .int .i64 M, .int .u64 x, .slice a n c] 32)) w1 → w1.cell? ⟨w.heap.size, 1, none⟩ = some (.int .i64 M)) := fun w1 hb => by
    rw [hb.cell (p := ⟨w.heap.size, 1, none⟩) (by simp)]; simp
  clear hw0
  have cases5 : k = 0 ∨ k = 1 ∨ k = 2 ∨ k = 3 ∨ k = 4 := by omega
  rcases cases5 with rfl | rfl | rfl | rfl | rfl
  · have hg := get_most (k := 0) (by decide) M s
    have hwr := get_wrap 0 0 s
    have ht := get_number (k := 0) (by decide) M s
    go_enter Try.func18, Try.ntmps18
    go_wp2_with (first | (go_at_call 19; refine (HK.out _).mono ?_; rintro e w1 ⟨rfl, hb⟩; have HB : Hid (Below w.heap.size w w1) := HW0.out.trans (hb.mono (by simp)); clear hb) | (go_at_call 44; refine (u8_any p s _ (H.out.below HB.out (Nat.le_refl _))).mono ?_; rintro e w2 ⟨rfl, hr, hc⟩; have HR := Lib.hid (And.intro hr ((Chg.of_below HB.out (Nat.le_refl _)).trans hc)); clear hr hc))
    go_ret2
    unfold GetPost
    rw [ht, hg]
    exact ⟨rfl, HR.out⟩
  · have hg := get_most (k := 1) (by decide) M s
    have hwr := get_wrap 1 0 s
    have ht := get_number (k := 1) (by decide) M s
    go_enter Try.func18, Try.ntmps18
    go_wp2_with (first | (go_at_call 19; refine (HK.out _).mono ?_; rintro e w1 ⟨rfl, hb⟩; have HB : Hid (Below w.heap.size w w1) := HW0.out.trans (hb.mono (by simp)); clear hb) | (go_at_call 45; refine (u32_any p s _ (H.out.below HB.out (Nat.le_refl _))).mono ?_; rintro e w2 ⟨rfl, hr, hc⟩; have HR := Lib.hid (And.intro hr ((Chg.of_below HB.out (Nat.le_refl _)).trans hc)); clear hr hc))
    go_ret2
    unfold GetPost
    rw [ht, hg]
    exact ⟨rfl, HR.out⟩
  · have hg := get_most (k := 2) (by decide) M s
    have ht := get_number (k := 2) (by decide) M s
    go_enter Try.func18, Try.ntmps18
    go_wp2_with (first | (go_at_call 19; refine (HK.out _).mono ?_; rintro e w1 ⟨rfl, hb⟩; have HB : Hid (Below w.heap.size w w1) := HW0.out.trans (hb.mono (by simp)); clear hb) | (go_at_call 31; refine (uint_any p s _ (H.out.below HB.out (Nat.le_refl _))).mono ?_; rintro e w2 ⟨rfl, hr, hc⟩; have HR := Lib.hid (And.intro hr ((Chg.of_below HB.out (Nat.le_refl _)).trans hc)); clear hr hc))
    go_ret2
    unfold GetPost
    rw [ht, hg]
    exact ⟨rfl, HR.out⟩
  · have ht := get_text (k := 3) (by decide) M s
    go_enter Try.func18, Try.ntmps18
    go_wp2_with (first | (go_at_call 19; refine (HK.out _).mono ?_; rintro e w1 ⟨rfl, hb⟩; have hb0 := hb; have HB : Hid (Below w.heap.size w w1) := HW0.out.trans (hb.mono (by simp)); clear hb; have hcm : w1.cell? ⟨w.heap.size, 1, none⟩ = some (.int .i64 M) := HCM.out w1 hb0; clear hb0) | (go_at_call 32; refine (text_m p s M _ HM.out (H.out.below HB.out (Nat.le_refl _))).mono ?_; rintro e w2 ⟨rfl, hr, hc⟩; have HR := Lib.hid (And.intro hr ((Chg.of_below HB.out (Nat.le_refl _)).trans hc)); clear hr hc))
    go_ret2
    unfold GetPost
    rw [ht]
    exact ⟨rfl, HR.out⟩
  · have ht := get_text (k := 4) (by decide) M s
    go_enter Try.func18, Try.ntmps18
    go_wp2_with (go_at_call 19; refine (HK.out _).mono ?_; rintro e w1 ⟨rfl, hb⟩; have hb0 := hb; have HB : Hid (Below w.heap.size w w1) := HW0.out.trans (hb.mono (by simp)); clear hb; have hcm : w1.cell? ⟨w.heap.size, 1, none⟩ = some (.int .i64 M) := HCM.out w1 hb0; clear hb0)
    go_region_with (go_at_call 38; refine (raw_m p s M _ HL.out ?_).mono ?_; exact (H.out.below HB.out.drew (Nat.le_refl _)); rintro e w2 ⟨⟨v, rfl, hown⟩, hr, hc⟩; have HR := Lib.hid (And.intro hr ((Chg.of_below HB.out.drew (Nat.le_refl _)).trans hc)); have hs := string_bytes hown.bytesAt; clear hr hc hown)
    all_goals go_wp2
    all_goals go_ret2
    all_goals unfold GetPost
    all_goals rw [ht]
    all_goals exact ⟨rfl, HR.out⟩
end Go.Proofs.Ytniogemgkcoimaa
