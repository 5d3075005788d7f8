/- The document's answer: a part's bytes. -/
import Derived.Test.YtniogemgkcoimaaRefT
namespace Go.Proofs.Ytniogemgkcoimaa
open Go.RowKit
/-- what reads as b, behind w -/
def Reads (w : World) (b : List UInt8) (e : Ending) (w' : World) : Prop := ∃ v, e = .returned v ∧ BytesAt w' v b ∧ Below w.heap.size w w'
theorem Reads.of_gives {w w1 : World} {b : List UInt8} {e : Ending} {w' : World} (h : Gives w1 b e w') (hb : Below w.heap.size w w1) : Reads w b e w' := by
  obtain ⟨v, rfl, ho, hb1⟩ := h
  exact ⟨v, rfl, ho.bytesAt, hb.trans (hb1.mono hb.size)⟩
set_option maxRecDepth 100000 in
set_option maxHeartbeats 1000000 in
theorem refBytes_any (u : Value) (q : PV) (w : World) (hb : BytesAt w u q.b) (hq : q.ok) (hsm : q.b.length ≤ 1000000) :
    Calls Try.prog 14 #[q.val u] w (Reads w q.bytes) := by
  have hk := q.k_lt
  obtain ⟨a, c, rfl, _⟩ := hb.form
  have HK : Hid (∀ wx, Calls Try.prog 19 #[q.val (.slice a q.b.length c)] wx fun e w' => e = .returned (.int .i64 (q.k : Nat)) ∧ Below wx.heap.size wx w') := fun wx => sort_any q a q.b.length c wx hq
  have HB := Lib.hid hb
  have hx := hq.x
  clear hb hq
  unfold PV.bytes
  obtain ⟨S, M, x, b⟩ := q
  dsimp only at *
  generalize hke : PV.k ⟨S, M, x, b⟩ = k at *
  have HW0 := Lib.hid (partBox_below w S M x (.slice a b.length c))
  have HCM : Hid (∀ w1, Below (partBox w S M x (.slice a b.length c)).heap.size (partBox w S M x (.slice a b.length c)) w1 → _) := fun w1 => partBox_cells w w1 S M x (.slice a b.length c)
  have cases5 : k = 0 ∨ k = 1 ∨ k = 2 ∨ k = 3 ∨ k = 4 := by omega
  clear hke hk
  rcases cases5 with rfl | rfl | rfl | rfl | rfl
  · have HF : Hid (∀ w1, Below w.heap.size w w1 → Calls Try.prog 40 #[.int .u64 (x : Nat), .int .i64 1] w1 (Reads w [UInt8.ofNat x])) := fun w1 hb => by
      have h := refWide_any x 1 w1 hx (by omega)
      rw [leF_one] at h
      exact h.mono fun e w' hg => Reads.of_gives hg hb
    clear hsm hx
    go_enter Try.func14, Try.ntmps14
    go_wp2_with (first | (go_at_call 19; refine (HK.out _).mono ?_; rintro e w1 ⟨rfl, hb⟩; have HB1 : Hid (Below w.heap.size w w1) := HW0.out.trans (hb.mono (by simp)); obtain ⟨c1, c2, c3⟩ := HCM.out w1 hb; clear hb) | (go_at_call 40; refine (HF.out _ HB1.out).mono ?_; rintro e w2 ⟨v2, rfl, hr⟩; have HN := Lib.hid hr; clear hr))
    go_ret
    exact ⟨_, rfl, HN.out⟩
  · have HF : Hid (∀ w1, Below w.heap.size w w1 → Calls Try.prog 40 #[.int .u64 (x : Nat), .int .i64 4] w1 (Reads w (le4 x))) := fun w1 hb => by
      have h := refWide_any x 4 w1 hx (by omega)
      rw [leF_four] at h
      exact h.mono fun e w' hg => Reads.of_gives hg hb
    clear hsm hx
    go_enter Try.func14, Try.ntmps14
    go_wp2_with (first | (go_at_call 19; refine (HK.out _).mono ?_; rintro e w1 ⟨rfl, hb⟩; have HB1 : Hid (Below w.heap.size w w1) := HW0.out.trans (hb.mono (by simp)); obtain ⟨c1, c2, c3⟩ := HCM.out w1 hb; clear hb) | (go_at_call 40; refine (HF.out _ HB1.out).mono ?_; rintro e w2 ⟨v2, rfl, hr⟩; have HN := Lib.hid hr; clear hr))
    go_ret
    exact ⟨_, rfl, HN.out⟩
  · have HF : Hid (∀ w1, Below w.heap.size w w1 → Calls Try.prog 41 #[.int .u64 (x : Nat)] w1 (Reads w (short x))) := fun w1 hb =>
      (refShort_any x w1 hx).mono fun e w' ⟨g, he, ho, hb1⟩ => ⟨_, he, ho.bytesAt, hb.trans (hb1.mono hb.size)⟩
    clear hsm hx
    go_enter Try.func14, Try.ntmps14
    go_wp2_with (first | (go_at_call 19; refine (HK.out _).mono ?_; rintro e w1 ⟨rfl, hb⟩; have HB1 : Hid (Below w.heap.size w w1) := HW0.out.trans (hb.mono (by simp)); obtain ⟨c1, c2, c3⟩ := HCM.out w1 hb; clear hb) | (go_at_call 41; refine (HF.out _ HB1.out).mono ?_; rintro e w2 ⟨v2, rfl, hr⟩; have HN := Lib.hid hr; clear hr))
    go_ret
    exact ⟨_, rfl, HN.out⟩
  · have HF : Hid (∀ w1, Below w.heap.size w w1 → Calls Try.prog 42 #[.string ⟨b.toArray⟩] w1 (Reads w (short b.length ++ b))) := fun w1 hb =>
      (refText_any b w1 (by omega)).mono fun e w' ⟨g, he, ho, hb1⟩ => ⟨_, he, ho, hb.trans (hb1.mono hb.size)⟩
    clear hsm hx
    go_enter Try.func14, Try.ntmps14
    go_wp2_with (first | (go_at_call 19; refine (HK.out _).mono ?_; rintro e w1 ⟨rfl, hb⟩; have HB1 : Hid (Below w.heap.size w w1) := HW0.out.trans (hb.mono (by simp)); obtain ⟨c1, c2, c3⟩ := HCM.out w1 hb; clear hb; have hs := string_bytes (HB.out.below HB1.out (Nat.le_refl _))) | (go_at_call 42; refine (HF.out _ HB1.out).mono ?_; rintro e w2 ⟨v2, rfl, hr⟩; have HN := Lib.hid hr; clear hr))
    go_ret
    exact ⟨_, rfl, HN.out⟩
  · clear hsm hx
    go_enter Try.func14, Try.ntmps14
    go_wp2_with (first | (go_at_call 19; refine (HK.out _).mono ?_; rintro e w1 ⟨rfl, hb⟩; have HB1 : Hid (Below w.heap.size w w1) := HW0.out.trans (hb.mono (by simp)); obtain ⟨c1, c2, c3⟩ := HCM.out w1 hb; clear hb))
    go_ret
    exact ⟨_, rfl, HB.out.below HB1.out (Nat.le_refl _), HB1.out⟩
end Go.Proofs.Ytniogemgkcoimaa
