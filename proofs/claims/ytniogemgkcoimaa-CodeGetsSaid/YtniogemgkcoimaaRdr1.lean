/- The document's reader: its block; so many bytes. -/
import Derived.Test.YtniogemgkcoimaaRefT
namespace Go.Proofs.Ytniogemgkcoimaa
open Go.RowKit
def RefIn (w : World) (h : Nat) (v : Value) (bad : Bool) : Prop := w.heap[h]? = some (.cells #[v, .bool bad] 41 (0, 0))
/-- the document's reader at block h stands so -/
def RefAt (w : World) (h : Nat) (s : RS) : Prop := ∃ v, RefIn w h v s.bad ∧ BytesAt w v s.l
theorem RefIn.cell0 {w : World} {g : Nat} {v : Value} {bad : Bool} (h : RefIn w g v bad) : w.cell? ⟨g, 0, none⟩ = some v := by simp [World.cell?, show w.heap[g]? = _ from h]
theorem RefIn.cell1 {w : World} {g : Nat} {v : Value} {bad : Bool} (h : RefIn w g v bad) : w.cell? ⟨g, 1, none⟩ = some (.bool bad) := by simp [World.cell?, show w.heap[g]? = _ from h]
theorem RefIn.free {w : World} {g : Nat} {v : Value} {bad : Bool} (h : RefIn w g v bad) (i : Nat) : w.frozen? ⟨g, i, none⟩ = false := by simp [World.frozen?, show w.heap[g]? = _ from h]
theorem RefIn.lt {w : World} {g : Nat} {v : Value} {bad : Bool} (h : RefIn w g v bad) : g < w.heap.size := lt_of_block h
theorem RefIn.set0 {w : World} {g : Nat} {v : Value} {bad : Bool} (h : RefIn w g v bad) (u : Value) : RefIn (w.setCell ⟨g, 0, none⟩ u) g u bad := by
  have := Go.Joins.block_setCell (i := 0) h u
  exact this
theorem RefIn.set1 {w : World} {g : Nat} {v : Value} {bad : Bool} (h : RefIn w g v bad) (b : Bool) : RefIn (w.setCell ⟨g, 1, none⟩ (.bool b)) g v b := by
  have := Go.Joins.block_setCell (i := 1) h (.bool b)
  exact this
theorem RefIn.nb {w : World} {g : Nat} {a : Option Addr} {n c : Nat} {bad : Bool} (h : RefIn w g (.slice a n c) bad) : NB w g := by
  intro j m hc
  rw [Go.Joins.cell_of_block h] at hc
  match j with
  | 0 => simp at hc
  | 1 => simp at hc
  | j + 2 => simp at hc
theorem RefAt.nb {w : World} {g : Nat} {s : RS} (h : RefAt w g s) : NB w g := by
  obtain ⟨v, hi, hb⟩ := h
  obtain ⟨a, c, rfl, _⟩ := hb.form
  exact hi.nb
theorem RefAt.lt {w : World} {g : Nat} {s : RS} (h : RefAt w g s) : g < w.heap.size := by obtain ⟨v, hi, _⟩ := h; exact hi.lt
theorem RefAt.chg {w w' : World} {g : Nat} {s : RS} {S : List Nat} (h : RefAt w g s) (hc : Chg S w w') (hg : g ∉ S) (hs : ∀ k ∈ S, NB w k) : RefAt w' g s := by
  obtain ⟨v, hi, hb⟩ := h
  exact ⟨v, hc.heap hi hg, hb.chg hc hs⟩
theorem RefAt.below {w w' : World} {B : Nat} {g : Nat} {s : RS} (h : RefAt w g s) (hb : Below B w w') (hB : w.heap.size ≤ B) : RefAt w' g s :=
  h.chg (Chg.of_below (S := []) hb hB) (by simp) (by simp)
theorem OwnBytes.form3 {base : Nat} {w : World} {v : Value} {l : List UInt8} (h : OwnBytes base w v l) : ∃ a n c, v = .slice a n c := by
  obtain ⟨a, c, h⟩ := h.form; exact ⟨a, _, c, h⟩
/-- the fault is laid down -/
theorem RefIn.fault {w : World} {g : Nat} {v : Value} {bad : Bool} {l : List UInt8} (hi : RefIn w g v bad) (hb : BytesAt w v l) : RefAt (w.setCell ⟨g, 1, none⟩ (.bool true)) g ⟨l, true⟩ ∧ Chg [g] w (w.setCell ⟨g, 1, none⟩ (.bool true)) := by
  have hc : Chg [g] w (w.setCell ⟨g, 1, none⟩ (.bool true)) := (Chg.refl _ _).setCell (.inl (by simp)) _
  obtain ⟨a, c, rfl, _⟩ := hb.form
  exact ⟨⟨_, hi.set1 true, hb.chg hc fun k hk => by rw [List.mem_singleton.1 hk]; exact hi.nb⟩, hc⟩
/-- the first so many, by a slice that has the room behind -/
theorem BytesAt.first {w : World} {a : Option Addr} {len cap n : Nat} {l : List UInt8} (h : BytesAt w (.slice a len cap) l) (hn : n ≤ l.length) : BytesAt w (.slice a n cap) (l.take n) := by
  have hlt : (l.take n).length = n := by simp; omega
  rcases h with ⟨h1, rfl⟩ | ⟨ad, cap', h1, hl, hc⟩
  · cases h1
    obtain rfl : n = 0 := by simpa using hn
    exact .inl ⟨rfl, rfl⟩
  · cases h1
    refine .inr ⟨ad, cap, by rw [hlt], ⟨by omega, by omega⟩, fun h => ?_⟩
    obtain ⟨b, off, rfl, hb, hc⟩ := hc (by omega)
    exact ⟨b, off, rfl, hb, fun j hj => by rw [getD_take _ _ _ (by omega)]; exact hc j (by omega)⟩
theorem rRaw_no (g : Nat) (n : Int) (s : RS) (w : World) (hr : RefAt w g s) (hl : s.l.length ≤ 1000000) (hn : n < 0 ∨ (s.l.length : Int) < n ∨ s.bad = true) :
    Calls Try.prog 23 #[.pointer (some ⟨g, 0, none⟩), .int .i64 n] w fun e w' => e = .returned (.slice none 0 0) ∧ RefAt w' g ⟨s.l, true⟩ ∧ Chg [g] w w' := by
  obtain ⟨v, hi, hb⟩ := hr
  have HF := Lib.hid (hi.fault hb)
  obtain ⟨a, cap, rfl, _⟩ := hb.form
  have c0 := hi.cell0
  have c1 := hi.cell1
  have f1 := hi.free 1
  obtain ⟨l, bad⟩ := s
  dsimp only at *
  generalize l.length = L at *
  clear hi hb
  by_cases h1 : n < 0
  · clear hn
    go_enter Try.func23, Try.ntmps23
    go_wp2
    go_ret
    exact ⟨rfl, HF.out⟩
  by_cases h2 : (L : Int) < n
  · clear hn
    go_enter Try.func23, Try.ntmps23
    go_wp2
    go_ret
    exact ⟨rfl, HF.out⟩
  obtain rfl : bad = true := by
    rcases hn with h | h | h
    · exact absurd h h1
    · exact absurd h h2
    · exact h
  go_enter Try.func23, Try.ntmps23
  go_wp2
  go_ret
  exact ⟨rfl, HF.out⟩
theorem rRaw_next {w w1 : World} {g n cap : Nat} {a : Option Addr} {l : List UInt8} {D : Value} (hi : RefIn w g (.slice a l.length cap) false) (hbel : Below w.heap.size w w1) (hD : ∀ W, BytesAt W (.slice a l.length cap) l → BytesAt W D (l.drop n)) (hb : BytesAt w (.slice a l.length cap) l) :
    (w1.alloc (.cells #[] 5)).cell? ⟨g, 0, none⟩ = some (.slice a l.length cap) ∧
      Hid (OwnBytes w1.heap.size (w1.alloc (.cells #[] 5)) (.slice (some ⟨w1.heap.size, 0, none⟩) 0 0) [] ∧ Below w1.heap.size w1 (w1.alloc (.cells #[] 5)) ∧ BytesAt (w1.alloc (.cells #[] 5)) D (l.drop n)) := by
  have hb2 : Below w1.heap.size w1 (w1.alloc (.cells #[] 5)) := Go.Joins.below_alloc1 w1 _
  have hb3 : Below w.heap.size w (w1.alloc (.cells #[] 5)) := hbel.trans (hb2.mono hbel.size)
  exact ⟨by rw [hb3.cell (p := ⟨g, 0, none⟩) hi.lt]; exact hi.cell0, OwnBytes.made w1 _ (Nat.le_refl _), hb2, hD _ (hb.below hb3 (Nat.le_refl _))⟩
theorem rRaw_fin {w w1 w2 : World} {g n cap : Nat} {a : Option Addr} {l : List UInt8} {v1 v2 : Value} (hi : RefIn w g (.slice a l.length cap) false) (hb1 : OwnBytes w.heap.size w1 v1 (l.take n) ∧ Below w.heap.size w w1) (hown : OwnBytes w1.heap.size w2 v2 (l.drop n)) (hb2 : Below w1.heap.size w1 w2) :
    (w2.cell? ⟨g, 0, none⟩ = some (.slice a l.length cap) ∧ w2.frozen? ⟨g, 0, none⟩ = false) ∧ Hid (BytesAt (w2.setCell ⟨g, 0, none⟩ v2) v1 (l.take n) ∧ RefAt (w2.setCell ⟨g, 0, none⟩ v2) g ⟨l.drop n, false⟩ ∧ Chg [g] w (w2.setCell ⟨g, 0, none⟩ v2)) := by
  have hb3 : Below w.heap.size w w2 := hb1.2.trans (hb2.mono hb1.2.size)
  have hi2 : RefIn w2 g (.slice a l.length cap) false := (Chg.of_below (S := []) hb3 (Nat.le_refl _)).heap hi (by simp)
  have hc : Chg [g] w2 (w2.setCell ⟨g, 0, none⟩ v2) := (Chg.refl _ _).setCell (.inl (by simp)) _
  have hnb : ∀ k ∈ [g], NB w2 k := fun k hk => by rw [List.mem_singleton.1 hk]; exact hi2.nb
  exact ⟨⟨hi2.cell0, hi2.free 0⟩, (hb1.1.bytesAt.below hb2 (Nat.le_refl _)).chg hc hnb, ⟨v2, hi2.set0 v2, hown.bytesAt.chg hc hnb⟩, (Chg.of_below hb3 (Nat.le_refl _)).trans hc⟩
set_option maxHeartbeats 400000 in
theorem rRaw_yes (g n : Nat) (l : List UInt8) (w : World) (hr : RefAt w g ⟨l, false⟩) (hl : l.length ≤ 1000000) (hn : n ≤ l.length) :
    Calls Try.prog 23 #[.pointer (some ⟨g, 0, none⟩), .int .i64 (n : Nat)] w fun e w' => ∃ v, e = .returned v ∧ BytesAt w' v (l.take n) ∧ RefAt w' g ⟨l.drop n, false⟩ ∧ Chg [g] w w' := by
  obtain ⟨v, hi, hb⟩ := hr
  obtain ⟨a, cap, rfl, _, hcap, _⟩ := hb.form
  have HI := Lib.hid hi
  have HB := Lib.hid hb
  have HA0 : Hid (OwnBytes w.heap.size (w.alloc (.cells #[] 5)) (.slice (some ⟨w.heap.size, 0, none⟩) 0 0) []) := OwnBytes.made w _ (Nat.le_refl _)
  have HBB : Hid (Below w.heap.size w (w.alloc (.cells #[] 5))) := Go.Joins.below_alloc1 w _
  have c0 := hi.cell0
  have c1 := hi.cell1
  have d0 : (w.alloc (.cells #[] 5)).cell? ⟨g, 0, none⟩ = some (.slice a l.length cap) := by rw [HBB.out.cell (p := ⟨g, 0, none⟩) hi.lt]; exact hi.cell0
  have HBY : Hid (BytesAt (w.alloc (.cells #[] 5)) (.slice a n cap) (l.take n)) := (hb.below HBB.out (Nat.le_refl _)).first hn
  have htl : (l.take n).length ≤ 1000000 := by simp; omega
  have hdl : (l.drop n).length ≤ 1000000 := by simp; omega
  dsimp only at *
  clear hi hb
  have K1 : True := trivial
  by_cases hc0 : cap = 0
  · subst hc0
    obtain rfl : l = [] := List.eq_nil_of_length_eq_zero (by omega)
    obtain rfl : n = 0 := by simpa using hn
    have HD : Hid (∀ W, BytesAt W (.slice a ([] : List UInt8).length 0) [] → BytesAt W (.slice a 0 0) (List.drop 0 [])) := fun W hW => hW
    clear hl hn htl hdl hcap
    go_enter Try.func23, Try.ntmps23
    go_wp2_with (first | (clear K1; at_builtin; refine wpList_append_bytes rfl _ _ rfl w.heap.size _ _ [] (List.take 0 []) rfl rfl HA0.out HBY.out (by simp) HBB.out.size ?_; intro v1 w1 hown hgrow; have H1 : Hid (OwnBytes w.heap.size w1 v1 (List.take 0 []) ∧ Below w.heap.size w w1) := ⟨hown, HBB.out.grown hgrow HBB.out.size HA0.out.own⟩; clear hown hgrow; obtain ⟨e0, H2⟩ := rRaw_next (n := 0) (l := []) HI.out H1.out.2 HD.out HB.out) | (at_builtin; refine wpList_append_bytes rfl _ _ rfl w1.heap.size _ _ [] (List.drop 0 []) rfl rfl H2.out.1 H2.out.2.2 (by simp) H2.out.2.1.size ?_; intro v2 w2 hown hgrow; obtain ⟨⟨e1, e2⟩, HF⟩ := rRaw_fin (l := []) HI.out H1.out hown (H2.out.2.1.grown hgrow H2.out.2.1.size H2.out.1.own); obtain ⟨a2, n2, c2, rfl⟩ := hown.form3; clear hown hgrow))
    go_ret
    exact ⟨_, rfl, HF.out⟩
  by_cases h : cap = n
  · have HD : Hid (∀ W, BytesAt W (.slice a l.length cap) l → BytesAt W (.slice a 0 0) (l.drop n)) := fun W hW => by subst h; have h := hW.drop_all hn; rwa [show l.length - cap = 0 by omega] at h
    subst h
    go_enter Try.func23, Try.ntmps23
    go_wp2_with (first | (clear K1; at_builtin; refine wpList_append_bytes rfl _ _ rfl w.heap.size _ _ [] (List.take cap l) rfl rfl HA0.out HBY.out (by simp only [List.length_nil]; omega) HBB.out.size ?_; intro v1 w1 hown hgrow; have H1 : Hid (OwnBytes w.heap.size w1 v1 (List.take cap l) ∧ Below w.heap.size w w1) := ⟨hown, HBB.out.grown hgrow HBB.out.size HA0.out.own⟩; clear hown hgrow; obtain ⟨e0, H2⟩ := rRaw_next (n := cap) (l := l) HI.out H1.out.2 HD.out HB.out) | (at_builtin; refine wpList_append_bytes rfl _ _ rfl w1.heap.size _ _ [] (List.drop cap l) rfl rfl H2.out.1 H2.out.2.2 (by simp only [List.length_nil]; omega) H2.out.2.1.size ?_; intro v2 w2 hown hgrow; obtain ⟨⟨e1, e2⟩, HF⟩ := rRaw_fin (l := l) HI.out H1.out hown (H2.out.2.1.grown hgrow H2.out.2.1.size H2.out.1.own); obtain ⟨a2, n2, c2, rfl⟩ := hown.form3; clear hown hgrow))
    go_ret
    exact ⟨_, rfl, HF.out⟩
  · have HD : Hid (∀ W, BytesAt W (.slice a l.length cap) l → BytesAt W (.slice (Option.map (fun x => x.add n) a) (l.length - n) (cap - n)) (l.drop n)) := fun W hW => hW.drop hn h
    go_enter Try.func23, Try.ntmps23
    go_wp2_with (first | (clear K1; at_builtin; refine wpList_append_bytes rfl _ _ rfl w.heap.size _ _ [] (List.take n l) rfl rfl HA0.out HBY.out (by simp only [List.length_nil]; omega) HBB.out.size ?_; intro v1 w1 hown hgrow; have H1 : Hid (OwnBytes w.heap.size w1 v1 (List.take n l) ∧ Below w.heap.size w w1) := ⟨hown, HBB.out.grown hgrow HBB.out.size HA0.out.own⟩; clear hown hgrow; obtain ⟨e0, H2⟩ := rRaw_next (n := n) (l := l) HI.out H1.out.2 HD.out HB.out) | (at_builtin; refine wpList_append_bytes rfl _ _ rfl w1.heap.size _ _ [] (List.drop n l) rfl rfl H2.out.1 H2.out.2.2 (by simp only [List.length_nil]; omega) H2.out.2.1.size ?_; intro v2 w2 hown hgrow; obtain ⟨⟨e1, e2⟩, HF⟩ := rRaw_fin (l := l) HI.out H1.out hown (H2.out.2.1.grown hgrow H2.out.2.1.size H2.out.1.own); obtain ⟨a2, n2, c2, rfl⟩ := hown.form3; clear hown hgrow))
    go_ret
    exact ⟨_, rfl, HF.out⟩
end Go.Proofs.Ytniogemgkcoimaa
