/- A new reader; what is left, a fault, the end; the next part that a reader answers. -/
import Derived.Test.YtniogemgkcoimaaPut
namespace Go.Proofs.Ytniogemgkcoimaa
open Go.RowKit
theorem new_reader (v : Value) (l : List UInt8) (w : World) (hp : BytesAt w v l) (hl : l.length ≤ 175921860444160) :
    Calls Try.prog 17 #[v] w fun e w' => ∃ g, e = .returned (.pointer (some ⟨g, 0, none⟩)) ∧ Rd w' (some ⟨g, 0, none⟩) ⟨l, false⟩ ∧ Below w.heap.size w w' ∧ w.heap.size ≤ g ∧ g < w'.heap.size := by
  have HP := Lib.hid hp
  obtain ⟨a, c, rfl, _⟩ := hp.form
  clear hp
  go_enter Try.func17, Try.ntmps17
  go_wp2_with (go_at_call 43; refine (clone_any _ l _ HP.out hl).mono ?_; rintro e w1 ⟨v1, rfl, hown, hb⟩; have HO := Lib.hid (And.intro hown hb); obtain ⟨a1, c1, rfl⟩ := hown.form; clear hown hb)
  have HF : Hid (Rd (w1.alloc (.cells #[.slice a1 l.length c1, .bool false] 54)) (some ⟨w1.heap.size, 0, none⟩) ⟨l, false⟩ ∧ Below w.heap.size w (w1.alloc (.cells #[.slice a1 l.length c1, .bool false] 54)) ∧ w.heap.size ≤ w1.heap.size ∧ w1.heap.size < (w1.alloc (.cells #[.slice a1 l.length c1, .bool false] 54)).heap.size) :=
    ⟨.inr ⟨_, rfl, _, heap_alloc_new w1 _, HO.out.1.bytesAt.below ((Below.refl _ w1).alloc (Nat.le_refl _) _) (Nat.le_refl _)⟩, HO.out.2.alloc HO.out.2.size _, HO.out.2.size, by simp⟩
  go_ret
  exact ⟨_, rfl, HF.out⟩
theorem left_any (p : Option Addr) (s : RS) (w : World) (h : Rd w p s) : Calls Try.prog 24 #[.pointer p] w fun e w' => e = .returned (.int .i64 (s.l.length : Nat)) ∧ w = w' := by
  rcases h with ⟨rfl, rfl⟩ | ⟨g, rfl, v, hi, hb⟩
  · go_enter Try.func24, Try.ntmps24
    go_wp2
    go_ret
    exact ⟨rfl, rfl⟩
  · have c0 := hi.cell0
    obtain ⟨a, c, rfl, _⟩ := hb.form
    clear hi hb
    go_enter Try.func24, Try.ntmps24
    go_wp2
    go_ret
    exact ⟨rfl, rfl⟩
def errOf (b : Bool) : Int := if b then 2 else 0
theorem err_any (p : Option Addr) (s : RS) (w : World) (h : Rd w p s) : Calls Try.prog 25 #[.pointer p] w fun e w' => e = .returned (.int .i64 (errOf s.bad)) ∧ w = w' := by
  rcases h with ⟨rfl, rfl⟩ | ⟨g, rfl, h⟩
  · exact err_nil w
  · obtain ⟨l, b⟩ := s
    cases b
    · exact err_good g l w h
    · exact err_bad g l w h
theorem fail_any (p : Option Addr) (s : RS) (w : World) (h : Rd w p s) : Calls Try.prog 28 #[.pointer p] w fun e w' => e = .returned (.tuple #[]) ∧ Rd w' p ⟨s.l, true⟩ ∧ Chg (at' p) w w' := by
  rcases h with ⟨rfl, rfl⟩ | ⟨g, rfl, h⟩
  · go_enter Try.func28, Try.ntmps28
    go_wp2
    go_end0
    exact ⟨rfl, .inl ⟨rfl, rfl⟩, Chg.refl _ _⟩
  · have hnb := h.nb
    obtain ⟨v, hi, hb⟩ := h
    have c1 := hi.cell1
    have f1 := hi.free 1
    have hc : Chg [g] w (w.setCell ⟨g, 1, none⟩ (.bool true)) := (Chg.refl _ _).setCell (.inl (by simp)) _
    have HF : Hid (Rd (w.setCell ⟨g, 1, none⟩ (.bool true)) (some ⟨g, 0, none⟩) ⟨s.l, true⟩ ∧ Chg (at' (some ⟨g, 0, none⟩)) w (w.setCell ⟨g, 1, none⟩ (.bool true))) :=
      ⟨.inr ⟨g, rfl, v, hi.set1 true, hb.chg hc fun k hk => by rw [List.mem_singleton.1 hk]; exact hnb⟩, hc⟩
    clear hi hb hnb hc
    go_enter Try.func28, Try.ntmps28
    go_wp2
    go_end0
    exact ⟨rfl, HF.out⟩
/-- the end: a fault, if something is left -/
def RS.end' (s : RS) : RS := if 0 < s.l.length then ⟨s.l, true⟩ else s
theorem end_any (p : Option Addr) (s : RS) (w : World) (h : Rd w p s) : Calls Try.prog 26 #[.pointer p] w fun e w' => e = .returned (.int .i64 (errOf s.end'.bad)) ∧ Rd w' p s.end' ∧ Chg (at' p) w w' := by
  have H := Lib.hid h
  clear h
  unfold RS.end'
  by_cases hl : 0 < s.l.length
  · rw [if_pos hl]
    have HL := Lib.hid hl
    go_enter Try.func26, Try.ntmps26
    go_wp2_with (first | (go_at_call 24; refine (left_any p s _ H.out).mono ?_; rintro e w1 ⟨rfl, rfl⟩) | (go_at_call 28; refine (fail_any p s _ H.out).mono ?_; rintro e w1 ⟨rfl, hr, hc⟩; have HR := Lib.hid (And.intro hr hc); clear hr hc) | (go_at_call 25; refine (err_any p _ _ HR.out.1).mono ?_; rintro e w2 ⟨rfl, rfl⟩))
    go_ret
    exact ⟨rfl, HR.out⟩
  · rw [if_neg hl]
    go_enter Try.func26, Try.ntmps26
    go_wp2_with (first | (go_at_call 24; refine (left_any p s _ H.out).mono ?_; rintro e w1 ⟨rfl, rfl⟩) | (go_at_call 25; refine (err_any p _ _ H.out).mono ?_; rintro e w2 ⟨rfl, rfl⟩))
    go_ret
    exact ⟨rfl, H.out, Chg.refl _ _⟩
/-- the cells of a part's box -/
def Cells4 (w : World) (N : Nat) (S M : Int) (x : Nat) (u : Value) : Prop := w.cell? ⟨N, 0, none⟩ = some (.int .i64 S) ∧ w.cell? ⟨N, 1, none⟩ = some (.int .i64 M) ∧ w.cell? ⟨N, 2, none⟩ = some (.int .u64 (x : Nat)) ∧ w.cell? ⟨N, 3, none⟩ = some u
theorem cells4_of {w w' : World} {S' : List Nat} {S M : Int} {x : Nat} {u : Value} (hc : Chg S' (partBox w S M x u) w') (hn : w.heap.size ∉ S') : Cells4 w' w.heap.size S M x u := by
  have h := hc.heap (heap_alloc_new w _) hn
  exact ⟨Go.Joins.cell_of_block h 0, Go.Joins.cell_of_block h 1, Go.Joins.cell_of_block h 2, Go.Joins.cell_of_block h 3⟩
theorem cells4_below {w w' : World} {N : Nat} {S M : Int} {x : Nat} {u : Value} (hb : Below w.heap.size w w') (h : Cells4 w N S M x u) : Cells4 w' N S M x u := by
  have hlt := World.block_lt_of_cell? w _ h.1
  exact ⟨by rw [hb.cell (p := ⟨N, 0, none⟩) hlt]; exact h.1, by rw [hb.cell (p := ⟨N, 1, none⟩) hlt]; exact h.2.1, by rw [hb.cell (p := ⟨N, 2, none⟩) hlt]; exact h.2.2.1, by rw [hb.cell (p := ⟨N, 3, none⟩) hlt]; exact h.2.2.2⟩
theorem and255 (x : Nat) (hx : x < 18446744073709551616) : bits .and .u64 (x : Int) 255 = ((x % 256 : Nat) : Int) := by
  have := u64_and_nat x 255 hx (by decide); rw [show (255 : Nat) = 2 ^ 8 - 1 from rfl, Nat.and_two_pow_sub_one_eq_mod] at this; exact this
theorem and32 (x : Nat) (hx : x < 18446744073709551616) : bits .and .u64 (x : Int) 4294967295 = ((x % 4294967296 : Nat) : Int) := by
  have := u64_and_nat x 4294967295 hx (by decide); rw [show (4294967295 : Nat) = 2 ^ 32 - 1 from rfl, Nat.and_two_pow_sub_one_eq_mod] at this; exact this
set_option maxRecDepth 100000 in
set_option maxHeartbeats 1000000 in
theorem meet_any (p : Option Addr) (t : List UInt8) (q : PV) (u : Value) (w : World) (hq : q.ok) (hb : BytesAt w u q.b) (hl : (q.bytes ++ t).length ≤ 1000000) (hbl : q.b.length ≤ 1000000) (h : Rd w p ⟨q.bytes ++ t, false⟩) :
    Calls Try.prog 30 #[.pointer p, q.val u] w fun e w' => e = .returned (.bool true) ∧ Rd w' p ⟨t, false⟩ ∧ Chg (at' p) w w' := by
  obtain ⟨a, c, rfl, _⟩ := hb.form
  have hx := hq.x
  have hget : RS.get ⟨q.bytes ++ t, false⟩ q.k q.b.length = (q.told, ⟨t, false⟩) := RS.get_some (readPart_bytes q hx (by omega) t)
  have HG : Hid (∀ w1, w1 = partBox w q.sort (q.b.length : Nat) q.x (.slice a q.b.length c) → Calls Try.prog 18 #[.pointer p, PV.val ⟨q.sort, (q.b.length : Nat), q.x, q.b⟩ (.slice a q.b.length c)] w1 fun e w' => e = .returned (.tuple #[.int .u64 (q.told.1 : Nat), .string ⟨q.told.2.toArray⟩]) ∧ Rd w' p ⟨t, false⟩ ∧ Chg (at' p) w1 w') := fun w1 hw1 => by
    subst hw1
    have h1 := get_any p ⟨q.bytes ++ t, false⟩ ⟨q.sort, (q.b.length : Nat), q.x, q.b⟩ a q.b.length c _ ⟨hq.sort, by dsimp only; omega, hq.x⟩ hl (h.below (partBox_below w q.sort (q.b.length : Nat) q.x (.slice a q.b.length c)) (Nat.le_refl _))
    have e : PV.k ⟨q.sort, (q.b.length : Nat), q.x, q.b⟩ = q.k := rfl
    rw [e] at h1
    unfold GetPost at h1
    dsimp only at h1
    rw [hget] at h1
    exact h1
  have HK : Hid (∀ wx, Calls Try.prog 19 #[PV.val ⟨q.sort, (q.b.length : Nat), q.x, q.b⟩ (.slice a q.b.length c)] wx fun e w' => e = .returned (.int .i64 (q.k : Nat)) ∧ Below wx.heap.size wx w') := fun wx => sort_any ⟨q.sort, (q.b.length : Nat), q.x, q.b⟩ a q.b.length c wx ⟨hq.sort, by dsimp only; omega, hq.x⟩
  have HC0 : Hid (Chg (at' p) w (partBox w q.sort (q.b.length : Nat) q.x (.slice a q.b.length c))) := (Chg.refl _ _).alloc _
  have HCM : Hid (∀ w2, Chg (at' p) (partBox w q.sort (q.b.length : Nat) q.x (.slice a q.b.length c)) w2 → Cells4 w2 w.heap.size q.sort (q.b.length : Nat) q.x (.slice a q.b.length c)) := fun w2 hc => cells4_of hc fun hm => by have := h.lt _ hm; omega
  have HBY : Hid (∀ w2, Chg (at' p) w w2 → BytesAt w2 (.slice a q.b.length c) q.b) := fun w2 hc => hb.chg hc h.nb
  have h255 := and255 q.x hx
  have h32 := and32 q.x hx
  have hk := q.k_lt
  clear h hb hq hx hget hl
  unfold PV.told at HG
  obtain ⟨S, M, x, b⟩ := q
  dsimp only at *
  generalize hke : PV.k ⟨S, M, x, b⟩ = k at *
  have HW0 : Hid (partBox w S (b.length : Nat) x (.slice a b.length c) = partBox w S (b.length : Nat) x (.slice a b.length c)) := rfl
  have cases5 : k = 0 ∨ k = 1 ∨ k = 2 ∨ k = 3 ∨ k = 4 := by omega
  clear hke hk
  rcases cases5 with rfl | rfl | rfl | rfl | rfl
  · clear h32
    go_enter Try.func30, Try.ntmps30
    go_wp2_with (first | (go_at_call 18; refine (HG.out _ ?_).mono ?_; exact HW0.out; rintro e w2 ⟨rfl, hr, hc⟩; obtain ⟨c0, c1, c2, c3⟩ := HCM.out w2 hc; have HR := Lib.hid (And.intro hr (HC0.out.trans hc)); have HB2 := HBY.out w2 (HC0.out.trans hc); clear hr hc) | (go_at_call 19; refine (HK.out _).mono ?_; rintro e w3 ⟨rfl, hb⟩; have HR3 := Lib.hid (And.intro (HR.out.1.below hb (Nat.le_refl _)) (HR.out.2.trans (Chg.of_below hb (Nat.le_refl _)))); obtain ⟨c0', c1', c2', c3'⟩ := cells4_below hb ⟨c0, c1, c2, c3⟩; clear hb c0 c1 c2 c3))
    go_ret
    exact ⟨rfl, HR3.out⟩
  · clear h255
    go_enter Try.func30, Try.ntmps30
    go_wp2_with (first | (go_at_call 18; refine (HG.out _ ?_).mono ?_; exact HW0.out; rintro e w2 ⟨rfl, hr, hc⟩; obtain ⟨c0, c1, c2, c3⟩ := HCM.out w2 hc; have HR := Lib.hid (And.intro hr (HC0.out.trans hc)); have HB2 := HBY.out w2 (HC0.out.trans hc); clear hr hc) | (go_at_call 19; refine (HK.out _).mono ?_; rintro e w3 ⟨rfl, hb⟩; have HR3 := Lib.hid (And.intro (HR.out.1.below hb (Nat.le_refl _)) (HR.out.2.trans (Chg.of_below hb (Nat.le_refl _)))); obtain ⟨c0', c1', c2', c3'⟩ := cells4_below hb ⟨c0, c1, c2, c3⟩; clear hb c0 c1 c2 c3))
    go_ret
    exact ⟨rfl, HR3.out⟩
  · clear h255 h32
    go_enter Try.func30, Try.ntmps30
    go_wp2_with (first | (go_at_call 18; refine (HG.out _ ?_).mono ?_; exact HW0.out; rintro e w2 ⟨rfl, hr, hc⟩; obtain ⟨c0, c1, c2, c3⟩ := HCM.out w2 hc; have HR := Lib.hid (And.intro hr (HC0.out.trans hc)); have HB2 := HBY.out w2 (HC0.out.trans hc); clear hr hc) | (go_at_call 19; refine (HK.out _).mono ?_; rintro e w3 ⟨rfl, hb⟩; have HR3 := Lib.hid (And.intro (HR.out.1.below hb (Nat.le_refl _)) (HR.out.2.trans (Chg.of_below hb (Nat.le_refl _)))); obtain ⟨c0', c1', c2', c3'⟩ := cells4_below hb ⟨c0, c1, c2, c3⟩; clear hb c0 c1 c2 c3))
    go_ret
    exact ⟨rfl, HR3.out⟩
  · clear h255 h32
    go_enter Try.func30, Try.ntmps30
    go_wp2_with (first | (go_at_call 18; refine (HG.out _ ?_).mono ?_; exact HW0.out; rintro e w2 ⟨rfl, hr, hc⟩; obtain ⟨c0, c1, c2, c3⟩ := HCM.out w2 hc; have HR := Lib.hid (And.intro hr (HC0.out.trans hc)); have HB2 := HBY.out w2 (HC0.out.trans hc); clear hr hc) | (go_at_call 19; refine (HK.out _).mono ?_; rintro e w3 ⟨rfl, hb⟩; have HR3 := Lib.hid (And.intro (HR.out.1.below hb (Nat.le_refl _)) (HR.out.2.trans (Chg.of_below hb (Nat.le_refl _)))); obtain ⟨c0', c1', c2', c3'⟩ := cells4_below hb ⟨c0, c1, c2, c3⟩; have hstr := string_bytes (HB2.below hb (Nat.le_refl _)); clear hb c0 c1 c2 c3))
    go_ret
    exact ⟨rfl, HR3.out⟩
  · clear h255 h32
    go_enter Try.func30, Try.ntmps30
    go_wp2_with (first | (go_at_call 18; refine (HG.out _ ?_).mono ?_; exact HW0.out; rintro e w2 ⟨rfl, hr, hc⟩; obtain ⟨c0, c1, c2, c3⟩ := HCM.out w2 hc; have HR := Lib.hid (And.intro hr (HC0.out.trans hc)); have HB2 := HBY.out w2 (HC0.out.trans hc); clear hr hc) | (go_at_call 19; refine (HK.out _).mono ?_; rintro e w3 ⟨rfl, hb⟩; have HR3 := Lib.hid (And.intro (HR.out.1.below hb (Nat.le_refl _)) (HR.out.2.trans (Chg.of_below hb (Nat.le_refl _)))); obtain ⟨c0', c1', c2', c3'⟩ := cells4_below hb ⟨c0, c1, c2, c3⟩; have hstr := string_bytes (HB2.below hb (Nat.le_refl _)); clear hb c0 c1 c2 c3))
    go_ret
    exact ⟨rfl, HR3.out⟩
end Go.Proofs.Ytniogemgkcoimaa
