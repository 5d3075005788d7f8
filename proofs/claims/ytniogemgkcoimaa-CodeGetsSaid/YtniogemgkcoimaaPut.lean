/- A part is put to a writer; a row of parts is. -/
import Derived.Test.YtniogemgkcoimaaParts
namespace Go.Proofs.Ytniogemgkcoimaa
open Go.RowKit
abbrev partBox (w : World) (S M : Int) (x : Nat) (u : Value) : World := w.alloc (.cells #[.int .i64 S, .int .i64 M, .int .u64 (x : Nat), u] 32)
theorem partBox_below (w : World) (S M : Int) (x : Nat) (u : Value) : Below w.heap.size w (partBox w S M x u) := (Below.refl _ _).alloc (Nat.le_refl _) _
theorem partBox_cells (w w1 : World) (S M : Int) (x : Nat) (u : Value) (hb : Below (partBox w S M x u).heap.size (partBox w S M x u) w1) : w1.cell? ⟨w.heap.size, 1, none⟩ = some (.int .i64 M) ∧ w1.cell? ⟨w.heap.size, 2, none⟩ = some (.int .u64 (x : Nat)) ∧ w1.cell? ⟨w.heap.size, 3, none⟩ = some u := by
  refine ⟨?_, ?_, ?_⟩
  · rw [hb.cell (p := ⟨w.heap.size, 1, none⟩) (by simp)]; simp
  · rw [hb.cell (p := ⟨w.heap.size, 2, none⟩) (by simp)]; simp
  · rw [hb.cell (p := ⟨w.heap.size, 3, none⟩) (by simp)]; simp
theorem ofNat_mod (x : Nat) : UInt8.ofNat (x % 256) = UInt8.ofNat x := by
  rw [← UInt8.toNat_inj, UInt8.toNat_ofNat', UInt8.toNat_ofNat']; omega
theorem le4_mod (x : Nat) : le4 (x % 4294967296) = le4 x := by
  unfold le4
  congr 1
  · rw [← UInt8.toNat_inj, UInt8.toNat_ofNat', UInt8.toNat_ofNat']; omega
  congr 1
  · rw [← UInt8.toNat_inj, UInt8.toNat_ofNat', UInt8.toNat_ofNat']; omega
  congr 1
  · rw [← UInt8.toNat_inj, UInt8.toNat_ofNat', UInt8.toNat_ofNat']; omega
  congr 1
  · rw [← UInt8.toNat_inj, UInt8.toNat_ofNat', UInt8.toNat_ofNat']; omega
theorem wrap8 (x : Nat) : IntKind.u8.wrap (x : Int) = ((x % 256 : Nat) : Int) := by simp [IntKind.wrap, IntKind.bits, IntKind.signed]
theorem wrap32n (x : Nat) : IntKind.u32.wrap (x : Int) = ((x % 4294967296 : Nat) : Int) := by simp [IntKind.wrap, IntKind.bits, IntKind.signed]
set_option maxRecDepth 100000 in
set_option maxHeartbeats 1000000 in
theorem put_any (p : Option Addr) (base : Nat) (v u : Value) (l : List UInt8) (q : PV) (w : World) (h : Wr w p base v l) (hb : BytesAt w u q.b) (hq : q.ok) (hsm : l.length + q.b.length ≤ 1000000) :
    Calls Try.prog 13 #[.pointer p, q.val u] w (WPost p base v (taken p l q.bytes) w) := by
  have hk := q.k_lt
  obtain ⟨a, c, rfl, _⟩ := hb.form
  have HK : Hid (∀ wx, Calls Try.prog 19 #[q.val (.slice a q.b.length c)] wx fun e w' => e = .returned (.int .i64 (q.k : Nat)) ∧ Below wx.heap.size wx w') := fun wx => sort_any q a q.b.length c wx hq
  have H := Lib.hid h
  have HB := Lib.hid hb
  have hx := hq.x
  clear h hb hq
  unfold PV.bytes
  obtain ⟨S, M, x, b⟩ := q
  dsimp only at *
  generalize hke : PV.k ⟨S, M, x, b⟩ = k at *
  have HW0 := Lib.hid (partBox_below w S M x (.slice a b.length c))
  have HCM : Hid (∀ w1, Below (partBox w S M x (.slice a b.length c)).heap.size (partBox w S M x (.slice a b.length c)) w1 → _) := fun w1 => partBox_cells w w1 S M x (.slice a b.length c)
  have cases5 : k = 0 ∨ k = 1 ∨ k = 2 ∨ k = 3 ∨ k = 4 := by omega
  clear hke hk
  rcases cases5 with rfl | rfl | rfl | rfl | rfl
  · have HF : Hid (∀ w1, Below w.heap.size w w1 → Calls Try.prog 33 #[.pointer p, .int .u8 (IntKind.u8.wrap (x : Int))] w1 (WPost p base v (taken p l [UInt8.ofNat x]) w1)) := fun w1 hb => by
      rw [wrap8, ← ofNat_mod x]
      exact wU8 p base v l (x % 256) (by omega) w1 (H.out.below hb (Nat.le_refl _)) (by omega)
    clear hsm hx
    go_enter Try.func13, Try.ntmps13
    go_wp2_with (first | (go_at_call 19; refine (HK.out _).mono ?_; rintro e w1 ⟨rfl, hb⟩; have HB1 : Hid (Below w.heap.size w w1) := HW0.out.trans (hb.mono (by simp)); obtain ⟨c1, c2, c3⟩ := HCM.out w1 hb; clear hb) | (go_at_call 33; refine (HF.out _ HB1.out).mono ?_; rintro e w2 hp; have HN := Lib.hid (hp.after (Chg.of_below HB1.out (Nat.le_refl _)) (Placed.refl _ _)); obtain ⟨rfl, _⟩ := hp))
    go_end0
    exact HN.out
  · have HF : Hid (∀ w1, Below w.heap.size w w1 → Calls Try.prog 34 #[.pointer p, .int .u32 (IntKind.u32.wrap (x : Int))] w1 (WPost p base v (taken p l (le4 x)) w1)) := fun w1 hb => by
      rw [wrap32n, ← le4_mod x]
      exact wU32 p base v l (x % 4294967296) (by omega) w1 (H.out.below hb (Nat.le_refl _)) (by omega)
    clear hsm hx
    go_enter Try.func13, Try.ntmps13
    go_wp2_with (first | (go_at_call 19; refine (HK.out _).mono ?_; rintro e w1 ⟨rfl, hb⟩; have HB1 : Hid (Below w.heap.size w w1) := HW0.out.trans (hb.mono (by simp)); obtain ⟨c1, c2, c3⟩ := HCM.out w1 hb; clear hb) | (go_at_call 34; refine (HF.out _ HB1.out).mono ?_; rintro e w2 hp; have HN := Lib.hid (hp.after (Chg.of_below HB1.out (Nat.le_refl _)) (Placed.refl _ _)); obtain ⟨rfl, _⟩ := hp))
    go_end0
    exact HN.out
  · have HF : Hid (∀ w1, Below w.heap.size w w1 → Calls Try.prog 39 #[.pointer p, .int .u64 (x : Nat)] w1 (WPost p base v (taken p l (short x)) w1)) := fun w1 hb => wUint p base v l x hx w1 (H.out.below hb (Nat.le_refl _)) (by omega)
    clear hsm hx
    go_enter Try.func13, Try.ntmps13
    go_wp2_with (first | (go_at_call 19; refine (HK.out _).mono ?_; rintro e w1 ⟨rfl, hb⟩; have HB1 : Hid (Below w.heap.size w w1) := HW0.out.trans (hb.mono (by simp)); obtain ⟨c1, c2, c3⟩ := HCM.out w1 hb; clear hb) | (go_at_call 39; refine (HF.out _ HB1.out).mono ?_; rintro e w2 hp; have HN := Lib.hid (hp.after (Chg.of_below HB1.out (Nat.le_refl _)) (Placed.refl _ _)); obtain ⟨rfl, _⟩ := hp))
    go_end0
    exact HN.out
  · have HF : Hid (∀ w1, Below w.heap.size w w1 → Calls Try.prog 36 #[.pointer p, .string ⟨b.toArray⟩] w1 (WPost p base v (taken p l (short b.length ++ b)) w1)) := fun w1 hb => wText p base v l b w1 (H.out.below hb (Nat.le_refl _)) (by omega)
    clear hsm hx
    go_enter Try.func13, Try.ntmps13
    go_wp2_with (first | (go_at_call 19; refine (HK.out _).mono ?_; rintro e w1 ⟨rfl, hb⟩; have HB1 : Hid (Below w.heap.size w w1) := HW0.out.trans (hb.mono (by simp)); obtain ⟨c1, c2, c3⟩ := HCM.out w1 hb; clear hb; have hs := string_bytes (HB.out.below HB1.out (Nat.le_refl _))) | (go_at_call 36; refine (HF.out _ HB1.out).mono ?_; rintro e w2 hp; have HN := Lib.hid (hp.after (Chg.of_below HB1.out (Nat.le_refl _)) (Placed.refl _ _)); obtain ⟨rfl, _⟩ := hp))
    go_end0
    exact HN.out
  · have HF : Hid (∀ w1, Below w.heap.size w w1 → Calls Try.prog 37 #[.pointer p, .slice a b.length c] w1 (WPost p base v (taken p l b) w1)) := fun w1 hb => wRaw p base v _ l b w1 (H.out.below hb (Nat.le_refl _)) (HB.out.below hb (Nat.le_refl _)) (by omega)
    clear hsm hx
    go_enter Try.func13, Try.ntmps13
    go_wp2_with (first | (go_at_call 19; refine (HK.out _).mono ?_; rintro e w1 ⟨rfl, hb⟩; have HB1 : Hid (Below w.heap.size w w1) := HW0.out.trans (hb.mono (by simp)); obtain ⟨c1, c2, c3⟩ := HCM.out w1 hb; clear hb) | (go_at_call 37; refine (HF.out _ HB1.out).mono ?_; rintro e w2 hp; have HN := Lib.hid (hp.after (Chg.of_below HB1.out (Nat.le_refl _)) (Placed.refl _ _)); obtain ⟨rfl, _⟩ := hp))
    go_end0
    exact HN.out

theorem bytes_length (p : PV) : p.bytes.length ≤ p.b.length + 10 := by
  have h := (short_length p.b.length).2
  have h2 := (short_length p.x).2
  unfold PV.bytes
  split <;> simp [le4] <;> omega
theorem row_length (l : List PV) : (rowBytes l).length ≤ 20 * (l.map fun p => p.b.length / 20).sum + 29 * l.length := by
  induction l with
  | nil => simp [rowBytes]
  | cons p l ih =>
    have h := bytes_length p
    simp only [rowBytes, List.map_cons, List.flatten_cons, List.length_append, List.sum_cons, List.length_cons] at ih ⊢
    omega
theorem sum_mem : ∀ (l : List Nat) (x : Nat), x ∈ l → x ≤ l.sum
  | [], _, h => by cases h
  | y :: l, x, h => by
    rcases List.mem_cons.1 h with rfl | h
    · simp
    · have := sum_mem l x h
      simp; omega
/-- parts that are not too many have not too many bytes -/
theorem row_small (l : List PV) (h : ¬ 2000 < countTo l l.length) : l.length ≤ 2000 ∧ (rowBytes l).length ≤ 100000 ∧ ∀ p ∈ l, p.b.length ≤ 100000 := by
  unfold countTo at h
  rw [List.take_length] at h
  have h1 := row_length l
  refine ⟨by omega, by omega, fun p hp => ?_⟩
  have h2 : p.b.length / 20 ≤ (l.map fun p => p.b.length / 20).sum := sum_mem _ _ (List.mem_map.2 ⟨p, hp, rfl⟩)
  omega
theorem rowBytes_snoc (l : List PV) (k : Nat) (p : PV) (h : l[k]? = some p) : rowBytes (l.take (k + 1)) = rowBytes (l.take k) ++ p.bytes := by
  obtain ⟨hk, he⟩ := List.getElem?_eq_some_iff.1 h
  unfold rowBytes
  rw [List.take_succ_eq_append_getElem hk, he, List.map_append, List.flatten_append]
  simp
theorem rowBytes_append (l m : List PV) : rowBytes (l ++ m) = rowBytes l ++ rowBytes m := by simp [rowBytes]
theorem rowBytes_take (l : List PV) (k : Nat) : (rowBytes (l.take k)).length ≤ (rowBytes l).length := by
  have h : rowBytes l = rowBytes (l.take k) ++ rowBytes (l.drop k) := by rw [← rowBytes_append, List.take_append_drop]
  rw [h, List.length_append]; omega
/-- what the loop over a row keeps -/
def RowAt (w wr : World) (p : Option Addr) (base : Nat) (v : Value) (l : List PV) (k : Nat) : Prop := ∃ v', Wr wr p base v' (rowBytes (l.take k)) ∧ Below w.heap.size w wr ∧ Placed w v v'
set_option maxRecDepth 100000 in
set_option maxHeartbeats 400000 in
theorem row_any (v : Value) (l : List PV) (w : World) (hp : PartsAt w v l) (hs : (rowBytes l).length ≤ 200000) (hb : ∀ p ∈ l, p.b.length ≤ 100000) :
    Calls Try.prog 29 #[v] w (Gives w (rowBytes l)) := by
  have HP := Lib.hid hp
  obtain ⟨a, cap, rfl, hlen, hlc, hcells⟩ := hp
  rw [maxLen_eq] at hlen
  have HC := Lib.hid hcells
  have HBL := Lib.hid hb
  clear hcells hb
  go_enter Try.func29, Try.ntmps29
  go_wp2_with (go_at_call 12; refine (new_writer _).mono ?_; rintro e w1 ⟨rfl, hw, hc⟩; have HW1 := Lib.hid (And.intro hw hc); clear hw hc)
  have H0 : Hid (RowAt w w1 (some ⟨w.heap.size, 0, none⟩) (w.heap.size + 1) (.slice none 0 0) l 0) := ⟨_, by rw [List.take_zero]; exact HW1.out.1, HW1.out.2.below (Nat.le_refl _) (by simp), Placed.refl _ _⟩
  go_loopw [4] (fun i wr => ∃ k : Nat, k ≤ l.length ∧ i = .int .i64 (k : Nat) ∧ Hid (RowAt w wr (some ⟨w.heap.size, 0, none⟩) (w.heap.size + 1) (.slice none 0 0) l k)) (fun i _ => l.length - (intOf i).toNat)
  case atStart => exact ⟨0, Nat.zero_le _, rfl, H0.out⟩
  case round =>
    obtain ⟨k, hk, rfl, HR⟩ := hrel
    clear H0 HW1
    by_cases hlt : k < l.length
    · obtain ⟨b, off, rfl, hb, hc⟩ := HC.out (by omega)
      obtain ⟨q, hqk⟩ : ∃ p, l[k]? = some p := ⟨_, List.getElem?_eq_getElem hlt⟩
      obtain ⟨u, hu⟩ := hc k q hqk
      obtain ⟨v1, hw1, hb1, hp1⟩ := HR.out
      have hu1 := hu.below hb1 (Nat.le_refl _) hb
      have c0 := hu1.c0
      have c1 := hu1.c1
      have c2 := hu1.c2
      have c3 := hu1.c3
      have hmem : q ∈ l := List.mem_of_getElem? hqk
      have h3 := rowBytes_take l k
      have h4 := HBL.out q hmem
      have HF : Hid (Calls Try.prog 13 #[.pointer (some ⟨w.heap.size, 0, none⟩), q.val u] wr (WPost (some ⟨w.heap.size, 0, none⟩) (w.heap.size + 1) v1 (rowBytes (l.take (k + 1))) wr)) := by
        rw [rowBytes_snoc l k q hqk]
        exact put_any _ _ v1 u _ q wr hw1 hu1.bytes hu1.ok (by omega)
      have HX : Hid (Below w.heap.size w wr ∧ Placed w (.slice none 0 0) v1 ∧ Wr wr (some ⟨w.heap.size, 0, none⟩) (w.heap.size + 1) v1 (rowBytes (l.take k))) := ⟨hb1, hp1, hw1⟩
      obtain ⟨ua, uc, hue, _⟩ := hu1.bytes.form
      subst hue
      clear hu hu1 hw1 hb1 hp1 hc HR hmem h3 h4
      obtain ⟨S, M, x, B⟩ := q
      dsimp only at *
      go_wp2_with fail
      refine HF.out.mono ?_
      rintro e w2 ⟨rfl, v2, hw2, hc2, hp2⟩
      have HN : Hid (RowAt w w2 (some ⟨w.heap.size, 0, none⟩) (w.heap.size + 1) (.slice none 0 0) l (k + 1)) := by
        refine ⟨v2, hw2, HX.out.1.trans (hc2.below HX.out.1.size fun i hi => ?_), HX.out.2.1.trans hp2 HX.out.1.size⟩
        simp only [wset, Option.toList_some, List.map_cons, List.map_nil, List.cons_append, List.nil_append, List.mem_cons, Option.mem_toList] at hi
        rcases hi with rfl | hi
        · exact Nat.le_refl _
        · rcases HX.out.2.1 with h | h
          · rw [h] at hi; cases hi
          · exact h i hi
      clear hw2 hc2 hp2
      go_wp2
      go_roundw
      case rel => exact ⟨k + 1, by omega, by go_num, HN.out⟩
      case measure => simp [intOf]; omega
    · obtain rfl : k = l.length := by omega
      have HF : Hid (Calls Try.prog 16 #[.pointer (some ⟨w.heap.size, 0, none⟩)] wr (Gives w (rowBytes l))) := by
        obtain ⟨v1, hw1, hb1, hp1⟩ := HR.out
        rw [List.take_length] at hw1
        refine (wBytes _ _ v1 _ wr hw1 (by omega)).mono ?_
        rintro e w' ⟨v', rfl, ho, hb⟩
        exact ⟨v', rfl, ho.base_le hb1.size, hb1.trans (hb.mono hb1.size)⟩
      clear HR
      go_wp2_with (go_at_call 16; refine HF.out.mono ?_; rintro e w2 ⟨v2, rfl, hg⟩; have HG := Lib.hid hg; clear hg)
      go_ret
      exact ⟨_, rfl, HG.out⟩
end Go.Proofs.Ytniogemgkcoimaa
