/- awake: the chapter's examples. -/
import Derived.Test.YtniogemgkcoimaaMeet
namespace Go.Proofs.Ytniogemgkcoimaa
open Go.RowKit
/-- a writer of the call's own -/
def Wt (w wi : World) (p : Option Addr) (base : Nat) (l : List UInt8) : Prop := ∃ v, Wr wi p base v l ∧ Below w.heap.size w wi ∧ w.heap.size ≤ base ∧ (∀ k ∈ at' p, w.heap.size ≤ k)
theorem Wt.wset {w wi : World} {p : Option Addr} {base : Nat} {v : Value} {l : List UInt8} (h : Wr wi p base v l) (hb : w.heap.size ≤ base) (hp : ∀ k ∈ at' p, w.heap.size ≤ k) : ∀ k ∈ wset p v, w.heap.size ≤ k := by
  intro k hk
  simp only [Ytniogemgkcoimaa.wset, List.mem_append, Option.mem_toList] at hk
  rcases hk with hk | hk
  · exact hp k hk
  · rcases h with ⟨rfl, rfl, rfl⟩ | ⟨g, rfl, h⟩
    · cases hk
    · exact Nat.le_trans hb (h.own.lt k hk).1
theorem Wt.step {w wi : World} {p : Option Addr} {base : Nat} {v : Value} {l l' : List UInt8} {e : Ending} {w' : World} (hv : Wr wi p base v l) (hb : Below w.heap.size w wi) (hbase : w.heap.size ≤ base) (hp : ∀ k ∈ at' p, w.heap.size ≤ k) (h : WPost p base v l' wi e w') : e = .returned (.tuple #[]) ∧ Wt w w' p base l' := by
  obtain ⟨rfl, v', hw, hc, _⟩ := h
  exact ⟨rfl, v', hw, hb.trans (hc.below hb.size (Wt.wset hv hbase hp)), hbase, hp⟩
theorem Wt.call {w wi : World} {p : Option Addr} {base F : Nat} {args : Array Value} {l l' : List UInt8} (h : Wt w wi p base l) (hf : ∀ v, Wr wi p base v l → Calls Try.prog F args wi (WPost p base v l' wi)) : Calls Try.prog F args wi fun e w' => e = .returned (.tuple #[]) ∧ Wt w w' p base l' := by
  obtain ⟨v, hv, hb, hbase, hp⟩ := h
  exact (hf v hv).mono fun e w' h => Wt.step hv hb hbase hp h
theorem Wt.below {w wi wj : World} {p : Option Addr} {base B : Nat} {l : List UInt8} (h : Wt w wi p base l) (hb : Below B wi wj) (hB : wi.heap.size ≤ B) : Wt w wj p base l := by
  obtain ⟨v, hv, hbw, hbase, hp⟩ := h
  exact ⟨v, hv.below hb hB, hbw.trans (hb.mono (Nat.le_trans hbw.size hB)), hbase, hp⟩
theorem Wt.put {w wi : World} {p : Option Addr} {base n : Nat} {l : List UInt8} (h : Wt w wi p base l) (hl : l.length ≤ 100000) (xs : List Nat) (hn : n = xs.length) (hx : ∀ x ∈ xs, x < 18446744073709551616) (hxs : xs.length ≤ 1000) (cs : Array Value) (hcs : cs = (xs.map fun x => Value.int .u64 (x : Nat)).toArray) :
    Calls Try.prog 35 #[.pointer p, .slice (some ⟨wi.heap.size, 0, none⟩) n n] (wi.alloc (.cells cs 30)) fun e w' => e = .returned (.tuple #[]) ∧ Wt w w' p base (taken p l (nums xs)) := by
  subst hn hcs
  obtain ⟨v, hv, hbw, hbase, hp⟩ := h
  have hb : Below wi.heap.size wi (wi.alloc (.cells (xs.map fun x => Value.int .u64 (x : Nat)).toArray 30)) := (Below.refl _ _).alloc (Nat.le_refl _) _
  refine (wPut p base v l xs wi.heap.size xs.length _ (hv.below hb (Nat.le_refl _)) hl hx hxs (by simp) (fun hm => by have := hv.wlt _ hm; omega) fun j hj => ?_).mono fun e w' h => Wt.step (hv.below hb (Nat.le_refl _)) (hbw.alloc hbw.size _) hbase hp h
  simp only [World.cell?_alloc_new, List.getElem?_toArray, List.getElem?_map, List.getElem?_eq_getElem hj, List.getD_eq_getElem?_getD, Option.map_some, Option.getD_some]
theorem at_some (g : Nat) : at' (some ⟨g, 0, none⟩) = [g] := rfl
/-- another reader stays -/
theorem Rd.other {w w' : World} {g g' : Nat} {s s' : RS} (h : Rd w (some ⟨g', 0, none⟩) s') (hr : Rd w (some ⟨g, 0, none⟩) s) (hc : Chg (at' (some ⟨g, 0, none⟩)) w w') (hne : g' ≠ g) : Rd w' (some ⟨g', 0, none⟩) s' :=
  h.chg hc (by rw [at_some, at_some]; simpa using hne) hr.nb
def awakeBytes : List UInt8 := [200, 1, 0, 0, 0, 127, 128, 1, 255, 255, 255, 255, 255, 255, 255, 255, 255, 1, 2, 195, 169, 3, 2]
theorem w1_eq : [] ++ [UInt8.ofNat 200] = ([200] : List UInt8) := by decide +kernel
theorem w2_eq : ([200] : List UInt8) ++ le4 1 = [200, 1, 0, 0, 0] := by decide +kernel
theorem w3_eq : ([200, 1, 0, 0, 0] : List UInt8) ++ nums [127, 128, 18446744073709551615] = [200, 1, 0, 0, 0, 127, 128, 1, 255, 255, 255, 255, 255, 255, 255, 255, 255, 1] := by decide +kernel
theorem w4_eq : ([200, 1, 0, 0, 0, 127, 128, 1, 255, 255, 255, 255, 255, 255, 255, 255, 255, 1] : List UInt8) ++ (short (List.length ([195, 169] : List UInt8)) ++ [195, 169]) = [200, 1, 0, 0, 0, 127, 128, 1, 255, 255, 255, 255, 255, 255, 255, 255, 255, 1, 2, 195, 169] := by decide +kernel
theorem w6_eq : ([200, 1, 0, 0, 0, 127, 128, 1, 255, 255, 255, 255, 255, 255, 255, 255, 255, 1, 2, 195, 169] : List UInt8) ++ nums [3, 2] = awakeBytes := by decide +kernel
theorem read_a : RS.get ⟨[129, 128, 0], false⟩ 2 0 = ((0, []), ⟨[129, 128, 0], true⟩) := by kernel_rfl
theorem read_b : RS.get ⟨[129, 0], false⟩ 2 0 = ((0, []), ⟨[129, 0], true⟩) := by kernel_rfl
theorem read_c : RS.get ⟨[2, 97, 98, 99], false⟩ 3 2 = ((0, [97, 98]), ⟨[99], false⟩) := by kernel_rfl
theorem read_d : RS.get ⟨[2, 97, 98, 99], false⟩ 3 1 = ((0, []), ⟨[2, 97, 98, 99], true⟩) := by kernel_rfl
theorem read_e : RS.get ⟨[5], false⟩ 4 2 = ((0, []), ⟨[5], true⟩) := by kernel_rfl
/-- a new reader of a literal's bytes -/
theorem lit_reader (w : World) (b : List UInt8) (cs : Array Value) (n : Nat) (hn : n = b.length) (hcs : cs = (b.map byteV).toArray) (hb : b.length ≤ 1000) :
    Calls Try.prog 17 #[.slice (some ⟨w.heap.size, 0, none⟩) n n] (w.alloc (.cells cs 5)) fun e w' => ∃ g, e = .returned (.pointer (some ⟨g, 0, none⟩)) ∧ Rd w' (some ⟨g, 0, none⟩) ⟨b, false⟩ ∧ Below w.heap.size w w' ∧ w.heap.size ≤ g ∧ g < w'.heap.size := by
  subst hcs
  subst hn
  refine (new_reader _ b _ (bytes_row w b (0, 0) _ rfl (by rw [maxLen_eq]; omega) _ _ rfl (Nat.le_refl _)) (by omega)).mono ?_
  rintro e w' ⟨g, rfl, hr, hb, hg, hl⟩
  exact ⟨g, rfl, hr, (Go.Joins.below_alloc1 w _).trans (hb.mono (by simp)), by simp at hg; omega, hl⟩
set_option maxRecDepth 100000 in
set_option maxHeartbeats 4000000 in
theorem awake_any (w : World) : Calls Try.prog 11 #[] w fun e w' => e = .returned (.bool true) ∧ Below w.heap.size w w' := by
  go_enter Try.func11, Try.ntmps11
  go_wp2_with fail
  refine (new_writer _).mono ?_
  rintro e w1 ⟨rfl, hw, hc⟩
  have HW : Hid (Wt w w1 (some ⟨w.heap.size, 0, none⟩) (w.heap.size + 1) []) := ⟨_, hw, hc.below (Nat.le_refl _) (by simp), by omega, by rw [at_some]; simp⟩
  clear hw hc
  go_wp2_with fail
  refine (HW.out.call fun v hv => wU8 _ _ v _ 200 (by decide) _ hv (by simp)).mono ?_
  rintro e w2 ⟨rfl, hw⟩
  rw [taken_some, w1_eq] at hw
  have HW2 := Lib.hid hw
  clear hw HW
  go_wp2_with fail
  refine (HW2.out.call fun v hv => wU32 _ _ v _ 1 (by decide) _ hv (by simp)).mono ?_
  rintro e w3 ⟨rfl, hw⟩
  rw [taken_some, w2_eq] at hw
  have HW3 := Lib.hid hw
  clear hw HW2
  go_wp2_with fail
  refine (HW3.out.put (by simp) [127, 128, 18446744073709551615] rfl (by decide) (by decide) _ rfl).mono ?_
  rintro e w4 ⟨rfl, hw⟩
  rw [taken_some, w3_eq] at hw
  have HW4 := Lib.hid hw
  clear hw HW3
  go_wp2_with fail
  refine (HW4.out.call fun v hv => wText _ _ v _ [195, 169] _ hv (by simp)).mono ?_
  rintro e w5 ⟨rfl, hw⟩
  rw [taken_some, w4_eq] at hw
  have HW5 := Lib.hid hw
  clear hw HW4
  go_wp2_with fail
  refine (HW5.out.call fun v hv => wRaw _ _ v (.slice none 0 0) _ [] _ hv (BytesAt.nil _) (by simp)).mono ?_
  rintro e w6 ⟨rfl, hw⟩
  rw [taken_some, List.append_nil] at hw
  have HW6 := Lib.hid hw
  clear hw HW5
  go_wp2_with fail
  refine (HW6.out.put (by simp) [3, 2] rfl (by decide) (by decide) _ rfl).mono ?_
  rintro e w7 ⟨rfl, hw⟩
  rw [taken_some, w6_eq] at hw
  have HW7 := Lib.hid hw
  clear hw HW6
  go_wp2_with fail
  refine (lit_reader _ [129, 128, 0] _ _ rfl rfl (by simp)).mono ?_
  rintro e w8 ⟨ga, rfl, hr, hb, hg, hgl⟩
  have hga : w.heap.size ≤ ga := by
    obtain ⟨_, _, h, _⟩ := HW7.out
    exact Nat.le_trans h.size hg
  have HW8 := Lib.hid (HW7.out.below hb (Nat.le_refl _))
  have HA8 := Lib.hid hr
  clear hr hb hg HW7
  go_wp2_with fail
  refine (lit_reader _ [129, 0] _ _ rfl rfl (by simp)).mono ?_
  rintro e w9 ⟨gb, rfl, hr, hb, hg, hgl2⟩
  have HW9 := Lib.hid (HW8.out.below hb (Nat.le_refl _))
  have HA9 := Lib.hid (HA8.out.below hb (Nat.le_refl _))
  have HB9 := Lib.hid hr
  have nab : ga < gb := by omega
  clear hr hb hg hgl HW8 HA8
  go_wp2_with fail
  refine (lit_reader _ [2, 97, 98, 99] _ _ rfl rfl (by simp)).mono ?_
  rintro e w10 ⟨gc, rfl, hr, hb, hg, hgl3⟩
  have HW10 := Lib.hid (HW9.out.below hb (Nat.le_refl _))
  have HA10 := Lib.hid (HA9.out.below hb (Nat.le_refl _))
  have HB10 := Lib.hid (HB9.out.below hb (Nat.le_refl _))
  have HC10 := Lib.hid hr
  have nbc : gb < gc := by omega
  clear hr hb hg hgl2 HW9 HA9 HB9
  go_wp2_with fail
  refine (lit_reader _ [2, 97, 98, 99] _ _ rfl rfl (by simp)).mono ?_
  rintro e w11 ⟨gd, rfl, hr, hb, hg, hgl4⟩
  have HW11 := Lib.hid (HW10.out.below hb (Nat.le_refl _))
  have HA11 := Lib.hid (HA10.out.below hb (Nat.le_refl _))
  have HB11 := Lib.hid (HB10.out.below hb (Nat.le_refl _))
  have HC11 := Lib.hid (HC10.out.below hb (Nat.le_refl _))
  have HD11 := Lib.hid hr
  have ncd : gc < gd := by omega
  clear hr hb hg hgl3 HW10 HA10 HB10 HC10
  go_wp2_with fail
  refine (lit_reader _ [5] _ _ rfl rfl (by simp)).mono ?_
  rintro e w12 ⟨ge, rfl, hr, hb, hg, hgl5⟩
  have HW12 := Lib.hid (HW11.out.below hb (Nat.le_refl _))
  have HA12 := Lib.hid (HA11.out.below hb (Nat.le_refl _))
  have HB12 := Lib.hid (HB11.out.below hb (Nat.le_refl _))
  have HC12 := Lib.hid (HC11.out.below hb (Nat.le_refl _))
  have HD12 := Lib.hid (HD11.out.below hb (Nat.le_refl _))
  have HE12 := Lib.hid hr
  have nde : gd < ge := by omega
  clear hr hb hg hgl4 hgl5 HW11 HA11 HB11 HC11 HD11
  have HN : Hid (w.heap.size ≤ ga ∧ ga < gb ∧ gb < gc ∧ gc < gd ∧ gd < ge) := ⟨hga, nab, nbc, ncd, nde⟩
  clear nab nbc ncd nde hga
  go_wp2_with fail
  have hbytes : Calls Try.prog 16 #[.pointer (some ⟨w.heap.size, 0, none⟩)] w12 (Gives w12 awakeBytes) := by
    obtain ⟨v, hv, _⟩ := HW12.out
    exact wBytes _ _ v _ _ hv (by simp [awakeBytes])
  have hlen : Calls Try.prog 15 #[.pointer (some ⟨w.heap.size, 0, none⟩)] w12 (Gives w12 awakeBytes) → True := fun _ => trivial
  refine hbytes.mono ?_
  rintro e w13 ⟨v, rfl, hown, hb⟩
  have HV : Hid (∃ v, Wr w13 (some ⟨w.heap.size, 0, none⟩) (w.heap.size + 1) v awakeBytes) := by
    obtain ⟨v, hv, _⟩ := HW12.out
    exact ⟨v, hv.below hb (Nat.le_refl _)⟩
  have HZ : Hid (Below w.heap.size w w13) := by
    obtain ⟨_, _, h, _⟩ := HW12.out
    exact h.trans (hb.mono h.size)
  have hs : (convert 27 9 v).run Try.prog w13 = .ok (.string ⟨#[200, 1, 0, 0, 0, 127, 128, 1, 255, 255, 255, 255, 255, 255, 255, 255, 255, 1, 2, 195, 169, 3, 2]⟩) w13 := string_bytes hown.bytesAt
  have HA := Lib.hid (HA12.out.below hb (Nat.le_refl _))
  have HB := Lib.hid (HB12.out.below hb (Nat.le_refl _))
  have HC := Lib.hid (HC12.out.below hb (Nat.le_refl _))
  have HD := Lib.hid (HD12.out.below hb (Nat.le_refl _))
  have HE := Lib.hid (HE12.out.below hb (Nat.le_refl _))
  clear hown hb hbytes hlen HW12 HA12 HB12 HC12 HD12 HE12
  go_wp2_with fail
  have hlen : Calls Try.prog 15 #[.pointer (some ⟨w.heap.size, 0, none⟩)] w13 fun e w' => e = .returned (.int .i64 23) ∧ w13 = w' := by
    obtain ⟨v, hv⟩ := HV.out
    exact wLen _ _ v _ _ hv
  refine hlen.mono ?_
  rintro e w14 ⟨rfl, rfl⟩
  clear hlen hs HV
  go_wp2_with fail
  have ha := uint_any (some ⟨ga, 0, none⟩) ⟨[129, 128, 0], false⟩ _ HA.out
  rw [read_a] at ha
  refine ha.mono ?_
  rintro e w15 ⟨rfl, hr, hc⟩
  have HA2 := Lib.hid hr
  have HB2 := Lib.hid (HB.out.other HA.out hc (by have := HN.out; omega))
  have HC2 := Lib.hid (HC.out.other HA.out hc (by have := HN.out; omega))
  have HD2 := Lib.hid (HD.out.other HA.out hc (by have := HN.out; omega))
  have HE2 := Lib.hid (HE.out.other HA.out hc (by have := HN.out; omega))
  have HZ2 : Hid (Below w.heap.size w w15) := HZ.out.trans (hc.below HZ.out.size (by rw [at_some]; have := HN.out; simp; omega))
  clear hr hc ha HA HB HC HD HE HZ
  go_wp2_with (go_at_call 24; refine (left_any (some ⟨ga, 0, none⟩) ⟨[129, 128, 0], true⟩ _ HA2.out).mono ?_; rintro e w16 ⟨rfl, rfl⟩)
  have hb := uint_any (some ⟨gb, 0, none⟩) ⟨[129, 0], false⟩ _ HB2.out
  rw [read_b] at hb
  refine hb.mono ?_
  rintro e w17 ⟨rfl, hr, hc⟩
  have HB3 := Lib.hid hr
  have HC3 := Lib.hid (HC2.out.other HB2.out hc (by have := HN.out; omega))
  have HD3 := Lib.hid (HD2.out.other HB2.out hc (by have := HN.out; omega))
  have HE3 := Lib.hid (HE2.out.other HB2.out hc (by have := HN.out; omega))
  have HZ3 : Hid (Below w.heap.size w w17) := HZ2.out.trans (hc.below HZ2.out.size (by rw [at_some]; have := HN.out; simp; omega))
  clear hr hc hb HA2 HB2 HC2 HD2 HE2 HZ2
  go_wp2_with (go_at_call 25; refine (err_any (some ⟨gb, 0, none⟩) ⟨[129, 0], true⟩ _ HB3.out).mono ?_; rintro e w18 ⟨rfl, rfl⟩; rw [show errOf (RS.mk [129, 0] true).bad = 2 from rfl])
  have hb := text_m (some ⟨gc, 0, none⟩) ⟨[2, 97, 98, 99], false⟩ 2 _ (by omega) HC3.out
  rw [read_c] at hb
  refine hb.mono ?_
  rintro e w19 ⟨rfl, hr, hc⟩
  have HC4 := Lib.hid hr
  have HD4 := Lib.hid (HD3.out.other HC3.out hc (by have := HN.out; omega))
  have HE4 := Lib.hid (HE3.out.other HC3.out hc (by have := HN.out; omega))
  have HZ4 : Hid (Below w.heap.size w w19) := HZ3.out.trans (hc.below HZ3.out.size (by rw [at_some]; have := HN.out; simp; omega))
  clear hr hc hb HB3 HC3 HD3 HE3 HZ3
  go_wp2_with (go_at_call 24; refine (left_any (some ⟨gc, 0, none⟩) ⟨[99], false⟩ _ HC4.out).mono ?_; rintro e w20 ⟨rfl, rfl⟩)
  have hb := text_m (some ⟨gd, 0, none⟩) ⟨[2, 97, 98, 99], false⟩ 1 _ (by omega) HD4.out
  rw [read_d] at hb
  refine hb.mono ?_
  rintro e w21 ⟨rfl, hr, hc⟩
  have HD5 := Lib.hid hr
  have HE5 := Lib.hid (HE4.out.other HD4.out hc (by have := HN.out; omega))
  have HZ5 : Hid (Below w.heap.size w w21) := HZ4.out.trans (hc.below HZ4.out.size (by rw [at_some]; have := HN.out; simp; omega))
  clear hr hc hb HC4 HD4 HE4 HZ4
  go_wp2_with (go_at_call 24; refine (left_any (some ⟨gd, 0, none⟩) ⟨[2, 97, 98, 99], true⟩ _ HD5.out).mono ?_; rintro e w22 ⟨rfl, rfl⟩)
  have hb := raw_m (some ⟨ge, 0, none⟩) ⟨[5], false⟩ 2 _ (by simp) HE5.out
  rw [read_e] at hb
  refine hb.mono ?_
  rintro e w23 ⟨⟨v5, rfl, hown⟩, hr, hc⟩
  obtain ⟨a5, c5, rfl⟩ := hown.form
  have HE6 := Lib.hid hr
  have HZ6 : Hid (Below w.heap.size w w23) := HZ5.out.trans (hc.below HZ5.out.size (by rw [at_some]; have := HN.out; simp; omega))
  clear hr hc hb HD5 HE5 HZ5 hown
  go_wp2_with fail
  refine (end_any (some ⟨ge, 0, none⟩) ⟨[5], true⟩ _ HE6.out).mono ?_
  rintro e w24 ⟨rfl, hr, hc⟩
  have HZ7 : Hid (Below w.heap.size w w24) := HZ6.out.trans (hc.below HZ6.out.size (by rw [at_some]; have := HN.out; simp; omega))
  rw [show errOf (RS.end' (RS.mk [5] true)).bad = 2 from rfl]
  clear hr hc HE6 HZ6
  go_wp2
  go_ret
  exact ⟨rfl, HZ7.out⟩
end Go.Proofs.Ytniogemgkcoimaa
