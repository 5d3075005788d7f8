/- alike: two disks of one state are alike. -/
import Derived.Test.YticbfnflillokaaKeys
import Derived.Test.YticbfnflillokaaSys
namespace Go.Proofs.Yticbfnflillokaa
open Go.RowKit Go.Sort
/-- the slice v reads as the strings ks, in blocks of which I holds -/
def StrsIn (I : Bks) (w : World) (v : Value) (ks : List Bs) : Prop := ∃ a cap, v = .slice a ks.length cap ∧ ks.length ≤ cap ∧ cap ≤ maxLen ∧ (0 < ks.length → ∃ b, a = some ⟨b, 0, none⟩ ∧ I b ∧ b < w.heap.size ∧ ∀ j k, ks[j]? = some k → w.cell? ⟨b, j, none⟩ = some (encStr k))
theorem StrsIn.keep {J I : Bks} {w W : World} {v : Value} {ks : List Bs} (h : StrsIn J w v ks) (hk : Keep I w W) (hJ : ∀ k, J k → I k) : StrsIn J W v ks := by
  obtain ⟨a, cap, hv, h1, h2, h⟩ := h
  refine ⟨a, cap, hv, h1, h2, fun h0 => ?_⟩
  obtain ⟨b, ha, hJb, hb, hc⟩ := h h0
  exact ⟨b, ha, hJb, Nat.lt_of_lt_of_le hb hk.1, fun j k hj => by rw [← hc j k hj]; exact World.cell?_of_block (hk.2 b (hJ b hJb) hb)⟩
theorem StrsIn.wide {I J : Bks} {w : World} {v : Value} {ks : List Bs} (h : StrsIn I w v ks) (hi : ∀ k, I k → J k) : StrsIn J w v ks := by
  obtain ⟨a, cap, hv, h1, h2, h⟩ := h
  exact ⟨a, cap, hv, h1, h2, fun h0 => by obtain ⟨b, ha, hJb, hb, hc⟩ := h h0; exact ⟨b, ha, hi b hJb, hb, hc⟩⟩
theorem OwnStrs.strsIn {base : Nat} {w : World} {v : Value} {ks : List Bs} (h : OwnStrs base w v ks) : StrsIn (fun k => v.ownBlock = some k) w v ks := by
  rcases h.2 with ⟨rfl, h0⟩ | ⟨g, cap, cur, rfl, hbg, hg, hnc, hcm, hcs, htake⟩
  · exact ⟨none, 0, by rw [h0], by omega, by unfold maxLen; omega, fun h => by omega⟩
  · refine ⟨some ⟨g, 0, none⟩, cap, rfl, hnc, hcm, fun _ => ⟨g, rfl, rfl, (Array.getElem?_eq_some_iff.1 hg).1, fun j k hj => ?_⟩⟩
    have hjl := (List.getElem?_eq_some_iff.1 hj).1
    have := World.ownsRow.cellAt h j (by omega)
    rw [this, List.getElem?_map, hj]; rfl
theorem Two.narrow {w wi : World} {J J' : Bks} {p N q M : Nat} {d c : Dk} (h : Two w J wi p N d q M c) (hJ : ∀ k, J' k → J k) : Two w J' wi p N d q M c := by
  obtain ⟨O, I, O2, I2, h1, h2, hO, hO2, hs, hs2, hj, hb⟩ := h
  exact ⟨O, I, O2, I2, h1, h2, fun k hk => ⟨fun h => (hO k hk).1 (hJ k h), (hO k hk).2⟩, fun k hk => ⟨fun h => (hO2 k hk).1 (hJ k h), (hO2 k hk).2⟩, hs, hs2, fun k hk => hj k (hJ k hk), hb⟩
theorem Two.still {w wi w' : World} {J : Bks} {p N q M : Nat} {d c : Dk} (h : Two w J wi p N d q M c) (hb' : Below wi.heap.size wi w') : Two w J w' p N d q M c ∧ Keep J wi w' := by
  obtain ⟨h1, h2⟩ := h.more hb' (fun _ => False) fun _ h => h.elim
  exact ⟨h1.narrow fun _ h => .inl h, h2⟩
theorem Keep.narrow {I J : Bks} {a b : World} (h : Keep J a b) (hi : ∀ k, I k → J k) : Keep I a b := ⟨h.1, fun k hk => h.2 k (hi k hk)⟩
/-- what the names are that Names tells -/
def Dk.told (d : Dk) : List Bs := if d.down then [] else d.seen.names
theorem DiskAt.told_le {w : World} {O I : Bks} {p N : Nat} {d : Dk} (h : DiskAt w O I p N d) : ∀ k ∈ d.told, k.length ≤ maxLen := by
  obtain ⟨n1, n2, m1, m2, wv, vs, S1, S2, hp⟩ := h.raw
  obtain ⟨M, _, _, _, _, _, h1, _⟩ := hp.two
  intro k hk
  unfold Dk.told at hk
  split at hk
  · cases hk
  · have := (Fs.mem_names _ k).1 hk
    obtain ⟨l, hl⟩ := Option.isSome_iff_exists.1 this
    have := isName_le (h1 k l hl).1
    unfold maxLen; omega
theorem Two.names {w wi : World} {J : Bks} {p N q M : Nat} {d c : Dk} (h : Two w J wi p N d q M c) (hN : N ≤ 400000) : Calls Try.prog 26 #[.pointer (some ⟨p, 0, none⟩)] wi fun e w' =>
    ∃ a cap, ∃ X : Bks, e = .returned (.slice a d.told.length cap) ∧ StrsIn (fun i => J i ∨ X i) w' (.slice a d.told.length cap) d.told ∧ Two w (fun i => J i ∨ X i) w' p N d q M c ∧ Keep J wi w' := by
  have h2 := h
  obtain ⟨O, I, _, _, hd, _⟩ := h
  refine (names_any hd hN).mono ?_
  rintro e w' ⟨v, rfl, ho, hb⟩
  have hm := h2.more hb (fun i => v.ownBlock = some i) fun i hi => World.ownsRow.lt ho i hi
  have hs := OwnStrs.strsIn ho
  obtain ⟨a, cap, rfl, _⟩ := id hs
  exact ⟨a, cap, _, rfl, hs.wide fun i hi => .inr hi, hm⟩
theorem lack_same {d c : Dk} (hs : c.seen = d.seen) (hd : c.down = d.down) (k : Bs) (ns : List Bs) : lack c k ns = lack d k ns := by
  unfold lack refuse; rw [hs, hd]
theorem told_same {d c : Dk} (hs : c.seen = d.seen) (hd : c.down = d.down) : c.told = d.told := by
  unfold Dk.told; rw [hs, hd]
set_option maxRecDepth 100000 in
set_option maxHeartbeats 4000000 in
theorem alike_any {w wi : World} {J : Bks} {p N q M : Nat} {d c : Dk} (h : Two w J wi p N d q M c) (hN : N ≤ 400000) (hM : M ≤ 400000) (hs : c.seen = d.seen) (hd : c.down = d.down) :
    Calls Try.prog 33 #[.pointer (some ⟨p, 0, none⟩), .pointer (some ⟨q, 0, none⟩)] wi fun e w' => e = .returned (.bool true) ∧ Two w J w' p N d q M c ∧ Keep J wi w' := by
  have HT := Lib.hid (told_same hs hd)
  have HL : Hid (∀ k ns, lack c k ns = lack d k ns) := lack_same hs hd
  have HS := Lib.hid (And.intro hs hd)
  have HLE : Hid (∀ k ∈ d.told, k.length ≤ maxLen) := by obtain ⟨_, _, _, _, hh, _⟩ := h; exact hh.told_le
  have H0 := Lib.hid h
  clear h hs hd
  go_enter Try.func33, Try.ntmps33
  go_wp2_with fail
  refine (H0.out.names hN).mono ?_
  rintro e w1 ⟨a1, c1, X1, rfl, s1, h1, k1⟩
  have H1 := Lib.hid (And.intro s1 (And.intro h1 k1))
  clear s1 h1 k1
  go_wp2_with fail
  have hc := H1.out.2.1.swap.names hM
  rw [HT.out] at hc
  refine hc.mono ?_
  rintro e w2 ⟨a2, c2, X2, rfl, s2, h2, k2⟩
  obtain ⟨J2, hJ2⟩ : ∃ J2 : Bks, J2 = fun i => (J i ∨ X1 i) ∨ X2 i := ⟨_, rfl⟩
  have H2 : Hid (StrsIn J2 w2 (.slice a1 d.told.length c1) d.told ∧ StrsIn J2 w2 (.slice a2 d.told.length c2) d.told ∧ Two w J2 w2 p N d q M c ∧ Keep J wi w2) := by
    rw [hJ2]
    exact ⟨(H1.out.1.keep k2 fun _ h => h).wide fun _ h => .inl h, s2, h2.swap, H1.out.2.2.trans (k2.narrow fun _ h => .inl h)⟩
  have HJ : Hid (∀ k, J k → J2 k) := fun k hk => by rw [hJ2]; exact .inl (.inl hk)
  clear hc s2 h2 k2 H1 H0 hJ2
  go_wp2_with fail
  obtain ⟨_, _, _, _, hd1, hd2, _⟩ := H2.out.2.2.1
  have hb2 := bytes_any hd2
  rw [HS.out.1, HS.out.2] at hb2
  have HB2 := Lib.hid hb2
  obtain ⟨z, hz⟩ : ∃ z : Int, ((if d.down then 0 else d.seen.total : Nat) : Int) = z := ⟨_, rfl⟩
  have hc := bytes_any hd1
  rw [hz] at hc HB2
  clear hd1 hd2 hz hb2
  refine hc.mono ?_
  rintro e w3 ⟨rfl, rfl⟩
  clear hc
  go_wp2_with fail
  refine HB2.out.mono ?_
  rintro e w3 ⟨rfl, rfl⟩
  clear HB2
  obtain ⟨ks, hks⟩ : ∃ ks, d.told = ks := ⟨_, rfl⟩
  rw [hks] at H2 HLE ⊢
  clear hks HT
  go_wp2
  go_loopw [7, 8, 9, 10, 11] (fun i _ _ _ _ wr => ∃ k : Nat, k ≤ ks.length ∧ i = .int .i64 (k : Nat) ∧ Hid (StrsIn J2 wr (.slice a1 ks.length c1) ks ∧ StrsIn J2 wr (.slice a2 ks.length c2) ks ∧ Two w J2 wr p N d q M c ∧ Keep J wi wr)) (fun i _ _ _ _ _ => ks.length - (intOf i).toNat)
  case atStart => exact ⟨0, Nat.zero_le _, rfl, H2.out⟩
  case round =>
    obtain ⟨k, hk, rfl, HR⟩ := hrel
    clear H2
    by_cases hlt : k < ks.length
    · obtain ⟨x, hx⟩ : ∃ x, ks[k]? = some x := ⟨_, List.getElem?_eq_getElem hlt⟩
      obtain ⟨⟨_, _, e1, hl1, hl2, q1⟩, ⟨_, _, e2, hl3, hl4, q2⟩, _⟩ := HR.out
      obtain ⟨b1, rfl, j1, l1, q1⟩ := q1 (by omega)
      obtain ⟨b2, rfl, j2, l2, q2⟩ := q2 (by omega)
      injection e1 with e1 _ e1'
      injection e2 with e2 _ e2'
      subst e1 e2 e1' e2'
      have HC : Hid (∀ W, Keep J2 wr W → W.cell? ⟨b1, k, none⟩ = some (encStr x) ∧ W.cell? ⟨b2, k, none⟩ = some (encStr x)) := fun W hW =>
        ⟨by rw [← q1 k x hx]; exact World.cell?_of_block (hW.2 b1 j1 l1), by rw [← q2 k x hx]; exact World.cell?_of_block (hW.2 b2 j2 l2)⟩
      have HXL := Lib.hid (HLE.out x (List.mem_of_getElem? hx))
      have u1 := (HC.out wr (Keep.refl _ _)).1
      rw [maxLen_eq] at hl2 hl4
      clear q1 q2 hx j1 j2 l1 l2
      go_wp2_with fail
      refine (HR.out.2.2.1.read x HXL.out).mono ?_
      rintro e w3 ⟨ra, rn, rc, Y1, rfl, r1, h3, k3⟩
      have H3 := Lib.hid (And.intro r1 (And.intro h3 k3))
      have u1 := (HC.out w3 k3).1
      clear r1 h3 k3
      go_wp2_with fail
      have hc := (H3.out.2.1.swap).read x HXL.out
      rw [HL.out, HS.out.1] at hc
      refine hc.mono ?_
      rintro e w4 ⟨sa, sn, sc, Y2, rfl, r2, h4, k4⟩
      have hk4 : Keep J2 wr w4 := H3.out.2.2.trans (k4.narrow fun _ h => .inl h)
      have H4 : Hid (∀ m, StrsIn J2 (w4.drewN m) (.slice (some ⟨b1, 0, none⟩) ks.length c1) ks ∧ StrsIn J2 (w4.drewN m) (.slice (some ⟨b2, 0, none⟩) ks.length c2) ks ∧ Two w J2 (w4.drewN m) p N d q M c ∧ Keep J wi (w4.drewN m)) := fun m => by
        have hk5 : Keep J2 wr (w4.drewN m) := hk4.trans ⟨Nat.le_refl _, fun _ _ _ => rfl⟩
        exact ⟨HR.out.1.keep hk5 fun _ h => h, HR.out.2.1.keep hk5 fun _ h => h, (h4.swap.still (Go.Joins.below_draws _ _ m)).1.narrow fun _ h => .inl (.inl h), HR.out.2.2.2.trans (hk5.narrow HJ.out)⟩
      have t1 := fun n => string_bytes ((H3.out.1.keep k4 fun _ h => h).below (Go.Joins.below_draws w4.heap.size w4 n) (Nat.le_refl _))
      have t2 := fun n => string_bytes (r2.below (Go.Joins.below_draws w4.heap.size w4 n) (Nat.le_refl _))
      have u1 := (HC.out w4 hk4).1
      have u2 := (HC.out w4 hk4).2
      obtain ⟨g, hg⟩ : ∃ g, lack d x [] = g := ⟨_, rfl⟩
      rw [hg] at t1 t2 ⊢
      clear hc hg H3 HR hk4 k4 h4 r2 HC
      generalize (⟨(if g = 0 then (d.seen.get x).getD [] else []).toArray⟩ : ByteArray) = S at t1 t2
      have hlk : (k : Int) < (ks.length : Int) := by omega
      go_wp2_with fail
      go_quiet (fail)
      go_wp2
      go_roundw
      case rel => exact ⟨k + 1, by omega, by go_num, H4.out _⟩
      case measure => simp [intOf]; omega
    · obtain rfl : k = ks.length := by omega
      go_wp2
      go_ret
      exact ⟨rfl, HR.out.2.2.1.narrow HJ.out, HR.out.2.2.2⟩
end Go.Proofs.Yticbfnflillokaa
