/- A disk that New made; refuses, lacks; the changes as they are laid. -/
import Derived.Test.YticbfnflillokaaAwait
namespace Go.Proofs.Yticbfnflillokaa
open Go.RowKit Go.Maps Go.WideMaps
/-- the disk d at block p, behind N changes at most; the blocks O are its own, the blocks I stay as they are -/
def DiskAt (w : World) (O I : Nat → Prop) (p N : Nat) (d : Dk) : Prop := ∃ n1 n2, DiskRaw w O I p n1 n2 d ∧ d.ok ∧ n1 + d.waits.length ≤ N ∧ n2 ≤ N ∧ d.serial ≤ N + 1
/-- what a call leaves: it changes what is its own, and makes new blocks -/
def Step (w : World) (O I : Nat → Prop) (w' : World) (O' I' : Nat → Prop) : Prop := Chg O w w' ∧ (∀ k, O' k → O k ∨ w.heap.size ≤ k) ∧ ∀ k, I' k → I k ∨ w.heap.size ≤ k
theorem Step.of_below {w w' : World} {O I : Nat → Prop} (h : Below w.heap.size w w') : Step w O I w' O I := ⟨Chg.of_below h (Nat.le_refl _), fun _ h => .inl h, fun _ h => .inl h⟩
theorem DiskP.block' {w : World} {O I : Nat → Prop} {p n1 n2 : Nat} {d : Dk} (h : DiskRaw w O I p n1 n2 d) : ∃ m1 m2 wv, w.heap[p]? = some (.cells #[.map (some m1), .int .i64 (d.synced.total : Nat), .int .i64 (d.cap : Nat), .int .u64 (d.serial : Nat), .bool d.down, .map (some m2), .int .i64 (d.seen.total : Nat), wv, .pointer (some ⟨p, 0, none⟩)] 47 (0, 0)) := by
  obtain ⟨m1, m2, wv, _, _, _, h⟩ := h; exact ⟨m1, m2, wv, h.block⟩
theorem DiskRaw.c8 {w : World} {O I : Nat → Prop} {p n1 n2 : Nat} {d : Dk} (h : DiskRaw w O I p n1 n2 d) : w.cell? ⟨p, 8, none⟩ = some (.pointer (some ⟨p, 0, none⟩)) := by
  obtain ⟨_, _, _, h⟩ := DiskP.block' h; rw [Go.Joins.cell_of_block h]; rfl
theorem DiskRaw.c4 {w : World} {O I : Nat → Prop} {p n1 n2 : Nat} {d : Dk} (h : DiskRaw w O I p n1 n2 d) : w.cell? ⟨p, 4, none⟩ = some (.bool d.down) := by
  obtain ⟨_, _, _, h⟩ := DiskP.block' h; rw [Go.Joins.cell_of_block h]; rfl
theorem DiskRaw.c2 {w : World} {O I : Nat → Prop} {p n1 n2 : Nat} {d : Dk} (h : DiskRaw w O I p n1 n2 d) : w.cell? ⟨p, 2, none⟩ = some (.int .i64 (d.cap : Nat)) := by
  obtain ⟨_, _, _, h⟩ := DiskP.block' h; rw [Go.Joins.cell_of_block h]; rfl
theorem DiskRaw.c3 {w : World} {O I : Nat → Prop} {p n1 n2 : Nat} {d : Dk} (h : DiskRaw w O I p n1 n2 d) : w.cell? ⟨p, 3, none⟩ = some (.int .u64 (d.serial : Nat)) := by
  obtain ⟨_, _, _, h⟩ := DiskP.block' h; rw [Go.Joins.cell_of_block h]; rfl
theorem DiskRaw.c6 {w : World} {O I : Nat → Prop} {p n1 n2 : Nat} {d : Dk} (h : DiskRaw w O I p n1 n2 d) : w.cell? ⟨p, 6, none⟩ = some (.int .i64 (d.seen.total : Nat)) := by
  obtain ⟨_, _, _, h⟩ := DiskP.block' h; rw [Go.Joins.cell_of_block h]; rfl
theorem DiskRaw.fz {w : World} {O I : Nat → Prop} {p n1 n2 : Nat} {d : Dk} (h : DiskRaw w O I p n1 n2 d) (i : Nat) : w.frozen? ⟨p, i, none⟩ = false := by
  obtain ⟨_, _, _, h⟩ := DiskP.block' h; simp [World.frozen?, h]
theorem DiskRaw.lt {w : World} {O I : Nat → Prop} {p n1 n2 : Nat} {d : Dk} (h : DiskRaw w O I p n1 n2 d) : ∀ k, O k ∨ I k → k < w.heap.size := by
  obtain ⟨_, _, _, _, _, _, h⟩ := h; exact h.lt
theorem DiskRaw.op {w : World} {O I : Nat → Prop} {p n1 n2 : Nat} {d : Dk} (h : DiskRaw w O I p n1 n2 d) : O p := by
  obtain ⟨_, _, _, _, _, _, h⟩ := h; exact h.op
theorem DiskRaw.di {w : World} {O I : Nat → Prop} {p n1 n2 : Nat} {d : Dk} (h : DiskRaw w O I p n1 n2 d) : ∀ k, O k → ¬ I k := by
  obtain ⟨_, _, _, _, _, _, h⟩ := h; exact h.di
theorem DiskRaw.below {w w' : World} {O I : Nat → Prop} {p n1 n2 : Nat} {d : Dk} (h : DiskRaw w O I p n1 n2 d) {B : Nat} (hb : Below B w w') (hB : w.heap.size ≤ B) : DiskRaw w' O I p n1 n2 d :=
  h.chg (Chg.of_below (S := fun _ => False) hb hB) fun _ h => h.elim
/-- more blocks that stay as they are -/
theorem DiskRaw.wide {w : World} {O I J : Nat → Prop} {p n1 n2 : Nat} {d : Dk} (h : DiskRaw w O I p n1 n2 d) (hi : ∀ k, I k → J k) (hO : ∀ k, O k → ¬ J k) (hl : ∀ k, J k → k < w.heap.size) : DiskRaw w O J p n1 n2 d := by
  obtain ⟨m1, m2, wv, vs, S1, S2, h⟩ := h
  exact ⟨m1, m2, wv, vs, S1, S2, { h with chs := fun j c v hj hv => (h.chs j c v hj hv).wide hi, di := hO, lt := fun k hk => hk.elim (fun hk => h.lt k (.inl hk)) (hl k) }⟩
theorem DiskAt.raw {w : World} {O I : Nat → Prop} {p N : Nat} {d : Dk} (h : DiskAt w O I p N d) : ∃ n1 n2, DiskRaw w O I p n1 n2 d := by obtain ⟨n1, n2, h, _⟩ := h; exact ⟨n1, n2, h⟩
theorem DiskAt.ok {w : World} {O I : Nat → Prop} {p N : Nat} {d : Dk} (h : DiskAt w O I p N d) : d.ok := by obtain ⟨n1, n2, _, h, _⟩ := h; exact h
theorem DiskAt.mono {w : World} {O I : Nat → Prop} {p N N' : Nat} {d : Dk} (h : DiskAt w O I p N d) (hN : N ≤ N') : DiskAt w O I p N' d := by
  obtain ⟨n1, n2, h, ho, h1, h2, h3⟩ := h; exact ⟨n1, n2, h, ho, by omega, by omega, by omega⟩
theorem DiskAt.chg {w w' : World} {O I : Nat → Prop} {p N : Nat} {d : Dk} {C : Nat → Prop} (h : DiskAt w O I p N d) (hc : Chg C w w') (hd : ∀ k, C k → ¬ O k ∧ ¬ I k) : DiskAt w' O I p N d := by
  obtain ⟨n1, n2, h, r⟩ := h; exact ⟨n1, n2, h.chg hc hd, r⟩
theorem DiskAt.below {w w' : World} {O I : Nat → Prop} {p N : Nat} {d : Dk} (h : DiskAt w O I p N d) {B : Nat} (hb : Below B w w') (hB : w.heap.size ≤ B) : DiskAt w' O I p N d :=
  h.chg (Chg.of_below (S := fun _ => False) hb hB) fun _ h => h.elim
/-- why nothing is done with files of those names -/
def refuse (d : Dk) (ns : List Bs) : Int := if d.down then 6 else if ns.all isName = true then 0 else 1
theorem refuses_disk {w : World} {O I : Nat → Prop} {p n1 n2 : Nat} {d : Dk} (h : DiskRaw w O I p n1 n2 d) (b : Nat) (ns : List Bs) (hns : NamesAt w b ns) (hl : ns.length ≤ 2) :
    Calls Try.prog 38 #[.pointer (some ⟨p, 0, none⟩), .slice (some ⟨b, 0, none⟩) ns.length ns.length] w fun e w' => e = .returned (.int .i64 (refuse d ns)) ∧ Below w.heap.size w w' := by
  have hd := down_yes p d.down w h.c8 h.c4
  unfold refuse
  cases hdn : d.down
  · rw [hdn] at hd
    exact refuses_up _ b ns _ w hd hns hl (Nat.le_refl _)
  · rw [hdn] at hd
    refine (refuses_down _ _ w hd).mono ?_
    rintro e w' ⟨rfl, rfl⟩
    exact ⟨rfl, Below.refl _ _⟩
/-- .. if there must be a file of the first of them -/
def lack (d : Dk) (n : Bs) (ns : List Bs) : Int := if refuse d (n :: ns) = 0 then (if (d.seen.get n).isSome = true then 0 else 4) else refuse d (n :: ns)
theorem refuse_cases (d : Dk) (ns : List Bs) : refuse d ns = 0 ∨ refuse d ns = 1 ∨ refuse d ns = 6 := by
  unfold refuse
  split
  · exact .inr (.inr rfl)
  · split
    · exact .inl rfl
    · exact .inr (.inl rfl)
theorem refuse_ok {d : Dk} {ns : List Bs} (h : refuse d ns = 0) : d.down = false ∧ ∀ n ∈ ns, isName n = true := by
  unfold refuse at h
  split at h
  · cases h
  · rename_i h1
    split at h
    · rename_i h2
      exact ⟨by simpa using h1, by rwa [List.all_eq_true] at h2⟩
    · cases h
set_option maxRecDepth 100000 in
set_option maxHeartbeats 400000 in
theorem lacks_disk {w : World} {O I : Nat → Prop} {p n1 n2 : Nat} {d : Dk} (h : DiskRaw w O I p n1 n2 d) (b : Nat) (n : Bs) (ns : List Bs) (hns : NamesAt w b (n :: ns)) (hl : (n :: ns).length ≤ 2) (K : Nat) (hK : K = (n :: ns).length) :
    Calls Try.prog 55 #[.pointer (some ⟨p, 0, none⟩), .slice (some ⟨b, 0, none⟩) K K] w fun e w' => e = .returned (.int .i64 (lack d n ns)) ∧ Below w.heap.size w w' := by
  have HR := Lib.hid (refuses_disk h b (n :: ns) hns hl)
  rw [← hK] at HR
  have hK0 : 0 < K := by rw [hK]; simp
  have HH := Lib.hid h
  have HNS := Lib.hid hns
  obtain ⟨R, hR⟩ : ∃ R, R = refuse d (n :: ns) := ⟨_, rfl⟩
  have hcases := refuse_cases d (n :: ns)
  rw [← hR] at HR hcases
  rcases hcases with h0 | h1 | h1
  · rw [h0] at HR
    have hlk : lack d n ns = if (d.seen.get n).isSome = true then 0 else 4 := by unfold lack; rw [← hR, h0]; rfl
    rw [hlk]
    have h00 : refuse d (n :: ns) = 0 := hR.symm.trans h0
    have hnm : isName n = true := (refuse_ok h00).2 n List.mem_cons_self
    have HHAS : Hid (∀ W, Below w.heap.size w W → Calls Try.prog 71 #[.pointer (some ⟨p, 5, none⟩), .string ⟨n.toArray⟩] W.drew fun e w' => e = .returned (.bool (d.seen.get n).isSome) ∧ w' = W.drew) := by
      intro W hb
      obtain ⟨m1, m2, wv, vs, S1, S2, hP⟩ := h.below hb (Nat.le_refl _)
      obtain ⟨M, hM, _, _, _, g0, g1, _⟩ := hP.two
      have he : (M n).isSome = (d.seen.get n).isSome := by
        cases hg : d.seen.get n with
        | none => rw [g0 n hg]; rfl
        | some l => obtain ⟨_, s, hs, _⟩ := g1 n l hg; rw [hs]; rfl
      rw [← he]
      exact has_any p 5 m2 n2 M n W.drew (by show W.cell? _ = _; rw [Go.Joins.cell_of_block hP.block]; rfl) hM (keyOf_name hnm)
    have HC0 : Hid (∀ W, Below w.heap.size w W → W.cell? ⟨b, 0, none⟩ = some (.string ⟨n.toArray⟩)) := fun W hb => ((HNS.out.below hb (Nat.le_refl _)).2 0 n rfl).1
    clear h hns hlk hnm hR h0 h00 hK hl
    cases hg : (d.seen.get n).isSome
    · rw [hg] at HHAS
      go_enter Try.func55, Try.ntmps55
      go_wp2_with (go_at_call 38; refine HR.out.mono ?_; rintro e w1 ⟨rfl, hb⟩; have HB := Lib.hid hb; clear hb)
      have c0 := HC0.out w1 HB.out
      have HX := Lib.hid (HHAS.out w1 HB.out)
      refine wp_region_still_lit (by kernel_rfl) (by kernel_rfl) ?_
      repeat still_step
      still_call HX.out
      repeat still_step
      refine wpStill_nil ?_
      go_wp2
      go_ret
      exact ⟨rfl, HB.out.drew⟩
    · rw [hg] at HHAS
      go_enter Try.func55, Try.ntmps55
      go_wp2_with (go_at_call 38; refine HR.out.mono ?_; rintro e w1 ⟨rfl, hb⟩; have HB := Lib.hid hb; clear hb)
      have c0 := HC0.out w1 HB.out
      have HX := Lib.hid (HHAS.out w1 HB.out)
      refine wp_region_still_lit (by kernel_rfl) (by kernel_rfl) ?_
      repeat still_step
      still_call HX.out
      repeat still_step
      refine wpStill_nil ?_
      go_wp2
      go_ret
      exact ⟨rfl, HB.out.drew⟩
  · rw [h1] at HR
    have hlk : lack d n ns = 1 := by unfold lack; rw [← hR, h1]; rfl
    rw [hlk]
    clear h hns hlk hR h1 hK hl
    go_enter Try.func55, Try.ntmps55
    go_wp2_with (go_at_call 38; refine HR.out.mono ?_; rintro e w1 ⟨rfl, hb⟩; have HB := Lib.hid hb; clear hb)
    go_ret
    exact ⟨rfl, HB.out⟩
  · rw [h1] at HR
    have hlk : lack d n ns = 6 := by unfold lack; rw [← hR, h1]; rfl
    rw [hlk]
    clear h hns hlk hR h1 hK hl
    go_enter Try.func55, Try.ntmps55
    go_wp2_with (go_at_call 38; refine HR.out.mono ?_; rintro e w1 ⟨rfl, hb⟩; have HB := Lib.hid hb; clear hb)
    go_ret
    exact ⟨rfl, HB.out⟩
theorem lack_cases (d : Dk) (n : Bs) (ns : List Bs) : lack d n ns = 0 ∨ lack d n ns = 1 ∨ lack d n ns = 4 ∨ lack d n ns = 6 := by
  unfold lack
  split
  · split
    · exact .inl rfl
    · exact .inr (.inr (.inl rfl))
  · rcases refuse_cases d (n :: ns) with h | h | h <;> rw [h] <;> simp
theorem lack_ok {d : Dk} {n : Bs} {ns : List Bs} (h : lack d n ns = 0) : d.down = false ∧ (∀ m ∈ n :: ns, isName m = true) ∧ (d.seen.get n).isSome = true := by
  unfold lack at h
  split at h
  · rename_i h0
    split at h
    · rename_i h1
      exact ⟨(refuse_ok h0).1, (refuse_ok h0).2, h1⟩
    · cases h
  · rename_i h0; exact absurd h h0
/-- a block that holds one value -/
theorem BytesIn.keep {J I : Nat → Prop} {w W : World} {v : Value} {l : Bs} (h : BytesIn J w v l) (hk : Keep I w W) (hJ : ∀ k, J k → I k) : BytesIn J W v l := by
  rcases h with h | ⟨ad, cap, rfl, hl, hr⟩
  · exact .inl h
  · exact .inr ⟨ad, cap, rfl, hl, fun h => by
      obtain ⟨b, off, rfl, hbl, hr⟩ := hr h
      have hsz := hk.1
      refine ⟨b, off, rfl, ⟨by omega, hbl.2⟩, fun j hj => ?_⟩
      rw [← hr j hj]
      exact World.cell?_of_block (hk.2 b (hJ b hbl.2) hbl.1)⟩
theorem Keep.cell {I : Nat → Prop} {w W : World} {a : Nat} {v : Value} (hk : Keep I w W) (ha : I a) (h : w.cell? ⟨a, 0, none⟩ = some v) : W.cell? ⟨a, 0, none⟩ = some v := by
  rw [← h]; exact World.cell?_of_block (hk.2 a ha (cell_lt h))
theorem enters43 : Enters 43 := enters_of Try.func43 (by kernel_rfl) rfl
theorem enters45 : Enters 45 := enters_of Try.func45 (by kernel_rfl) rfl
theorem enters57 : Enters 57 := enters_of Try.func57 (by kernel_rfl) rfl
theorem enters59 : Enters 59 := enters_of Try.func59 (by kernel_rfl) rfl
theorem enters61 : Enters 61 := enters_of Try.func61 (by kernel_rfl) rfl
theorem app_at {w : World} {I : Nat → Prop} {a b : Nat} {k l : Bs} {u : Value} {J : Nat → Prop} (ca : w.cell? ⟨a, 0, none⟩ = some (.string ⟨k.toArray⟩)) (cb : w.cell? ⟨b, 0, none⟩ = some u) (hu : BytesIn J w u l) (hk : isName k = true) (hl : l.length ≤ 100000) (ha : I a) (hb : I b) (hJ : ∀ k, J k → I k) :
    ChAt w I (.app k l) (.func (.func 43) #[] #[.pointer (some ⟨a, 0, none⟩), .pointer (some ⟨b, 0, none⟩)], .func (.func 45) #[] #[.pointer (some ⟨b, 0, none⟩), .pointer (some ⟨a, 0, none⟩)]) :=
  ⟨⟨43, _, rfl, enters43, fun W hK p o bm n S F hsh hsf _ hp hn ht => app_do a b p o bm n k l u S F W (hK.cell ha ca) (hK.cell hb cb) hsh hsf hp hn hk (hu.keep hK hJ).at (by omega)⟩,
    .inr fun K => ⟨45, _, rfl, enters45, fun W hK p o bm n S F hsh hsf _ hp hn ht => app_tear a b p o bm n k l K u S F W (hK.cell ha ca) (hK.cell hb cb) hsh hsf hp hn hk (hu.keep hK hJ).at (by omega)⟩⟩
theorem put_at {w : World} {I : Nat → Prop} {a b : Nat} {k l : Bs} {u : Value} {J : Nat → Prop} (ca : w.cell? ⟨a, 0, none⟩ = some (.string ⟨k.toArray⟩)) (cb : w.cell? ⟨b, 0, none⟩ = some u) (hu : BytesIn J w u l) (hk : isName k = true) (hl : l.length ≤ 100000) (ha : I a) (hb : I b) (hJ : ∀ k, J k → I k) :
    ChAt w I (.put k l) (.func (.func 57) #[] #[.pointer (some ⟨a, 0, none⟩), .pointer (some ⟨b, 0, none⟩)], .nilFunc) :=
  ⟨⟨57, _, rfl, enters57, fun W hK p o bm n S F hsh hsf hd hp hn ht => put_do a b p o bm n k l u S F W (hK.cell ha ca) (hK.cell hb cb) hsh hsf hp hn hk (hu.keep hK hJ).at (by omega) (by omega) (fun h => hd a h ha) (fun h => hd b h hb)⟩, .inl ⟨rfl, fun _ _ => rfl⟩⟩
theorem ren_at {w : World} {I : Nat → Prop} {a b : Nat} {k m : Bs} (ca : w.cell? ⟨a, 0, none⟩ = some (.string ⟨k.toArray⟩)) (cb : w.cell? ⟨b, 0, none⟩ = some (.string ⟨m.toArray⟩)) (hk : isName k = true) (hm : isName m = true) (hne : k ≠ m) (ha : I a) (hb : I b) :
    ChAt w I (.ren k m) (.func (.func 59) #[] #[.pointer (some ⟨a, 0, none⟩), .pointer (some ⟨b, 0, none⟩)], .nilFunc) :=
  ⟨⟨59, _, rfl, enters59, fun W hK p o bm n S F hsh hsf _ hp hn ht => ren_do a b p o bm n k m S F W (hK.cell ha ca) (hK.cell hb cb) hsh hsf hp hn hk hm hne (by omega)⟩, .inl ⟨rfl, fun _ _ => rfl⟩⟩
theorem rem_at {w : World} {I : Nat → Prop} {a : Nat} {k : Bs} (ca : w.cell? ⟨a, 0, none⟩ = some (.string ⟨k.toArray⟩)) (hk : isName k = true) (ha : I a) :
    ChAt w I (.rem k) (.func (.func 61) #[] #[.pointer (some ⟨a, 0, none⟩)], .nilFunc) :=
  ⟨⟨61, _, rfl, enters61, fun W hK p o bm n S F hsh hsf _ hp _ ht => rem_do a p o bm n k S F W (hK.cell ha ca) hsh hsf hp hk (by omega)⟩, .inl ⟨rfl, fun _ _ => rfl⟩⟩
end Go.Proofs.Yticbfnflillokaa
