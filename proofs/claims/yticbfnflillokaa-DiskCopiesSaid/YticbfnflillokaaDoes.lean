/- What the closures of a change do to a shelf. -/
import Derived.Test.YticbfnflillokaaGrow
import Derived.Deep.RegionHeld
namespace Go.Proofs.Yticbfnflillokaa
open Go.RowKit Go.Maps Go.WideMaps
theorem ShelfOf.lenle {w : World} {S : Nat → Prop} {bm n : Nat} {F : Fs} (h : ShelfOf w S bm n F) (k : Bs) : F.size k ≤ F.total := Fs.size_le h.ok k
theorem grow_sh (p o bm n : Nat) (k l : Bs) (u : Value) (S : Nat → Prop) (F : Fs) (w : World) (hsh : ShP w p o bm F.total) (h : ShelfOf w S bm n F) (hp : ¬ S p) (hn : n ≤ 1000000) (hk : isName k = true) (hu : BytesAt w u l) (ht : F.total + l.length ≤ 1000000) :
    Calls Try.prog 44 #[.pointer (some ⟨p, o, none⟩), .string ⟨k.toArray⟩, u] w (ShPost w S p o bm (n + 1) (F.put k (((F.get k).getD []) ++ l))) := by
  obtain ⟨M, hM, hok, hb, hS, h0, h1, h2⟩ := h
  have hown := own_of h0 h1 k
  have hsz : ((F.get k).getD []).length ≤ F.total := Fs.size_le hok k
  have htp := Fs.total_put hok k (((F.get k).getD []) ++ l)
  rw [List.length_append] at htp
  unfold Fs.size at htp
  refine (grow_any p o bm n F.total (F.total + l.length) 0 M k _ l u w hsh hM hn (fun e => hp (by rw [e]; exact hb)) (keyOf_name hk) hown.1 (fun e => hp (hown.2 _ e).1) hu (Nat.zero_le _) rfl (by omega) hsz (by omega)).mono ?_
  rintro e w' ⟨rfl, s', hm', ho', hpl, hc, hs⟩
  obtain ⟨S', hS', hsub⟩ := ShelfOf.stored hM hk hok hb hS h0 h1 h2 hm' ho' (by
    rcases hpl with he | he
    · cases hMk : M k with
      | none =>
        rw [hMk] at he
        exact .inr fun b hb => by rw [he] at hb; simp [slv, Value.ownBlock] at hb
      | some s =>
        rw [hMk] at he
        exact .inl ⟨s, rfl, he⟩
    · exact .inr he) hc (fun i hi hSi => by
      rcases hi with (hi | hi) | hi
      · exact .inl hi
      · subst hi; exact absurd hSi hp
      · obtain ⟨_, s, hs, he⟩ := hown.2 i hi
        exact .inr ⟨s, hs, by rw [← he]; exact hi⟩)
  refine ⟨rfl, S', hS', hsub, hc.mono fun i hi => .inl ?_, ?_⟩
  · rcases hi with (hi | hi) | hi
    · exact .inl (by rw [hi]; exact hb)
    · exact .inr hi
    · exact .inl (hown.2 i hi).1
  · rw [show (F.put k (((F.get k).getD []) ++ l)).total = F.total + l.length by omega]
    exact hs
set_option maxRecDepth 100000 in
theorem app_do (a b p o bm n : Nat) (k l : Bs) (u : Value) (S : Nat → Prop) (F : Fs) (w : World) (ca : w.cell? ⟨a, 0, none⟩ = some (.string ⟨k.toArray⟩)) (cb : w.cell? ⟨b, 0, none⟩ = some u) (hsh : ShP w p o bm F.total) (h : ShelfOf w S bm n F) (hp : ¬ S p) (hn : n ≤ 1000000) (hk : isName k = true) (hu : BytesAt w u l) (ht : F.total + l.length ≤ 1000000) :
    Calls Try.prog 43 #[.pointer (some ⟨p, o, none⟩), .pointer (some ⟨a, 0, none⟩), .pointer (some ⟨b, 0, none⟩)] w (ShPost w S p o bm (n + 1) ((Ch.app k l).do F)) := by
  have HG := Lib.hid (grow_sh p o bm n k l u S F w hsh h hp hn hk hu ht)
  obtain ⟨ua, uc, rfl, _⟩ := hu.form
  clear h hsh hk
  go_enter Try.func43, Try.ntmps43
  go_wp2_with fail
  refine HG.out.mono ?_
  rintro e w1 ⟨rfl, hpost⟩
  have HR := Lib.hid hpost
  clear hpost
  go_wp2
  exact bodyPost_end (results_none rfl _ _ _) rfl ⟨rfl, HR.out⟩
theorem Chg.behind {S : Nat → Prop} {a b c : World} (h : Below a.heap.size a b) (k : Chg S b c) : Chg S a c := (Chg.of_below h (Nat.le_refl _)).then k fun _ h => .inl h
theorem cell_chg {S : Nat → Prop} {w w' : World} {a o : Nat} {v : Value} (h : w.cell? ⟨a, o, none⟩ = some v) (hc : Chg S w w') (ha : ¬ S a) (hlt : a < w.heap.size) : w'.cell? ⟨a, o, none⟩ = some v := by
  rw [← h]; exact World.cell?_of_block (hc.block a hlt ha)
theorem cell_lt {w : World} {a o : Nat} {v : Value} (h : w.cell? ⟨a, o, none⟩ = some v) : a < w.heap.size := by
  by_cases hlt : a < w.heap.size
  · exact hlt
  · simp [World.cell?, Array.getElem?_eq_none (Nat.not_lt.1 hlt)] at h
theorem set_sh {w w1 : World} (p o bm n : Nat) (k l : Bs) (s : Sl) (S : Nat → Prop) (F : Fs) (hsh : ShP w p o bm F.total) (h : ShelfOf w S bm n F) (hp : ¬ S p) (hn : n ≤ 1000000) (hk : isName k = true) (h1 : F.total ≤ 1000000) (h2 : l.length ≤ 1000000)
    (ho : OwnBytes w.heap.size w1 (slv s) l) (hb : Below w.heap.size w w1) : Calls Try.prog 58 #[.pointer (some ⟨p, o, none⟩), .string ⟨k.toArray⟩, slv s] w1 (ShPost w S p o bm (n + 1) (F.put k l)) := by
  obtain ⟨M, hM, hok, hbm, hS, h0, h1', h2'⟩ := h
  have hC1 : Chg (fun _ => False) w w1 := Chg.of_below hb (Nat.le_refl _)
  have htp := Fs.total_put hok k l
  have hsz := Fs.size_le hok k
  have hle := lenOf_eq h0 h1' k
  have hsl : s.2.1 = l.length := ho.sl
  have hpl := hsh.lt
  refine (set_any p o bm n F.total (F.put k l).total M k s w1 (hsh.chg hC1 id) (hM.chg hC1 id) hn (fun e => hp (by rw [e]; exact hbm)) (keyOf_name hk) (by rw [hle, hsl]; exact htp) h1 (by omega) (by omega)).mono ?_
  rintro e w' ⟨rfl, hm', hc, hs⟩
  have hc' : Chg (fun i => i = bm ∨ i = p) w w' := Chg.behind hb hc
  have hlt := hS bm hbm
  have hown : ∀ b, (slv s).ownBlock = some b → w.heap.size ≤ b := fun b hb => (ho.lt b hb).1
  obtain ⟨S', hS', hsub⟩ := ShelfOf.stored hM hk hok hbm hS h0 h1' h2' hm' ((ho.chg hc fun i hi hCi => by
    have := hown i hi
    rcases hCi with rfl | rfl
    · omega
    · omega).base_le (Nat.zero_le _)) (.inr hown) hc' (fun i hi hSi => by
      rcases hi with hi | hi
      · exact .inl hi
      · subst hi; exact absurd hSi hp)
  exact ⟨rfl, S', hS', hsub, hc'.mono fun i hi => .inl (hi.elim (fun e => .inl (by rw [e]; exact hbm)) .inr), CellSet.chg hC1 id hs⟩
set_option maxRecDepth 100000 in
theorem put_do (a b p o bm n : Nat) (k l : Bs) (u : Value) (S : Nat → Prop) (F : Fs) (w : World) (ca : w.cell? ⟨a, 0, none⟩ = some (.string ⟨k.toArray⟩)) (cb : w.cell? ⟨b, 0, none⟩ = some u) (hsh : ShP w p o bm F.total) (h : ShelfOf w S bm n F) (hp : ¬ S p) (hn : n ≤ 1000000) (hk : isName k = true) (hu : BytesAt w u l) (h1 : F.total ≤ 1000000) (h2 : l.length ≤ 1000000)
    (ha : ¬ (S a ∨ a = p)) (hb : ¬ (S b ∨ b = p)) :
    Calls Try.prog 57 #[.pointer (some ⟨p, o, none⟩), .pointer (some ⟨a, 0, none⟩), .pointer (some ⟨b, 0, none⟩)] w (ShPost w S p o bm (n + 1) ((Ch.put k l).do F)) := by
  have hw : Below w.heap.size w w.drew := (Below.refl _ _).drew
  have HC := Lib.hid (clone_any u l w.drew (hu.below hw (Nat.le_refl _)) (by omega))
  have HSET : Hid (∀ w1 v, OwnBytes w.heap.size w1 v l → Below w.heap.size w w1 → ∃ s : Sl, v = slv s ∧ Calls Try.prog 58 #[.pointer (some ⟨p, o, none⟩), .string ⟨k.toArray⟩, slv s] w1 (ShPost w S p o bm (n + 1) ((Ch.put k l).do F))) := by
    intro w1 v ho hb
    obtain ⟨a, c, rfl⟩ := ho.form
    exact ⟨(a, _, c), rfl, set_sh p o bm n k l (a, _, c) S F hsh h hp hn hk h1 h2 ho hb⟩
  obtain ⟨ua, uc, rfl, _⟩ := hu.form
  have hla := cell_lt ca
  have hlb := cell_lt cb
  have HKEEP : Hid (∀ w', Chg (fun i => S i ∨ i = p) w w' → w'.cell? ⟨a, 0, none⟩ = some (.string ⟨k.toArray⟩) ∧ w'.cell? ⟨b, 0, none⟩ = some (.slice ua l.length uc)) := fun w' hc => ⟨cell_chg ca hc ha hla, cell_chg cb hc hb hlb⟩
  have HC0 : Hid (Chg (fun i => S i ∨ i = p) w w) := Chg.refl _ _
  clear h hsh hk hu hla hlb ha hb
  go_enter Try.func57, Try.ntmps57
  go_region_held (fun w' => w'.cell? ⟨a, 0, none⟩ = some (.string ⟨k.toArray⟩) ∧ w'.cell? ⟨b, 0, none⟩ = some (.slice ua l.length uc)) ((refine HKEEP.out _ ?_; first | exact HC0.out | exact HC0.out.drew | exact HBW.out | exact HBY.out)) (first | (go_at_call 41; refine HC.out.mono ?_; rintro e w1 ⟨v1, rfl, ho1, hb1⟩; have HBW : Hid (Chg (fun i => S i ∨ i = p) w w1) := Chg.of_below ((Below.refl _ w).drew.trans hb1) (Nat.le_refl _); obtain ⟨s1, hs1, hc1⟩ := HSET.out w1 v1 ho1 ((Below.refl _ w).drew.trans hb1); subst hs1; have HX := Lib.hid hc1; clear ho1 hb1 hc1) | (go_at_call 58; refine HX.out.mono ?_; rintro e w2 ⟨rfl, S', hq1, hq2, hq3, hq4⟩; have HBY := Lib.hid hq3; have HR := Lib.hid (And.intro hq1 (And.intro hq2 hq4)); clear hq1 hq2 hq3 hq4))
  exact bodyPost_end (results_none rfl _ _ _) rfl ⟨rfl, S', HR.out.1, HR.out.2.1, HBY.out, HR.out.2.2⟩
set_option maxRecDepth 100000 in
theorem ren_do (a b p o bm n : Nat) (k m : Bs) (S : Nat → Prop) (F : Fs) (w : World) (ca : w.cell? ⟨a, 0, none⟩ = some (.string ⟨k.toArray⟩)) (cb : w.cell? ⟨b, 0, none⟩ = some (.string ⟨m.toArray⟩)) (hsh : ShP w p o bm F.total) (h : ShelfOf w S bm n F) (hp : ¬ S p) (hn : n ≤ 1000000) (hk : isName k = true) (hm : isName m = true) (hne : k ≠ m) (h1 : F.total ≤ 1000000) :
    Calls Try.prog 59 #[.pointer (some ⟨p, o, none⟩), .pointer (some ⟨a, 0, none⟩), .pointer (some ⟨b, 0, none⟩)] w (ShPost w S p o bm (n + 1) ((Ch.ren k m).do F)) := by
  have HG : Hid (Calls Try.prog 60 #[.pointer (some ⟨p, o, none⟩), .string ⟨k.toArray⟩, .string ⟨m.toArray⟩] w (ShPost w S p o bm (n + 1) ((Ch.ren k m).do F))) := by
    obtain ⟨M, hM, hok, hb, hS, h0, h1', h2⟩ := h
    have hle := lenOf_eq h0 h1'
    have hs1 := Fs.size_le hok k
    have hs2 := Fs.size_le hok m
    have ht1 := Fs.total_put hok m ((F.get k).getD [])
    have ht2 := Fs.total_del (Fs.ok_put hok m ((F.get k).getD [])) k
    have ht3 : (F.put m ((F.get k).getD [])).size k = F.size k := by unfold Fs.size; rw [Fs.get_put_other F _ hne]
    have ht4 : F.size k = ((F.get k).getD []).length := rfl
    refine (move_any p o bm n F.total ((Ch.ren k m).do F).total M k m w hsh hM hn (fun e => hp (by rw [e]; exact hb)) (keyOf_name hk) (keyOf_name hm) hne (by rw [hle m]; show ((F.put m ((F.get k).getD [])).del k).total + F.size m = F.total; omega) h1 (by rw [hle k]; omega)).mono ?_
    rintro e w' ⟨rfl, hm', hc, hs⟩
    obtain ⟨S', hS', hsub⟩ := ShelfOf.moved hne hM hm hok hb hS h0 h1' h2 hm' hc (fun i hi hSi => by
      rcases hi with hi | hi
      · exact hi
      · subst hi; exact absurd hSi hp)
    exact ⟨rfl, S', hS', hsub, hc.mono fun i hi => .inl (hi.elim (fun e => .inl (by rw [e]; exact hb)) .inr), hs⟩
  clear h hsh hk hm
  go_enter Try.func59, Try.ntmps59
  go_wp2_with fail
  refine HG.out.mono ?_
  rintro e w1 ⟨rfl, hpost⟩
  have HR := Lib.hid hpost
  clear hpost
  go_wp2
  exact bodyPost_end (results_none rfl _ _ _) rfl ⟨rfl, HR.out⟩
set_option maxRecDepth 100000 in
theorem rem_do (a p o bm n : Nat) (k : Bs) (S : Nat → Prop) (F : Fs) (w : World) (ca : w.cell? ⟨a, 0, none⟩ = some (.string ⟨k.toArray⟩)) (hsh : ShP w p o bm F.total) (h : ShelfOf w S bm n F) (hp : ¬ S p) (hk : isName k = true) (h1 : F.total ≤ 1000000) :
    Calls Try.prog 61 #[.pointer (some ⟨p, o, none⟩), .pointer (some ⟨a, 0, none⟩)] w (ShPost w S p o bm (n + 1) ((Ch.rem k).do F)) := by
  have HG : Hid (Calls Try.prog 62 #[.pointer (some ⟨p, o, none⟩), .string ⟨k.toArray⟩] w (ShPost w S p o bm (n + 1) ((Ch.rem k).do F))) := by
    obtain ⟨M, hM, hok, hb, hS, h0, h1', h2⟩ := h
    have hle := lenOf_eq h0 h1'
    have ht2 := Fs.total_del hok k
    refine (drop_any p o bm n F.total ((Ch.rem k).do F).total M k w hsh hM (fun e => hp (by rw [e]; exact hb)) (keyOf_name hk) (by rw [hle k]; exact ht2) h1).mono ?_
    rintro e w' ⟨rfl, hm', hc, hs⟩
    have hS' := ShelfOf.struck hM hok hb hS h0 h1' h2 hm' hc (fun i hi hSi => by
      rcases hi with hi | hi
      · exact hi
      · subst hi; exact absurd hSi hp)
    exact ⟨rfl, S, hS'.mono (Nat.le_succ n), fun _ h => .inl h, hc.mono fun i hi => .inl (hi.elim (fun e => .inl (by rw [e]; exact hb)) .inr), hs⟩
  clear h hsh hk
  go_enter Try.func61, Try.ntmps61
  go_wp2_with fail
  refine HG.out.mono ?_
  rintro e w1 ⟨rfl, hpost⟩
  have HR := Lib.hid hpost
  clear hpost
  go_wp2
  exact bodyPost_end (results_none rfl _ _ _) rfl ⟨rfl, HR.out⟩
theorem ShPost.same {w : World} {S : Nat → Prop} {p o bm n : Nat} {F : Fs} (hsh : ShP w p o bm F.total) (h : ShelfOf w S bm n F) {w' : World} (hb : Below w.heap.size w w') : ShPost w S p o bm (n + 1) F (.returned (.tuple #[])) w' := by
  have hc : Chg (fun _ => False) w w' := Chg.of_below hb (Nat.le_refl _)
  refine ⟨rfl, S, (h.chg hc fun _ h => h.elim).mono (Nat.le_succ n), fun _ h => .inl h, hc.mono fun _ h => h.elim, fun cs ty hcs => ?_⟩
  have h1 := hc.heap hcs id
  obtain ⟨cs', ty', h2, _, h3⟩ := hsh
  rw [hcs] at h2
  cases h2
  rw [h1]
  congr 2
  apply Array.ext
  · simp
  · intro i hi1 hi2
    rw [Array.getElem_setIfInBounds]
    split
    · rename_i e; subst e
      obtain ⟨_, h4⟩ := Array.getElem?_eq_some_iff.1 h3
      exact h4
    · rfl
set_option maxRecDepth 100000 in
theorem app_tear (a b p o bm n : Nat) (k l : Bs) (K : Int) (u : Value) (S : Nat → Prop) (F : Fs) (w : World) (ca : w.cell? ⟨a, 0, none⟩ = some (.string ⟨k.toArray⟩)) (cb : w.cell? ⟨b, 0, none⟩ = some u) (hsh : ShP w p o bm F.total) (h : ShelfOf w S bm n F) (hp : ¬ S p) (hn : n ≤ 1000000) (hk : isName k = true) (hu : BytesAt w u l) (ht : F.total + l.length ≤ 1000000) :
    Calls Try.prog 45 #[.pointer (some ⟨p, o, none⟩), .int .i64 K, .pointer (some ⟨b, 0, none⟩), .pointer (some ⟨a, 0, none⟩)] w (ShPost w S p o bm (n + 1) ((Ch.app k l).tear K F)) := by
  have HSAME : Hid (∀ w', Below w.heap.size w w' → ShPost w S p o bm (n + 1) F (.returned (.tuple #[])) w') := fun w' hb => ShPost.same hsh h hb
  have HU := Lib.hid hu
  obtain ⟨ua, uc, rfl, hum⟩ := hu.form
  have HW := Lib.hid (within_any K (l.length : Nat) w (by omega))
  obtain ⟨R, hR⟩ : ∃ R, (Ch.app k l).tear K F = R := ⟨_, rfl⟩
  rw [hR]
  have HR := Lib.hid hR
  clear hR
  obtain ⟨N, hN⟩ : ∃ N, N = min (max K 0) ((l.length : Nat) : Int) := ⟨_, rfl⟩
  rw [← hN] at HW
  by_cases h0 : 0 < N
  · obtain ⟨N, rfl⟩ : ∃ N' : Nat, N = N' := ⟨N.toNat, by omega⟩
    have hNl : N ≤ l.length := by omega
    have HRT : Hid (F.put k (((F.get k).getD []) ++ l.take N) = R) := by
      have := HR.out
      simp only [Ch.tear] at this
      rw [← hN, if_pos h0] at this
      rw [Int.toNat_natCast] at this
      exact this
    have hua : ua ≠ none := fun e => by
      subst e
      rcases HU.out with ⟨h1, _⟩ | ⟨_, _, h1, _⟩
      · injection h1 with _ h1 _; omega
      · cases h1
    have HG := Lib.hid (grow_sh p o bm n k (l.take N) (.slice ua N uc) S F w.drew hsh (h.chg (Chg.refl (fun _ => False) w).drew fun _ h => h.elim) hp hn hk ((HU.out.take hNl hua (by omega)).below (Below.refl _ w).drew (Nat.le_refl _)) (by simp; omega))
    rw [HRT.out] at HG
    clear hN HR h hsh hk
    have hum2 := hum.2
    have hul := hu.length_le
    obtain ⟨Ln, hL⟩ : ∃ Ln, l.length = Ln := ⟨_, rfl⟩
    rw [hL] at HW hNl hum2 hul cb
    have HL := Lib.hid hL
    clear hL hum hu ht HU
    have hNuc : N ≤ uc := by omega
    go_enter Try.func45, Try.ntmps45
    go_wp2_with (go_at_call 46; refine HW.out.mono ?_; rintro e w1 ⟨rfl, rfl⟩)
    go_still_tail 5, (by kernel_rfl)
    change wpList _ _ _ _ _ w.drew
    go_wp2_with fail
    refine HG.out.mono ?_
    rintro e w1 ⟨rfl, S', hq1, hq2, hq3, hq4⟩
    have HR2 : Hid (ShPost w S p o bm (n + 1) R (.returned (.tuple #[])) w1) := ⟨rfl, S', hq1, hq2, (Chg.refl _ w).drew.trans hq3, hq4⟩
    clear hq1 hq2 hq3 hq4
    go_wp2
    exact bodyPost_end (results_none rfl _ _ _) rfl HR2.out
  · have HRF : Hid (F = R) := by
      have := HR.out
      simp only [Ch.tear] at this
      rw [← hN, if_neg h0] at this
      exact this
    obtain rfl : N = 0 := by omega
    clear hN HR h hsh hk h0
    have hul := hu.length_le
    obtain ⟨Ln, hL⟩ : ∃ Ln, l.length = Ln := ⟨_, rfl⟩
    rw [hL] at HW hul cb
    clear hL hum hu ht HU
    go_enter Try.func45, Try.ntmps45
    go_wp2_with (go_at_call 46; refine HW.out.mono ?_; rintro e w1 ⟨rfl, rfl⟩)
    have h := HSAME.out w (Below.refl _ _)
    rw [HRF.out] at h
    exact bodyPost_end (results_none rfl _ _ _) rfl h
end Go.Proofs.Yticbfnflillokaa
