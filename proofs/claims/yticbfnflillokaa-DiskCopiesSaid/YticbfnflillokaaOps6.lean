/- Sync, Read, Waits, Bytes, Crash. -/
import Derived.Test.YticbfnflillokaaOps5
namespace Go.Proofs.Yticbfnflillokaa
open Go.RowKit Go.Maps Go.WideMaps
def Dk.sync (d : Dk) : Int × Dk := if d.down then (6, d) else (0, { d with synced := d.seen, waits := [] })
theorem Dk.ok.synced {d : Dk} (h : d.ok) : ({ d with synced := d.seen, waits := [] } : Dk).ok :=
  ⟨h.seenok, rfl, fun i _ => by rw [show ([] : List Ch).take i = [] by simp]; exact h.total, h.cap⟩
theorem DiskP.c7 {w : World} {O I : Nat → Prop} {p n1 n2 : Nat} {d : Dk} {m1 m2 : Nat} {wv : Value} {vs : List (Value × Value)} {S1 S2 : Nat → Prop} (h : DiskP w O I p n1 n2 d m1 m2 wv vs S1 S2) : w.cell? ⟨p, 7, none⟩ = some wv := by rw [Go.Joins.cell_of_block h.block]; rfl
theorem DiskP.raw {w : World} {O I : Nat → Prop} {p n1 n2 : Nat} {d : Dk} {m1 m2 : Nat} {wv : Value} {vs : List (Value × Value)} {S1 S2 : Nat → Prop} (h : DiskP w O I p n1 n2 d m1 m2 wv vs S1 S2) : DiskRaw w O I p n1 n2 d := ⟨_, _, _, _, _, _, h⟩
set_option maxRecDepth 100000 in
theorem sync_any {w : World} {O I : Nat → Prop} {p N : Nat} {d : Dk} (h : DiskAt w O I p N d) (hN : N ≤ 400000) :
    Calls Try.prog 22 #[.pointer (some ⟨p, 0, none⟩)] w (Does w O I p (N + 1) d.sync.1 d.sync.2) := by
  have hA := h
  obtain ⟨n1, n2, hr, hok, hn1, hn2, hser⟩ := h
  have HD := Lib.hid (down_yes p d.down w hr.c8 hr.c4)
  unfold Dk.sync
  cases hd : d.down
  · rw [hd] at HD
    obtain ⟨m1, m2, wv, vs, S1, S2, hP⟩ := hr
    obtain ⟨wa, wc, rfl⟩ := hP.row.form
    have hcap := hok.cap
    have HC := Lib.hid (commit_any w O I p n1 n2 d m1 m2 _ vs S1 S2 hP d.waits.length (Nat.le_refl _) (by omega) (by omega) fun i hi => by have := hok.fits i hi; omega)
    have c7 := hP.c7
    have hl := hP.len
    rw [hl] at c7 HC
    have hP2 := hP
    rw [hl] at hP2
    have HP := Lib.hid hP2
    have HFIN : Hid (∀ w1, Committing w w1 p n1 d m1 m2 (.slice wa d.waits.length wc) S1 d.waits.length → (w1.cell? ⟨p, 7, none⟩ = some (.slice wa d.waits.length wc) ∧ w1.frozen? ⟨p, 7, none⟩ = false) ∧ Does w O I p (N + 1) 0 { d with synced := d.seen, waits := [] } (.returned (.int .i64 0)) (w1.setCell ⟨p, 7, none⟩ (.slice none 0 0))) := fun w1 hc => by
      obtain ⟨S', hP1, hsub, hch⟩ := Committing.disk HP.out hc
      refine ⟨⟨hP1.c7, hP1.raw.fz 7⟩, rfl, fun k => (O k ∨ S' k) ∨ S2 k, I, ⟨n1 + d.waits.length, n2, ⟨m1, m2, .slice none 0 0, [], S', S2, ?_⟩, hok.synced, by show n1 + d.waits.length + 0 ≤ N + 1; omega, by omega, by show d.serial ≤ N + 1 + 1; omega⟩, ?_, fun k hk => ?_, fun _ h => .inl h⟩
      · have hb := Go.Joins.block_setCell (i := 7) hP1.block (.slice none 0 0)
        refine hP1.clear (d' := { d with synced := d.seen, waits := [] }) (Chg.one w1 ⟨p, 7, none⟩ _) ?_ rfl ?_ (.inr rfl) ?_
        · show d.seen = doAll (d.waits.take d.waits.length) d.synced
          rw [List.take_length]; exact hok.sees
        · exact hP1.two.chg (Chg.one w1 ⟨p, 7, none⟩ _) fun k hk hS => (hP1.d2 k hS).2 hk
        · have e : d.seen.total = (doAll (d.waits.take d.waits.length) d.synced).total := by rw [List.take_length, ← hok.sees]
          rw [hb]
          show _ = some (Obj.cells #[.map (some m1), .int .i64 (d.seen.total : Nat), .int .i64 (d.cap : Nat), .int .u64 (d.serial : Nat), .bool d.down, .map (some m2), .int .i64 (d.seen.total : Nat), .slice none 0 0, .pointer (some ⟨p, 0, none⟩)] 47 (0, 0))
          rw [e]; rfl
      · exact (hch.mono (S' := O) fun k hk => .inl (by
          rcases hk with hk | hk
          · exact HP.out.o1 k hk
          · rw [hk]; exact HP.out.op)).setCell (p := ⟨p, 7, none⟩) (.inl HP.out.op) _
      · rcases hk with (hk | hk) | hk
        · exact .inl hk
        · rcases hsub k hk with h' | h'
          · exact .inl (HP.out.o1 k h')
          · exact .inr h'
        · exact .inl (HP.out.o2 k hk)
    obtain ⟨L, hL⟩ : ∃ L, d.waits.length = L := ⟨_, rfl⟩
    rw [hL] at c7 HC HFIN
    simp only [hd] at HFIN
    rw [if_neg (by simp)]
    clear hP hP2 hl HP hA hL hd
    go_enter Try.func22, Try.ntmps22
    go_wp2_with (go_at_call 31; refine HD.out.mono ?_; rintro e w1 ⟨rfl, rfl⟩)
    refine HC.out.mono ?_
    rintro e w1 ⟨rfl, hc⟩
    have hF := HFIN.out w1 hc
    have d7 := hF.1.1
    have f7 := hF.1.2
    have HF := Lib.hid hF.2
    clear hc hF
    go_wp2
    go_ret
    exact HF.out
  · rw [hd] at HD
    have HST : Hid (Does w O I p (N + 1) 6 d (.returned (.int .i64 6)) w) := Does.still hA 6 (Below.refl _ _)
    clear hr hA
    go_enter Try.func22, Try.ntmps22
    go_wp2_with (go_at_call 31; refine HD.out.mono ?_; rintro e w1 ⟨rfl, rfl⟩)
    go_ret
    exact HST.out
set_option maxRecDepth 100000 in
theorem waits_any {w : World} {O I : Nat → Prop} {p N : Nat} {d : Dk} (h : DiskAt w O I p N d) : Calls Try.prog 28 #[.pointer (some ⟨p, 0, none⟩)] w fun e w' => e = .returned (.int .i64 ((if d.down then 0 else d.waits.length : Nat) : Int)) ∧ w = w' := by
  obtain ⟨n1, n2, hr⟩ := h.raw
  have HD := Lib.hid (down_yes p d.down w hr.c8 hr.c4)
  obtain ⟨m1, m2, wv, vs, S1, S2, hP⟩ := hr
  obtain ⟨wa, wc, rfl⟩ := hP.row.form
  have c7 := hP.c7
  rw [hP.len] at c7
  cases hd : d.down
  · rw [hd] at HD
    rw [if_neg (by simp)]
    obtain ⟨z, hz⟩ : ∃ z, d.waits.length = z := ⟨_, rfl⟩
    rw [hz] at c7 ⊢
    clear hP h hz
    go_enter Try.func28, Try.ntmps28
    go_wp2_with (go_at_call 31; refine HD.out.mono ?_; rintro e w1 ⟨rfl, rfl⟩)
    go_ret
    exact ⟨rfl, rfl⟩
  · rw [hd] at HD
    rw [if_pos rfl]
    clear hP h c7
    go_enter Try.func28, Try.ntmps28
    go_wp2_with (go_at_call 31; refine HD.out.mono ?_; rintro e w1 ⟨rfl, rfl⟩)
    go_ret
    exact ⟨rfl, rfl⟩
set_option maxRecDepth 100000 in
theorem bytes_any {w : World} {O I : Nat → Prop} {p N : Nat} {d : Dk} (h : DiskAt w O I p N d) : Calls Try.prog 27 #[.pointer (some ⟨p, 0, none⟩)] w fun e w' => e = .returned (.int .i64 ((if d.down then 0 else d.seen.total : Nat) : Int)) ∧ w = w' := by
  obtain ⟨n1, n2, hr⟩ := h.raw
  have HD := Lib.hid (down_yes p d.down w hr.c8 hr.c4)
  have c6 := hr.c6
  cases hd : d.down
  · rw [hd] at HD
    rw [if_neg (by simp)]
    obtain ⟨z, hz⟩ : ∃ z, d.seen.total = z := ⟨_, rfl⟩
    rw [hz] at c6 ⊢
    clear hr h hz
    go_enter Try.func27, Try.ntmps27
    go_wp2_with (go_at_call 31; refine HD.out.mono ?_; rintro e w1 ⟨rfl, rfl⟩)
    go_ret
    exact ⟨rfl, rfl⟩
  · rw [hd] at HD
    rw [if_pos rfl]
    clear hr h c6
    go_enter Try.func27, Try.ntmps27
    go_wp2_with (go_at_call 31; refine HD.out.mono ?_; rintro e w1 ⟨rfl, rfl⟩)
    go_ret
    exact ⟨rfl, rfl⟩
/-- what Read leaves -/
def Reads (w : World) (d : Dk) (k : Bs) (e : Ending) (w' : World) : Prop :=
  ∃ v, e = .returned (.tuple #[v, .int .i64 (lack d k [])]) ∧ OwnBytes w.heap.size w' v (if lack d k [] = 0 then (d.seen.get k).getD [] else []) ∧ Below w.heap.size w w'
theorem names_lit {w : World} {k : Bs} (hk : k.length ≤ maxLen) : NamesAt (w.alloc (.cells #[.string ⟨k.toArray⟩] 9)) w.heap.size [k] := names_one hk _ (heap_alloc_new w _)
set_option maxRecDepth 100000 in
theorem read_any {w : World} {O I : Nat → Prop} {p N : Nat} {d : Dk} (h : DiskAt w O I p N d) (k : Bs) (hk : k.length ≤ maxLen) :
    Calls Try.prog 18 #[.pointer (some ⟨p, 0, none⟩), .string ⟨k.toArray⟩] w (Reads w d k) := by
  obtain ⟨n1, n2, hr⟩ := h.raw
  have HB1 : Hid (Below w.heap.size w (w.alloc (.cells #[.string ⟨k.toArray⟩] 9))) := Go.Joins.below_alloc1 w _
  have HR := Lib.hid (lacks_disk (hr.below HB1.out (Nat.le_refl _)) w.heap.size k [] (names_lit hk) (by simp) 1 rfl)
  unfold Reads
  obtain ⟨R, hR⟩ : ∃ R, R = lack d k [] := ⟨_, rfl⟩
  have hcs := lack_cases d k []
  rw [← hR] at HR hcs ⊢
  by_cases h0 : R = 0
  · subst h0
    have hnm : isName k = true := (lack_ok hR.symm).2.1 k List.mem_cons_self
    rw [if_pos rfl]
    obtain ⟨L, hL⟩ : ∃ L, (d.seen.get k).getD [] = L := ⟨_, rfl⟩
    have hLl : L.length ≤ 1000000 := by
      have h1 := Fs.size_le h.ok.seenok k
      have h2 := h.ok.total
      have h3 := h.ok.cap
      unfold Fs.size at h1
      rw [hL] at h1
      omega
    rw [hL]
    have HLOOK : Hid (∀ W, Below w.heap.size w W → ∃ m2 a n c, W.cell? ⟨p, 5, none⟩ = some (.map (some m2)) ∧ (Instr.lookup 39 (.map (some m2)) (.string ⟨k.toArray⟩) false).run Try.prog W = .ok (.slice a n c) W ∧ BytesAt W (.slice a n c) L) := fun W hb => by
      obtain ⟨m1, m2, wv, vs, S1, S2, hP⟩ := hr.below hb (Nat.le_refl _)
      obtain ⟨M, hM, _, _, _, g0, g1, _⟩ := hP.two
      have ho := own_of g0 g1 k
      have hl := hM.look (keyOf_name hnm)
      rw [hL] at ho
      obtain ⟨⟨a, n, c⟩, hs⟩ : ∃ s, s = (M k).getD noSl := ⟨_, rfl⟩
      rw [← hs] at hl ho
      exact ⟨m2, a, n, c, by rw [Go.Joins.cell_of_block hP.block]; rfl, hl, ho.1.at⟩
    clear hr h hL hcs hR hnm
    go_enter Try.func18, Try.ntmps18
    go_wp2_with fail
    refine HR.out.mono ?_
    rintro e w1 ⟨rfl, hb⟩
    have HB2 : Hid (Below w.heap.size w w1) := HB1.out.trans (hb.mono HB1.out.size)
    obtain ⟨m2, a, n, c, c5, hl, hby⟩ := HLOOK.out w1 HB2.out
    have HC := Lib.hid (clone_any _ L w1 hby (by omega))
    clear hb hby
    go_wp2_with (go_at_call 41; refine HC.out.mono ?_; rintro e w2 ⟨v, rfl, ho, hb⟩; have HO := Lib.hid ho; have HB3 := Lib.hid (HB2.out.trans (hb.mono HB2.out.size)); clear ho hb)
    go_ret2
    exact ⟨_, rfl, HO.out.base_le HB2.out.size, HB3.out⟩
  · rw [if_neg h0]
    have hcs2 : R = 1 ∨ R = 4 ∨ R = 6 := by omega
    clear h hr hR hcs h0
    rcases hcs2 with rfl | rfl | rfl <;>
    · go_enter Try.func18, Try.ntmps18
      go_wp2_with (go_at_call 55; refine HR.out.mono ?_; rintro e w1 ⟨rfl, hb⟩; have HB := Lib.hid (HB1.out.trans (hb.mono HB1.out.size)); clear hb)
      go_ret2
      exact ⟨_, rfl, OwnBytes.nil _ _, HB.out⟩
end Go.Proofs.Yticbfnflillokaa
