/- Start, Sync, Read, Size, Waits, Bytes, Serial, Capacity. -/
import Derived.Test.YticbfnflillokaaOps4
namespace Go.Proofs.Yticbfnflillokaa
open Go.RowKit Go.Maps Go.WideMaps
/-- the cells of a disk -/
def dcells (p m1 m2 : Nat) (wv : Value) (d : Dk) : Array Value := #[.map (some m1), .int .i64 (d.synced.total : Nat), .int .i64 (d.cap : Nat), .int .u64 (d.serial : Nat), .bool d.down, .map (some m2), .int .i64 (d.seen.total : Nat), wv, .pointer (some ⟨p, 0, none⟩)]
/-- other numbers -/
theorem DiskP.reset {w w' : World} {O I : Nat → Prop} {p n1 n2 : Nat} {d d' : Dk} {m1 m2 : Nat} {wv : Value} {vs : List (Value × Value)} {S1 S2 : Nat → Prop} (h : DiskP w O I p n1 n2 d m1 m2 wv vs S1 S2) (hc : Chg (fun i => i = p) w w')
    (hb : w'.heap[p]? = some (.cells (dcells p m1 m2 wv d') 47 (0, 0))) (e1 : d'.synced = d.synced) (e2 : d'.seen = d.seen) (e3 : d'.waits = d.waits) : DiskP w' O I p n1 n2 d' m1 m2 wv vs S1 S2 where
  block := hb
  one := by rw [e1]; exact h.one.chg hc fun k hk hS => (h.d1 k hS).2.2 hk
  two := by rw [e2]; exact h.two.chg hc fun k hk hS => (h.d2 k hS).2 hk
  row := h.row.chg hc fun k hk e => by
    have e : k = p := e
    rw [e] at hk; exact h.dw hk
  len := by rw [e3]; exact h.len
  chs := fun j c v hj hv => by
    rw [e3] at hj
    exact (h.chs j c v hj hv).keep (hc.keep fun k hk => by
      have e : k = p := hk
      rw [e]; exact h.di p h.op)
  o1 := h.o1
  o2 := h.o2
  ow := h.ow
  op := h.op
  d1 := h.d1
  d2 := h.d2
  dw := h.dw
  di := h.di
  lt := fun k hk => Nat.lt_of_lt_of_le (h.lt k hk) hc.size
/-- other files that last -/
theorem DiskP.put1 {w w' : World} {O I : Nat → Prop} {p n1 n2 n1' : Nat} {d : Dk} {m1 m2 : Nat} {wv : Value} {vs : List (Value × Value)} {S1 S2 S' : Nat → Prop} {F : Fs} (h : DiskP w O I p n1 n2 d m1 m2 wv vs S1 S2) (hs : ShelfOf w' S' m1 n1' F) (hsub : ∀ k, S' k → S1 k ∨ w.heap.size ≤ k) (hc : Chg (fun i => S1 i ∨ i = p) w w')
    (hb : w'.heap[p]? = some (.cells (dcells p m1 m2 wv { d with synced := F }) 47 (0, 0))) : DiskP w' (fun k => O k ∨ S' k) I p n1' n2 { d with synced := F } m1 m2 wv vs S' S2 where
  block := hb
  one := hs
  two := h.two.chg hc fun k hk hS => by
    rcases hk with hk | hk
    · exact (h.d1 k hk).1 hS
    · exact (h.d2 k hS).2 hk
  row := h.row.chg hc fun k hk e => by
    rcases e with e | e
    · exact (h.d1 k e).2.1 hk
    · rw [e] at hk; exact h.dw hk
  len := h.len
  chs := fun j c v hj hv => (h.chs j c v hj hv).keep (hc.keep fun k hk => by
    rcases hk with hk | hk
    · exact h.di k (h.o1 k hk)
    · rw [hk]; exact h.di p h.op)
  o1 := fun k hk => .inr hk
  o2 := fun k hk => .inl (h.o2 k hk)
  ow := fun k hk => .inl (h.ow k hk)
  op := .inl h.op
  d1 := fun k hk => by
    rcases hsub k hk with h' | h'
    · exact h.d1 k h'
    · refine ⟨fun hS => ?_, fun hw => ?_, fun e => ?_⟩
      · have := h.lt k (.inl (h.o2 k hS)); omega
      · have := h.lt k (.inl (h.ow k hw)); omega
      · have := h.lt p (.inl h.op); omega
  d2 := h.d2
  dw := h.dw
  di := fun k hk hI => by
    rcases hk with hk | hk
    · exact h.di k hk hI
    · rcases hsub k hk with h' | h'
      · exact h.di k (h.o1 k h') hI
      · have := h.lt k (.inr hI); omega
  lt := fun k hk => by
    have := hc.size
    rcases hk with (hk | hk) | hk
    · have := h.lt k (.inl hk); omega
    · exact hs.lt k hk
    · have := h.lt k (.inr hk); omega
theorem Committing.disk {w w' : World} {O I : Nat → Prop} {p n1 n2 n : Nat} {d : Dk} {m1 m2 : Nat} {wv : Value} {vs : List (Value × Value)} {S1 S2 : Nat → Prop} (h : DiskP w O I p n1 n2 d m1 m2 wv vs S1 S2) (hc : Committing w w' p n1 d m1 m2 wv S1 n) :
    ∃ S', DiskP w' (fun k => O k ∨ S' k) I p (n1 + n) n2 { d with synced := doAll (d.waits.take n) d.synced } m1 m2 wv vs S' S2 ∧ (∀ k, S' k → S1 k ∨ w.heap.size ≤ k) ∧ Chg (fun k => S1 k ∨ k = p) w w' := by
  obtain ⟨S', hs, hsub, hch, hb⟩ := hc
  exact ⟨S', h.put1 hs hsub hch hb, hsub, hch⟩
/-- nothing waits -/
theorem DiskP.clear {w w' : World} {O I : Nat → Prop} {p n1 n2 n2' : Nat} {d d' : Dk} {m1 m2 m2' : Nat} {wv : Value} {vs : List (Value × Value)} {S1 S2 S2' : Nat → Prop} (h : DiskP w O I p n1 n2 d m1 m2 wv vs S1 S2) (hc : Chg (fun i => i = p) w w') (e1 : d'.synced = d.synced) (e3 : d'.waits = [])
    (h2 : ShelfOf w' S2' m2' n2' d'.seen) (hs2 : (∀ k, S2' k → w.heap.size ≤ k) ∨ S2' = S2) (hb : w'.heap[p]? = some (.cells (dcells p m1 m2' (.slice none 0 0) d') 47 (0, 0))) : DiskP w' (fun k => O k ∨ S2' k) I p n1 n2' d' m1 m2' (.slice none 0 0) [] S1 S2' where
  block := hb
  one := by rw [e1]; exact h.one.chg hc fun k hk hS => (h.d1 k hS).2.2 hk
  two := h2
  row := World.ownsRow_nil _ _ _ _
  len := by rw [e3]; rfl
  chs := fun j c v hj _ => by rw [e3] at hj; simp at hj
  o1 := fun k hk => .inl (h.o1 k hk)
  o2 := fun k hk => .inr hk
  ow := fun k hk => by simp [Value.ownBlock] at hk
  op := .inl h.op
  d1 := fun k hk => ⟨fun hS => by
    rcases hs2 with hs2 | hs2
    · have := hs2 k hS; have := h.lt k (.inl (h.o1 k hk)); omega
    · rw [hs2] at hS; exact (h.d1 k hk).1 hS, by simp [Value.ownBlock], (h.d1 k hk).2.2⟩
  d2 := fun k hk => ⟨by simp [Value.ownBlock], fun e => by
    rcases hs2 with hs2 | hs2
    · have := hs2 k hk; have := h.lt p (.inl h.op); omega
    · rw [hs2] at hk; exact (h.d2 k hk).2 e⟩
  dw := by simp [Value.ownBlock]
  di := fun k hk hI => by
    rcases hk with hk | hk
    · exact h.di k hk hI
    · rcases hs2 with hs2 | hs2
      · have := hs2 k hk; have := h.lt k (.inr hI); omega
      · rw [hs2] at hk; exact h.di k (h.o2 k hk) hI
  lt := fun k hk => by
    have := hc.size
    rcases hk with (hk | hk) | hk
    · have := h.lt k (.inl hk); omega
    · exact h2.lt k hk
    · have := h.lt k (.inr hk); omega
def Dk.start (d : Dk) : Int × Dk := if d.down then (0, { d with down := false }) else (5, d)
theorem Dk.ok.downs {d : Dk} (h : d.ok) (b : Bool) : ({ d with down := b } : Dk).ok := ⟨h.rises, h.sees, h.fits, h.cap⟩
set_option maxRecDepth 100000 in
theorem start_any {w : World} {O I : Nat → Prop} {p N : Nat} {d : Dk} (h : DiskAt w O I p N d) :
    Calls Try.prog 24 #[.pointer (some ⟨p, 0, none⟩)] w (Does w O I p (N + 1) d.start.1 d.start.2) := by
  obtain ⟨n1, n2, hr, hok, hn1, hn2, hser⟩ := h
  have HM := Lib.hid (isMade_yes p w hr.c8)
  have c4 := hr.c4
  have f4 := hr.fz 4
  unfold Dk.start
  cases hd : d.down
  · rw [hd] at c4
    have HST : Hid (Does w O I p (N + 1) 5 d (.returned (.int .i64 5)) w) := Does.still ⟨n1, n2, hr, hok, hn1, hn2, hser⟩ 5 (Below.refl _ _)
    clear hr
    go_enter Try.func24, Try.ntmps24
    go_wp2_with (go_at_call 35; refine HM.out.mono ?_; rintro e w1 ⟨rfl, rfl⟩)
    go_ret
    exact HST.out
  · rw [hd] at c4
    have HST : Hid (Does w O I p (N + 1) 0 { d with down := false } (.returned (.int .i64 0)) (w.setCell ⟨p, 4, none⟩ (.bool false))) := by
      obtain ⟨m1, m2, wv, vs, S1, S2, hP⟩ := hr
      have hb := Go.Joins.block_setCell (i := 4) hP.block (.bool false)
      exact ⟨rfl, O, I, ⟨n1, n2, ⟨m1, m2, wv, vs, S1, S2, hP.reset (d' := { d with down := false }) (Chg.one w ⟨p, 4, none⟩ _) hb rfl rfl rfl⟩, hok.downs false, by show n1 + d.waits.length ≤ N + 1; omega, by omega, by show d.serial ≤ N + 1 + 1; omega⟩,
        (Chg.refl O w).setCell (p := ⟨p, 4, none⟩) (.inl hP.op) _, fun _ h => .inl h, fun _ h => .inl h⟩
    clear hr
    go_enter Try.func24, Try.ntmps24
    go_wp2_with (go_at_call 35; refine HM.out.mono ?_; rintro e w1 ⟨rfl, rfl⟩)
    go_ret
    exact HST.out
set_option maxRecDepth 100000 in
theorem serial_any {w : World} {O I : Nat → Prop} {p N : Nat} {d : Dk} (h : DiskAt w O I p N d) : Calls Try.prog 29 #[.pointer (some ⟨p, 0, none⟩)] w fun e w' => e = .returned (.int .u64 (d.serial : Nat)) ∧ w = w' := by
  obtain ⟨n1, n2, hr⟩ := h.raw
  have HM := Lib.hid (isMade_yes p w hr.c8)
  have c3 := hr.c3
  clear hr h
  go_enter Try.func29, Try.ntmps29
  go_wp2_with (go_at_call 35; refine HM.out.mono ?_; rintro e w1 ⟨rfl, rfl⟩)
  go_ret
  exact ⟨rfl, rfl⟩
set_option maxRecDepth 100000 in
theorem size_any' {w : World} {O I : Nat → Prop} {p N : Nat} {d : Dk} (h : DiskAt w O I p N d) (k : Bs) (hk : isName k = true) : Calls Try.prog 25 #[.pointer (some ⟨p, 0, none⟩), .string ⟨k.toArray⟩] w fun e w' => e = .returned (.int .i64 ((if d.down then 0 else d.seen.size k : Nat) : Int)) ∧ w = w' := by
  obtain ⟨n1, n2, hr⟩ := h.raw
  have HD := Lib.hid (down_yes p d.down w hr.c8 hr.c4)
  have HS := Lib.hid (size_disk hr k hk)
  cases hd : d.down
  · rw [hd] at HD
    rw [if_neg (by simp)]
    obtain ⟨z, hz⟩ : ∃ z, d.seen.size k = z := ⟨_, rfl⟩
    rw [hz] at HS ⊢
    clear hr h hz
    go_enter Try.func25, Try.ntmps25
    go_wp2_with (first | (go_at_call 31; refine HD.out.mono ?_; rintro e w1 ⟨rfl, rfl⟩) | (go_at_call 56; refine HS.out.mono ?_; rintro e w2 ⟨rfl, h2⟩; subst h2))
    go_ret
    exact ⟨rfl, rfl⟩
  · rw [hd] at HD
    rw [if_pos rfl]
    clear hr h HS
    go_enter Try.func25, Try.ntmps25
    go_wp2_with (go_at_call 31; refine HD.out.mono ?_; rintro e w1 ⟨rfl, rfl⟩)
    go_ret
    exact ⟨rfl, rfl⟩
end Go.Proofs.Yticbfnflillokaa
