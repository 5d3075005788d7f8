/- sum.Of: for any parts the register's sum of all of them. -/
import Derived.Test.YtimgbemdkajemaaDoorTurn
import Derived.Deep.DeepAppendWide
namespace Go.Proofs.YtimgbemdkajemaaDoor
open Go.RowKit Crc
/-- the slice v reads as the bytes l -/
def BytesAt (w : World) (v : Value) (l : List UInt8) : Prop :=
  (v = .slice none 0 0 ∧ l = []) ∨ ∃ (ad : Addr) (cap : Nat), v = .slice (some ad) l.length cap ∧ (l.length ≤ maxLen ∧ l.length ≤ cap) ∧ (0 < l.length → ∃ b off, ad = ⟨b, off, none⟩ ∧ b < w.heap.size ∧ ∀ j, j < l.length → w.cell? ⟨b, off + j, none⟩ = some (.int .u8 ((l.getD j 0).toNat : Int)))
theorem BytesAt.mk' {w : World} {l : List UInt8} (b off cap : Nat) (hl : l.length ≤ maxLen ∧ l.length ≤ cap) (hb : 0 < l.length → b < w.heap.size) (hc : ∀ j, j < l.length → w.cell? ⟨b, off + j, none⟩ = some (.int .u8 ((l.getD j 0).toNat : Int))) : BytesAt w (.slice (some ⟨b, off, none⟩) l.length cap) l :=
  .inr ⟨⟨b, off, none⟩, cap, rfl, hl, fun h => ⟨b, off, rfl, hb h, hc⟩⟩
theorem BytesAt.form {w : World} {v : Value} {l : List UInt8} (h : BytesAt w v l) : ∃ a cap, v = .slice a l.length cap ∧ l.length ≤ maxLen ∧ (0 < l.length → ∃ b off, a = some ⟨b, off, none⟩ ∧ b < w.heap.size ∧ ∀ j, j < l.length → w.cell? ⟨b, off + j, none⟩ = some (.int .u8 ((l.getD j 0).toNat : Int))) := by
  rcases h with ⟨rfl, rfl⟩ | ⟨ad, cap, rfl, hl, hc⟩
  · exact ⟨none, 0, rfl, Nat.zero_le _, fun h => absurd h (by simp)⟩
  · exact ⟨_, cap, rfl, hl.1, fun h => by obtain ⟨b, off, rfl, hb, hc⟩ := hc h; exact ⟨b, off, rfl, hb, hc⟩⟩
/-- the slice v reads as slices that read as these -/
def PartsAt (w : World) (v : Value) (ls : List (List UInt8)) : Prop :=
  ∃ a cap, v = .slice a ls.length cap ∧ ls.length ≤ maxLen ∧ (0 < ls.length → ∃ b off, a = some ⟨b, off, none⟩ ∧ b < w.heap.size ∧ ∀ j, j < ls.length → ∃ u, w.cell? ⟨b, off + j, none⟩ = some u ∧ BytesAt w u (ls.getD j []))
theorem BytesAt.below {w w' : World} {B : Nat} {v : Value} {l : List UInt8} (h : BytesAt w v l) (hb : Below B w w') (hB : w.heap.size ≤ B) : BytesAt w' v l := by
  rcases h with ⟨rfl, rfl⟩ | ⟨ad, cap, rfl, hl, hc⟩
  · exact .inl ⟨rfl, rfl⟩
  · exact .inr ⟨ad, cap, rfl, hl, fun h => by
      obtain ⟨b, off, rfl, hbl, hc⟩ := hc h
      exact ⟨b, off, rfl, by have := hb.size; omega, fun j hj => by rw [hb.cell (p := ⟨b, off + j, none⟩) (by show b < B; omega)]; exact hc j hj⟩⟩
theorem PartsAt.below {w w' : World} {B : Nat} {v : Value} {l : List (List UInt8)} (h : PartsAt w v l) (hb : Below B w w') (hB : w.heap.size ≤ B) : PartsAt w' v l := by
  obtain ⟨a, cap, hv, hl, h⟩ := h
  refine ⟨a, cap, hv, hl, fun h0 => ?_⟩
  obtain ⟨b, off, ha, hbl, hc⟩ := h h0
  exact ⟨b, off, ha, by have := hb.size; omega, fun j hj => by
    obtain ⟨u, hu, hr⟩ := hc j hj
    exact ⟨u, by rw [hb.cell (p := ⟨b, off + j, none⟩) (by show b < B; omega)]; exact hu, hr.below hb hB⟩⟩

/-- how far the parts are handed over -/
def regs (ls : List (List UInt8)) (i : Nat) : Nat := reg 4294967295 (ls.take i).flatten
def regAt (ls : List (List UInt8)) (i j : Nat) : Nat := reg (regs ls i) ((ls.getD i []).take j)

theorem regs_lt (ls : List (List UInt8)) (i : Nat) : regs ls i < 4294967296 := reg_lt _ _ (by decide)
theorem regAt_lt (ls : List (List UInt8)) (i j : Nat) : regAt ls i j < 4294967296 := reg_lt _ _ (regs_lt ls i)
theorem regAt_zero (ls : List (List UInt8)) (i : Nat) : regAt ls i 0 = regs ls i := rfl
theorem take_snoc' {α : Type} (l : List α) (k : Nat) (d : α) (h : k < l.length) : l.take (k + 1) = l.take k ++ [l.getD k d] := by
  rw [List.take_succ_eq_append_getElem h, List.getD_eq_getElem?_getD, List.getElem?_eq_getElem h]; rfl
theorem regAt_succ (ls : List (List UInt8)) (i j : Nat) (h : j < (ls.getD i []).length) : regAt ls i (j + 1) = turn (regAt ls i j) ((ls.getD i []).getD j 0).toNat := by
  unfold regAt
  rw [take_snoc' _ j 0 h, reg_append]; rfl
theorem regs_succ (ls : List (List UInt8)) (i : Nat) (h : i < ls.length) : regs ls (i + 1) = regAt ls i (ls.getD i []).length := by
  unfold regAt regs
  rw [take_snoc' _ i [] h, List.flatten_append, reg_append, List.take_length]; simp
theorem regs_all (ls : List (List UInt8)) : 4294967295 - regs ls ls.length = crc ls.flatten := by unfold regs crc; rw [List.take_length]

/-- what the loops keep: the register's block, all below it -/
structure Held (w wr : World) (n : Nat) : Prop where
  block : wr.heap[w.heap.size]? = some (.cells #[.int .u32 (n : Nat)] 25 (0, 0))
  below : Below w.heap.size w wr
  size : wr.heap.size = w.heap.size + 1
theorem Held.turned {w wr w' : World} {n m : Nat} (h : Held w wr n) (t : Turned w.heap.size m wr w') : Held w w' m :=
  ⟨t.block, h.below.trans t.below, t.size.trans h.size⟩
theorem Held.start (w : World) : Held w (w.alloc (.cells #[.int .u32 4294967295] 25)) 4294967295 :=
  ⟨by show (w.heap.push _)[w.heap.size]? = _; simp, (Below.refl _ _).alloc (Nat.le_refl _) _, by simp⟩
theorem Tabs.held {w wr : World} {n : Nat} (h : Tabs w) (k : Held w wr n) : Tabs wr := h.below k.below (Nat.le_refl _)

set_option maxHeartbeats 1000000 in
theorem of_any (v : Value) (ls : List (List UInt8)) (w : World) (hT : Tabs w) (hp : PartsAt w v ls) :
    Calls Tryd.prog 9 #[v] w fun e w' => e = .returned (.int .u32 (crc ls.flatten : Nat)) ∧ Below w.heap.size w w' := by
  obtain ⟨a, cap, rfl, hlen, hcells⟩ := hp
  unfold maxLen at hlen
  have hsz := hT.size
  have HT := Lib.hid hT
  have HC := Lib.hid hcells
  have H0 := Lib.hid (Held.start w)
  clear hT hcells
  go_enter Tryd.func9, Tryd.ntmps9
  go_wp2
  go_loopw [12] (fun i wr => ∃ k : Nat, k ≤ ls.length ∧ i = .int .i64 k ∧ Hid (Held w wr (regs ls k))) (fun i _ => ls.length - (intOf i).toNat)
  case atStart => exact ⟨0, Nat.zero_le _, rfl, H0.out⟩
  case round =>
    obtain ⟨k, hk, rfl, HH⟩ := hrel
    by_cases hlt : k < ls.length
    · obtain ⟨b, off, rfl, hb, hc⟩ := HC.out (by omega)
      obtain ⟨u, hu, hr⟩ := hc k hlt
      obtain ⟨L, hL⟩ : ∃ L, ls.getD k [] = L := ⟨_, rfl⟩
      rw [hL] at hr
      obtain ⟨a', cap', rfl, hl', hc'⟩ := hr.form
      have HL := Lib.hid hL
      have HC' := Lib.hid hc'
      have hu' : wr.cell? ⟨b, off + k, none⟩ = some (.slice a' L.length cap') := by rw [HH.out.below.cell (p := ⟨b, off + k, none⟩) hb]; exact hu
      clear hc' hc hu hL
      unfold maxLen at hl'
      have HH0 : Hid (Held w wr (regAt ls k 0)) := HH.out
      obtain ⟨wo, rfl⟩ : ∃ wo : World, wo = wr := ⟨_, rfl⟩
      go_wp2_with fail
      go_loopw [18] (fun j ws => ∃ m : Nat, m ≤ L.length ∧ j = .int .i64 m ∧ Hid (Held w ws (regAt ls k m))) (fun j _ => L.length - (intOf j).toNat)
      case atStart => exact ⟨0, Nat.zero_le _, rfl, HH0⟩
      case round =>
        obtain ⟨m, hm, rfl, HI⟩ := hrel
        by_cases hlt2 : m < L.length
        · obtain ⟨b', off', rfl, hb', hcb⟩ := HC'.out (by omega)
          have hby := hcb m hlt2
          have hby' : wr.cell? ⟨b', off' + m, none⟩ = some (.int .u8 ((L.getD m 0).toNat : Int)) := by rw [HI.out.below.cell (p := ⟨b', off' + m, none⟩) hb']; exact hby
          obtain ⟨x, hx⟩ : ∃ x : Nat, (L.getD m 0).toNat = x := ⟨_, rfl⟩
          have hx8 : x < 256 := by rw [← hx]; exact (L.getD m 0).toNat_lt
          rw [hx] at hby'
          have HX := Lib.hid hx
          clear hby hcb hx
          go_wp2_with (go_at_call 15; refine (turn_any (regAt ls k m) x (regAt_lt _ _ _) hx8 w.heap.size _ (by omega) (HT.out.held HI.out) HI.out.block).mono ?_; rintro e w' ⟨rfl, ht⟩)
          go_roundw
          case rel => exact ⟨m + 1, by omega, by go_num, by have e : regAt ls k (m + 1) = turn (regAt ls k m) x := by
                                                              rw [regAt_succ ls k m (by rw [HL.out]; exact hlt2), HL.out, HX.out]
                                                            rw [e]; exact HI.out.turned ht⟩
          case measure => simp [intOf]; omega
        · obtain rfl : m = L.length := by omega
          have HE : Hid (Held w wr (regs ls (k + 1))) := by rw [regs_succ ls k hlt, HL.out]; exact HI.out
          go_wp2
          go_roundw
          case rel => exact ⟨k + 1, by omega, by go_num, HE⟩
          case measure => simp [intOf]; omega
    · obtain rfl : k = ls.length := by omega
      have hcell := cell_of_one HH.out.block
      have hr := regs_lt ls ls.length
      have hrc := Lib.hid (regs_all ls)
      have hbel := Lib.hid HH.out.below
      go_wp2
      go_ret
      refine ⟨?_, hbel.out⟩
      have e : bits .xor .u32 IntKind.u32.max ((regs ls ls.length : Nat) : Int) = ((4294967295 - regs ls ls.length : Nat) : Int) := by
        rw [← not32 _ hr]; exact u32_xor_nat 4294967295 _ (by decide) hr
      rw [e, hrc.out]; rfl
end Go.Proofs.YtimgbemdkajemaaDoor
