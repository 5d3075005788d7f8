/- sum.Open: what was sealed, and true; else none, and false. -/
import Derived.Test.YtimgbemdkajemaaDoorRefSeal
namespace Go.Proofs.YtimgbemdkajemaaDoor
open Go.RowKit Crc
/-- what a call leaves that hands back bytes of its own, and true -/
def Opens (w : World) (l : List UInt8) (e : Ending) (w' : World) : Prop := ∃ v, e = .returned (.tuple #[v, .bool true]) ∧ OwnBytes w.heap.size w' v l ∧ Below w.heap.size w w'
def Refuses (w : World) (e : Ending) (w' : World) : Prop := e = .returned (.tuple #[.slice none 0 0, .bool false]) ∧ Below w.heap.size w w'

def OpenPost (w : World) (m : List UInt8) (ok : Bool) (e : Ending) (w' : World) : Prop := (ok = true → Opens w m e w') ∧ (ok = false → Refuses w e w')
theorem le4_eq (y0 y1 y2 y3 : UInt8) (S : Nat) (hS : S < 4294967296) : [y0, y1, y2, y3] = le4 S ↔ y0.toNat + 256 * y1.toNat + 65536 * y2.toNat + 16777216 * y3.toNat = S := by
  have h0 := y0.toNat_lt
  have h1 := y1.toNat_lt
  have h2 := y2.toNat_lt
  have h3 := y3.toNat_lt
  unfold le4
  simp only [List.cons.injEq, and_true, ← UInt8.toNat_inj, UInt8.toNat_ofNat']
  omega
theorem or_add (a b i : Nat) (ha : a < 2 ^ i) : a ||| b * 2 ^ i = a + 2 ^ i * b := by
  rw [Nat.or_comm, nat_join i _ _ (by simp) ha, Nat.mul_comm, Nat.add_comm]
def OpenRel (p1 p2 p3 p4 : Nat) (t i : Value) : Prop :=
  (i = .int .i64 0 ∧ t = .int .u32 0) ∨ (i = .int .i64 1 ∧ t = .int .u32 p1) ∨ (i = .int .i64 2 ∧ t = .int .u32 p2) ∨ (i = .int .i64 3 ∧ t = .int .u32 p3) ∨ (i = .int .i64 4 ∧ t = .int .u32 p4)
theorem open_short (v : Value) (l : List UInt8) (w : World) (hp : BytesAt w v l) (hs : l.length < 4) :
    Calls Tryd.prog 13 #[v] w (Refuses w) := by
  obtain ⟨a, cap, rfl, hlen, _⟩ := hp.form
  clear hlen hp
  go_enter Tryd.func13, Tryd.ntmps13
  go_wp2
  go_ret2
  exact ⟨rfl, Below.refl _ _⟩

set_option maxHeartbeats 1000000 in
theorem open_long (v : Value) (m : List UInt8) (y0 y1 y2 y3 : UInt8) (w : World) (hT : Tabs w) (hp : BytesAt w v (m ++ [y0, y1, y2, y3])) (hsmall : m.length ≤ 70000) (ok : Bool) (hok : ok = decide ([y0, y1, y2, y3] = le4 (crc m))) :
    Calls Tryd.prog 13 #[v] w (OpenPost w m ok) := by
  rcases hp with ⟨_, h0⟩ | ⟨ad, cap, rfl, hlen, hc⟩
  · exact absurd h0 (by simp)
  · obtain ⟨n, hn⟩ : ∃ n, m.length = n := ⟨_, rfl⟩
    have hl : (m ++ [y0, y1, y2, y3]).length = n + 4 := by simp [hn]
    obtain ⟨b, off, rfl, hb, hc⟩ := hc (by omega)
    rw [hl] at hlen hc ⊢
    have k0 := hc n (by omega)
    have k1 := hc (n + 1) (by omega)
    have k2 := hc (n + 2) (by omega)
    have k3 := hc (n + 3) (by omega)
    have e0 : (m ++ [y0, y1, y2, y3]).getD n 0 = y0 := by simp [← hn]
    have e1 : (m ++ [y0, y1, y2, y3]).getD (n + 1) 0 = y1 := by simp [← hn]
    have e2 : (m ++ [y0, y1, y2, y3]).getD (n + 2) 0 = y2 := by simp [← hn]
    have e3 : (m ++ [y0, y1, y2, y3]).getD (n + 3) 0 = y3 := by simp [← hn]
    rw [e0] at k0
    rw [e1] at k1
    rw [e2] at k2
    rw [e3] at k3
    have HM : Hid (BytesAt w (.slice (some ⟨b, off, none⟩) n cap) m) := by
      rw [← hn]
      exact BytesAt.mk' b off cap (by rw [hn]; unfold maxLen at hlen ⊢; omega) (fun _ => hb) (fun j hj => by
      have := hc j (by omega)
      rw [List.getD_eq_getElem?_getD, List.getElem?_append_left hj, ← List.getD_eq_getElem?_getD] at this
      exact this)
    have hcap : n + 4 ≤ cap := hlen.2
    clear hc e0 e1 e2 e3 hl
    obtain ⟨c10, c11, c12, c13⟩ := hT.cells1
    have HT := Lib.hid hT
    rw [hn] at hsmall
    have HO := Lib.hid (le4_eq y0 y1 y2 y3 (crc m) (crc_lt m))
    have HOK := Lib.hid hok
    have h0 := y0.toNat_lt
    have h1 := y1.toNat_lt
    have h2 := y2.toNat_lt
    have h3 := y3.toNat_lt
    clear hT hlen hok
    generalize y0.toNat = Y0 at k0 h0 HO
    generalize y1.toNat = Y1 at k1 h1 HO
    generalize y2.toNat = Y2 at k2 h2 HO
    generalize y3.toNat = Y3 at k3 h3 HO
    have o0 : bits .or .u32 0 (Y0 : Int) = (Y0 : Int) := by
      have := u32_or_nat 0 Y0 (by decide) (by omega); rw [Nat.zero_or] at this; exact this
    have o1 : bits .or .u32 (Y0 : Int) ((Y1 : Int) * 256) = ((Y0 + 256 * Y1 : Nat) : Int) := by
      have := u32_or_nat Y0 (Y1 * 256) (by omega) (by omega); rw [or_add Y0 Y1 8 (by omega)] at this; exact this
    have b1 : Y0 + 256 * Y1 < 65536 := by omega
    obtain ⟨p2, hp2⟩ : ∃ p, Y0 + 256 * Y1 = p := ⟨_, rfl⟩
    rw [hp2] at o1 b1 HO
    have o2 : bits .or .u32 (p2 : Int) ((Y2 : Int) * 65536) = ((p2 + 65536 * Y2 : Nat) : Int) := by
      have := u32_or_nat p2 (Y2 * 65536) (by omega) (by omega); rw [or_add p2 Y2 16 (by omega)] at this; exact this
    have b2 : p2 + 65536 * Y2 < 16777216 := by omega
    obtain ⟨p3, hp3⟩ : ∃ p, p2 + 65536 * Y2 = p := ⟨_, rfl⟩
    rw [hp3] at o2 b2 HO
    have o3 : bits .or .u32 (p3 : Int) ((Y3 : Int) * 16777216) = ((p3 + 16777216 * Y3 : Nat) : Int) := by
      have := u32_or_nat p3 (Y3 * 16777216) (by omega) (by omega); rw [or_add p3 Y3 24 (by omega)] at this; exact this
    have b3 : p3 + 16777216 * Y3 < 4294967296 := by omega
    obtain ⟨p4, hp4⟩ : ∃ p, p3 + 16777216 * Y3 = p := ⟨_, rfl⟩
    rw [hp4] at o3 b3 HO
    have HN := Lib.hid hn
    clear hp2 hp3 hp4 hn
    have ix0 : ∀ w, (Instr.index 40 (.agg #[.int .i64 0, .int .i64 8, .int .i64 16, .int .i64 24]) (.int .i64 0)).run Tryd.prog w = .ok (.int .i64 0) w := fun _ => by kernel_rfl
    have ix1 : ∀ w, (Instr.index 40 (.agg #[.int .i64 0, .int .i64 8, .int .i64 16, .int .i64 24]) (.int .i64 1)).run Tryd.prog w = .ok (.int .i64 8) w := fun _ => by kernel_rfl
    have ix2 : ∀ w, (Instr.index 40 (.agg #[.int .i64 0, .int .i64 8, .int .i64 16, .int .i64 24]) (.int .i64 2)).run Tryd.prog w = .ok (.int .i64 16) w := fun _ => by kernel_rfl
    have ix3 : ∀ w, (Instr.index 40 (.agg #[.int .i64 0, .int .i64 8, .int .i64 16, .int .i64 24]) (.int .i64 3)).run Tryd.prog w = .ok (.int .i64 24) w := fun _ => by kernel_rfl
    go_enter Tryd.func13, Tryd.ntmps13
    go_wp2
    clear c10 c11 c12 c13
    go_loop [5, 15] (fun t i => OpenRel Y0 p2 p3 p4 t i) (fun _ i => 4 - (intOf i).toNat)
    case atStart => exact .inl ⟨rfl, rfl⟩
    case round =>
      rcases hrel with ⟨rfl, rfl⟩ | ⟨rfl, rfl⟩ | ⟨rfl, rfl⟩ | ⟨rfl, rfl⟩ | ⟨rfl, rfl⟩
      · go_wp2
        go_round
        case rel => exact .inr (.inl ⟨rfl, rfl⟩)
        case measure => simp [intOf]
      · go_wp2
        go_round
        case rel => exact .inr (.inr (.inl ⟨rfl, rfl⟩))
        case measure => simp [intOf]
      · go_wp2
        go_round
        case rel => exact .inr (.inr (.inr (.inl ⟨rfl, rfl⟩)))
        case measure => simp [intOf]
      · go_wp2
        go_round
        case rel => exact .inr (.inr (.inr (.inr ⟨rfl, rfl⟩)))
        case measure => simp [intOf]
      · obtain ⟨S, hSe⟩ : ∃ S, crc m = S := ⟨_, rfl⟩
        have HSe := Lib.hid hSe
        clear hSe k0 k1 k2 k3 o0 o1 o2 o3 ix0 ix1 ix2 ix3
        by_cases hE : p4 = S
        · have hcmp : ((p4 : Int) != (S : Int)) = false := by rw [hE]; simp
          have HE := Lib.hid hE
          clear hE
          go_wp2_with (first | (go_at_call 9; refine (of_any _ [m] _ (HT.out.below ((Below.refl _ _).alloc (Nat.le_refl _) _) (Nat.le_refl _)) (partsAt_one HM.out)).mono ?_; rintro e w3 ⟨rfl, hb3⟩; have HB3 : Hid (Below w.heap.size w w3) := ((Below.refl _ _).alloc (Nat.le_refl _) _).trans (hb3.mono (by simp)); clear hb3; rw [List.flatten_singleton, HSe.out]) | (at_builtin; refine wpList_append_bytes rfl _ _ rfl w.heap.size _ _ [] m rfl rfl (OwnBytes.nil _ _) (HM.out.below HB3.out (Nat.le_refl _)) (by rw [HN.out]; simp; omega) HB3.out.size ?_; intro v4 w4 hown4 hgrow4; have HO4 : Hid (OwnBytes w.heap.size w4 v4 m) := hown4; have HB4 : Hid (Below w.heap.size w w4) := HB3.out.grown hgrow4 HB3.out.size (OwnBytes.nil w.heap.size w).own; clear hown4 hgrow4))
          go_ret2
          have hyes : ok = true := by rw [HOK.out]; exact decide_eq_true (HO.out.2 (by rw [HE.out, HSe.out]))
          exact ⟨fun _ => ⟨_, rfl, HO4.out, HB4.out⟩, fun h => by rw [hyes] at h; cases h⟩
        · have hcmp : ((p4 : Int) != (S : Int)) = true := by simp; omega
          have HE := Lib.hid hE
          clear hE
          go_wp2_with (first | (go_at_call 9; refine (of_any _ [m] _ (HT.out.below ((Below.refl _ _).alloc (Nat.le_refl _) _) (Nat.le_refl _)) (partsAt_one HM.out)).mono ?_; rintro e w3 ⟨rfl, hb3⟩; have HB3 : Hid (Below w.heap.size w w3) := ((Below.refl _ _).alloc (Nat.le_refl _) _).trans (hb3.mono (by simp)); clear hb3; rw [List.flatten_singleton, HSe.out]))
          go_ret2
          have hno : ok = false := by rw [HOK.out]; exact decide_eq_false (fun h => HE.out (by rw [HO.out.1 h, HSe.out]))
          exact ⟨(fun h => by rw [hno] at h; cases h), fun _ => ⟨rfl, HB3.out⟩⟩
end Go.Proofs.YtimgbemdkajemaaDoor
