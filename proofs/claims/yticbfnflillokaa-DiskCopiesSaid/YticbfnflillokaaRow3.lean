/- The document's find, bytes, Size. -/
import Derived.Test.YticbfnflillokaaRow2
namespace Go.Proofs.Yticbfnflillokaa
open Go.RowKit
abbrev fsOf (vs : List FV) : Fs := vs.map FV.kv
theorem get_none : ∀ (vs : List FV) (n : Bs), (∀ x ∈ vs, x.n ≠ n) → Fs.get (fsOf vs) n = none
  | [], _, _ => rfl
  | x :: vs, n, h => by
    show (if n = x.n then some x.b else Fs.get (fsOf vs) n) = none
    rw [if_neg (Ne.symm (h x (by simp)))]
    exact get_none vs n fun y hy => h y (by simp [hy])
theorem get_some : ∀ (vs : List FV) (n : Bs) (i : Nat) (x : FV), vs[i]? = some x → x.n = n → (∀ j y, j < i → vs[j]? = some y → y.n ≠ n) → Fs.get (fsOf vs) n = some x.b
  | [], _, _, _, h, _, _ => by simp at h
  | y :: vs, n, 0, x, h, hn, _ => by
    simp at h
    subst h
    show (if n = y.n then some y.b else Fs.get (fsOf vs) n) = some y.b
    rw [if_pos hn.symm]
  | y :: vs, n, i + 1, x, h, hn, hf => by
    show (if n = y.n then some y.b else Fs.get (fsOf vs) n) = some x.b
    rw [if_neg (Ne.symm (hf 0 y (by omega) (by simp)))]
    exact get_some vs n i x (by simpa using h) hn fun j z hj hz => hf (j + 1) z (by omega) (by simpa using hz)
/-- where find finds -/
def Found (vs : List FV) (n : Bs) (r : Int) : Prop := (r = -1 ∧ Fs.get (fsOf vs) n = none) ∨ ∃ (i : Nat) (x : FV), r = (i : Int) ∧ vs[i]? = some x ∧ Fs.get (fsOf vs) n = some x.b
/-- the cells of a row's element -/
theorem FilesIn.at {R : Bks} {w : World} {v : Value} {l : List FV} (h : FilesIn R w v l) : ∃ a cap, v = .slice a l.length cap ∧ l.length ≤ 9223372036854775807 ∧ (0 < l.length → ∃ b off, a = some ⟨b, off, none⟩ ∧ b < w.heap.size ∧ R b ∧ ∀ j x, l[j]? = some x → w.cell? ⟨b, off + j * 2, none⟩ = some (.string ⟨x.n.toArray⟩) ∧ w.cell? ⟨b, off + j * 2 + 1, none⟩ = some (.slice x.a x.b.length x.c)) := by
  obtain ⟨⟨a, cap, rfl, hl, _, _, h⟩, _⟩ := h
  refine ⟨a, cap, rfl, hl, fun h0 => ?_⟩
  obtain ⟨b, off, ha, hb, hR, hc⟩ := h h0
  exact ⟨b, off, ha, hb, hR, fun j x hj => ⟨hc j x hj 0 (by omega), hc j x hj 1 (by omega)⟩⟩
set_option maxRecDepth 100000 in
theorem find_any {R : Bks} (v : Value) (vs : List FV) (n : Bs) (w : World) (h : FilesIn R w v vs) :
    Calls Try.prog 68 #[v, .string ⟨n.toArray⟩] w fun e w' => (∃ r, e = .returned (.int .i64 r) ∧ Found vs n r) ∧ w = w' := by
  obtain ⟨a, cap, rfl, hl, hc⟩ := h.at
  have HC := Lib.hid hc
  obtain ⟨L, hL⟩ : ∃ L, vs.length = L := ⟨_, rfl⟩
  rw [hL] at hl ⊢ HC
  have HL := Lib.hid hL
  clear h hc hL
  go_enter Try.func68, Try.ntmps68
  go_wp2
  go_loopw [5] (fun i wr => ∃ k : Nat, k ≤ L ∧ i = .int .i64 (k : Nat) ∧ wr = w ∧ Hid (∀ j y, j < k → vs[j]? = some y → y.n ≠ n)) (fun i _ => L - (intOf i).toNat)
  case atStart => exact ⟨0, Nat.zero_le _, rfl, rfl, fun j y hj => by omega⟩
  case round =>
    obtain ⟨k, hk, rfl, rfl, HP⟩ := hrel
    by_cases hlt : k < L
    · obtain ⟨b, off, rfl, hb, _, hcell⟩ := HC.out (by omega)
      obtain ⟨x, hx⟩ : ∃ x, vs[k]? = some x := ⟨_, List.getElem?_eq_getElem (by rw [HL.out]; exact hlt)⟩
      obtain ⟨e0, e1⟩ := hcell k x hx
      have HX := Lib.hid hx
      clear hx hcell e1
      obtain ⟨xn, xb, xa, xc⟩ := x
      by_cases hn : xn = n
      · subst hn
        have hq : (xn == xn) = true := by simp
        have HF : Hid (Found vs xn (k : Int)) := .inr ⟨k, _, rfl, HX.out, get_some vs xn k _ HX.out rfl HP.out⟩
        clear HP
        go_wp2
        go_ret
        exact ⟨⟨_, rfl, HF.out⟩, rfl⟩
      · have hq : (xn == n) = false := by simpa using hn
        have HF : Hid (∀ j y, j < k + 1 → vs[j]? = some y → y.n ≠ n) := fun j y hj hy => by
          by_cases e : j = k
          · subst e; rw [HX.out] at hy; cases hy; exact hn
          · exact HP.out j y (by omega) hy
        clear HP
        go_wp2
        go_roundw
        case rel => exact ⟨k + 1, by omega, by go_num, trivial, HF.out⟩
        case measure => simp [intOf]; omega
    · obtain rfl : k = L := by omega
      have HF : Hid (Found vs n (-1)) := .inl ⟨rfl, get_none vs n fun x hx => by
        obtain ⟨j, hj, he⟩ := List.getElem_of_mem hx
        exact HP.out j x (by rw [HL.out] at hj; exact hj) (by rw [← he]; exact List.getElem?_eq_getElem hj)⟩
      clear HP
      go_wp2
      go_ret
      exact ⟨⟨_, rfl, HF.out⟩, rfl⟩
set_option maxRecDepth 100000 in
theorem rbytes_any {R : Bks} (v : Value) (vs : List FV) (n : Bs) (w : World) (h : FilesIn R w v vs) :
    Calls Try.prog 70 #[v, .string ⟨n.toArray⟩] w fun e w' => (∃ a c, e = .returned (.slice a ((fsOf vs).get n |>.getD []).length c) ∧ BytesIn R w (.slice a ((fsOf vs).get n |>.getD []).length c) ((fsOf vs).get n |>.getD [])) ∧ w = w' := by
  have HF := Lib.hid (find_any v vs n w h)
  have HB := Lib.hid h.2
  obtain ⟨a, cap, rfl, hl, hc⟩ := h.at
  have HC := Lib.hid hc
  clear h hc
  go_enter Try.func70, Try.ntmps70
  go_wp2_with fail
  refine HF.out.mono ?_
  rintro e w1 ⟨⟨r, rfl, hf⟩, rfl⟩
  rcases hf with ⟨rfl, hg⟩ | ⟨i, x, rfl, hx, hg⟩
  · have HG := Lib.hid hg
    clear hg
    go_wp2
    go_ret
    refine ⟨⟨none, 0, ?_, ?_⟩, rfl⟩
    · rw [HG.out]; rfl
    · rw [HG.out]; exact BytesIn.nil _ _
  · have hi := (List.getElem?_eq_some_iff.1 hx).1
    obtain ⟨b, off, rfl, hb, _, hcell⟩ := HC.out (by omega)
    obtain ⟨e0, e1⟩ := hcell i x hx
    have HX := Lib.hid (HB.out x (List.mem_of_getElem? hx))
    have HG := Lib.hid hg
    clear hg hx hcell e0
    obtain ⟨xn, xb, xa, xc⟩ := x
    go_wp2
    go_ret
    refine ⟨⟨xa, xc, ?_, ?_⟩, rfl⟩
    · rw [HG.out]; rfl
    · rw [HG.out]; exact HX.out
theorem total_take : ∀ (vs : List FV) (k : Nat) (x : FV), vs[k]? = some x → Fs.total (fsOf (vs.take (k + 1))) = Fs.total (fsOf (vs.take k)) + x.b.length
  | [], _, _, h => by simp at h
  | y :: vs, 0, x, h => by
    simp at h; subst h
    simp [fsOf, FV.kv, Fs.total]
  | y :: vs, k + 1, x, h => by
    have := total_take vs k x (by simpa using h)
    simp only [List.take_succ_cons, fsOf, List.map_cons, FV.kv, Fs.total] at this ⊢
    omega
theorem total_le_take : ∀ (vs : List FV) (k : Nat), Fs.total (fsOf (vs.take k)) ≤ Fs.total (fsOf vs)
  | [], k => by simp
  | y :: vs, 0 => by simp [fsOf, Fs.total]
  | y :: vs, k + 1 => by
    have := total_le_take vs k
    simp only [List.take_succ_cons, fsOf, List.map_cons, FV.kv, Fs.total] at this ⊢
    omega
set_option maxRecDepth 100000 in
theorem rsize_any {R : Bks} (v : Value) (vs : List FV) (w : World) (h : FilesIn R w v vs) (ht : (fsOf vs).total ≤ 1000000) :
    Calls Try.prog 54 #[v] w fun e w' => e = .returned (.int .i64 ((fsOf vs).total : Nat)) ∧ w = w' := by
  obtain ⟨a, cap, rfl, hl, hc⟩ := h.at
  have HC := Lib.hid hc
  obtain ⟨L, hL⟩ : ∃ L, vs.length = L := ⟨_, rfl⟩
  rw [hL] at hl ⊢ HC
  have HL := Lib.hid hL
  have HT := Lib.hid ht
  clear h hc hL
  go_enter Try.func54, Try.ntmps54
  go_wp2
  go_loopw [3, 4] (fun s i wr => ∃ k N : Nat, k ≤ L ∧ i = .int .i64 (k : Nat) ∧ s = .int .i64 (N : Nat) ∧ wr = w ∧ Hid (N = Fs.total (fsOf (vs.take k)))) (fun _ i _ => L - (intOf i).toNat)
  case atStart => exact ⟨0, 0, Nat.zero_le _, rfl, rfl, rfl, rfl⟩
  case round =>
    obtain ⟨k, N, hk, rfl, rfl, rfl, HN⟩ := hrel
    by_cases hlt : k < L
    · obtain ⟨b, off, rfl, hb, _, hcell⟩ := HC.out (by omega)
      obtain ⟨x, hx⟩ : ∃ x, vs[k]? = some x := ⟨_, List.getElem?_eq_getElem (by rw [HL.out]; exact hlt)⟩
      obtain ⟨e0, e1⟩ := hcell k x hx
      have hs := total_take vs k x hx
      have hle := total_le_take vs (k + 1)
      have hTT := HT.out
      have hNN := HN.out
      have HF : Hid (N + x.b.length = Fs.total (fsOf (vs.take (k + 1)))) := by show N + x.b.length = _; omega
      have hsm : N + x.b.length ≤ 1000000 := by omega
      obtain ⟨xn, xb, xa, xc⟩ := x
      obtain ⟨X, hX⟩ : ∃ X, xb.length = X := ⟨_, rfl⟩
      dsimp only at e1 hsm HF
      rw [hX] at e1 hsm HF
      clear hx hcell e0 hs hle hTT hNN hX
      go_wp2
      go_roundw
      case rel => exact ⟨k + 1, N + X, by omega, by go_num, by go_num, trivial, HF.out⟩
      case measure => simp [intOf]; omega
    · obtain rfl : k = L := by omega
      have HE : Hid (N = (fsOf vs).total) := by show N = _; rw [HN.out, List.take_of_length_le (by rw [HL.out]; exact Nat.le_refl _)]
      go_wp2
      go_ret
      exact ⟨by rw [← HE.out] <;> rfl, rfl⟩
end Go.Proofs.Yticbfnflillokaa
