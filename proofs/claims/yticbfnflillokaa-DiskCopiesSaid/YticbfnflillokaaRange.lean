/- Ranging over a map of slices. -/
import Derived.Test.YticbfnflillokaaDoes
namespace Go.Proofs.Yticbfnflillokaa
open Go.RowKit Go.Maps Go.WideMaps
theorem key_inv {key : Value} {kl : Lit} (h : keyOf Try.prog 9 key = some kl) : ∃ x : Bs, key = .string ⟨x.toArray⟩ ∧ kl = .string x := by
  cases key <;> simp [keyOf, Try.underlying9, mapKey] at h
  rename_i s
  obtain ⟨_, rfl⟩ := h
  exact ⟨s.data.toList, by simp, rfl⟩
theorem sameKey_string (a b : Bs) : (Lit.string a).sameKey (.string b) = decide (a = b) := by
  by_cases h : a = b
  · subst h
    rw [WideAt.sameKey_self (by simp [WideAt.IsKeyLit])]; simp
  · rw [sameKey_ne (fun e => h (by injection e))]; simp [h]
/-- block r goes over the map bm; the names L are still to come -/
def RRange (w : World) (bm r n : Nat) (M : Bs → Option Sl) (L : Bs → Bool) (cnt : Nat) : Prop :=
  ∃ D left, (∀ k, (M k = none → has D (.string k) = false) ∧ ∀ s, M k = some s → ∀ z, D.atKey (.string k) z = .held (slv s)) ∧ w.ranges Try.prog 9 rawElem bm r n D left cnt ∧ ∀ k, left (.string k) = L k
theorem RRange.chg {w w' : World} {bm r n cnt : Nat} {M : Bs → Option Sl} {L : Bs → Bool} {S : Nat → Prop} (h : RRange w bm r n M L cnt) (hc : Chg S w w') (h1 : ¬ S bm) (h2 : ¬ S r) : RRange w' bm r n M L cnt := by
  obtain ⟨D, left, hD, ⟨es, clock, since, seen, c0, hb, F, hs, hDD, hr, rest⟩, hL⟩ := h
  exact ⟨D, left, hD, ⟨es, clock, since, seen, c0, hc.heap hb h1, F, hs, hDD, hc.heap hr h2, rest⟩, hL⟩
theorem RRange.left_eq {w : World} {bm r n cnt : Nat} {M : Bs → Option Sl} {L : Bs → Bool} (h : RRange w bm r n M L cnt) : w.rangeLeft bm r = cnt := by
  obtain ⟨D, left, hD, h, _⟩ := h; exact h.left_eq
theorem RRange.lt {w : World} {bm r n cnt : Nat} {M : Bs → Option Sl} {L : Bs → Bool} (h : RRange w bm r n M L cnt) : r < w.heap.size := by
  obtain ⟨D, left, hD, h, _⟩ := h; exact h.lt
theorem wpList_range_files {w : World} {ops : Array Oper} {rest : List Oper} {o : Oper} {a : Act} {Q : Exit → Act → World → Prop} (hg : o.guard = none) (m : Operand) (hop : o.op = Op.range 39 m) (bm n : Nat) (M : Bs → Option Sl)
    (hm : a.eval m = .map (some bm)) (hM : RMap w bm n M)
    (hK : ∀ w' cnt, cnt ≤ n → RRange w' bm w.heap.size n M (fun k => (M k).isSome) cnt → Chg (fun _ => False) w w' → w'.heap.size = w.heap.size + 1 → wpList Try.prog ops Q rest (a.put o.dst (.pointer (some ⟨w.heap.size, 0, none⟩))) w') : wpList Try.prog ops Q (o :: rest) a w := by
  obtain ⟨D, h, hD⟩ := hM
  refine wpList_range_own w hg m 39 hop 9 31 law Try.underlying39 rawElem bm n D hm h fun w' h1 h2 h3 => hK w' _ h.size_le ⟨D, _, hD, h1, fun k => ?_⟩ ((Chg.refl _ _).grown h2 fun k hk => by cases hk) h3
  cases hk : M k with
  | none => show has D (.string k) = (M k).isSome; rw [hk]; exact (hD k).1 hk
  | some s => show has D (.string k) = (M k).isSome; rw [hk]; exact has_true_of_atKey ((hD k).2 s hk)
theorem wpList_next_files {w : World} {ops : Array Oper} {rest : List Oper} {o : Oper} {a : Act} {Q : Exit → Act → World → Prop} (hg : o.guard = none) (it : Operand) (hop : o.op = Op.next it false) (bm r n cnt : Nat) (M : Bs → Option Sl) (L : Bs → Bool)
    (hit : a.eval it = .pointer (some ⟨r, 0, none⟩)) (h : RRange w bm r n M L cnt)
    (hDone : (∀ k, L k = false) → wpList Try.prog ops Q rest (a.put o.dst (.tuple #[.bool false])) w)
    (hMore : ∀ (k : Bs) (ad : Option Addr) (len cap : Nat) (w' : World) (cnt' : Nat), L k = true → M k = some (ad, len, cap) → RRange w' bm r n M (fun x => L x && !decide (x = k)) cnt' → cnt' < cnt → Chg (fun i => i = r) w w' → w'.heap.size = w.heap.size →
      (Instr.entry (.pointer (some ⟨r, 0, none⟩))).run Try.prog w' = .ok (.tuple #[.string ⟨k.toArray⟩, .slice ad len cap]) w' → wpList Try.prog ops Q rest (a.put o.dst (.tuple #[.bool true, .string ⟨k.toArray⟩, .slice ad len cap])) w') : wpList Try.prog ops Q (o :: rest) a w := by
  obtain ⟨D, left, hD, hr, hL⟩ := h
  refine wpList_next_ranges (α := Bs) (β := Sl) w hg it hop 9 law rawElem (fun x => .string ⟨x.toArray⟩) slv (fun key kl hk => by obtain ⟨x, h, _⟩ := key_inv hk; exact ⟨x, h⟩) (fun v y hv => by obtain ⟨s, h, _⟩ := rawElem_inv hv; exact ⟨s, h⟩) bm r n D left cnt hit hr (fun _ hl => hDone fun k => by rw [← hL]; exact hl _) ?_
  intro x c kl y w' cnt' hkey hlk hv hat hrg hlt hgr hsz hen
  obtain ⟨x', hx', rfl⟩ := key_inv hkey
  have : x = x' := by
    have := congrArg (fun v => match v with | Value.string s => s.data.toList | _ => []) hx'
    simpa using this
  subst this
  obtain ⟨ad, len, cap⟩ := c
  have hMx : M x = some (ad, len, cap) := by
    cases hm : M x with
    | none => have := (hD x).1 hm; rw [has_true_of_atKey hat] at this; cases this
    | some s =>
      have h1 := (hD x).2 s hm .nil
      rw [hat] at h1
      rw [rawElem_mk] at hv
      cases hv
      have := DataW.held.inj h1
      unfold slv at this
      obtain ⟨a1, a2, a3⟩ := s
      simp only [Value.slice.injEq] at this
      obtain ⟨rfl, rfl, rfl⟩ := this
      rfl
  exact hMore x ad len cap w' cnt' (by rw [← hL]; exact hlk) hMx ⟨D, _, hD, hrg, fun k => by show (left (.string k) && !(Lit.string k).sameKey (.string x)) = (L k && !decide (k = x)); rw [← hL, sameKey_string]⟩ hlt ((Chg.refl _ _).grown hgr fun k hk => .inl (by cases hk; rfl)) hsz hen
end Go.Proofs.Yticbfnflillokaa
