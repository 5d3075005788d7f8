/- symMerge; the stable sort. -/
import Derived.Test.YtclchlcfcnlmhaaFr
namespace Go.Proofs.Ytclchlcfcnlmhaa
open Go.RowKit Go.Maps Go.Shelf
set_option linter.unusedSimpArgs false
set_option linter.unusedVariables false
theorem sym_ok (base : Nat) (w0 : World) (g L cap : Nat) (hL : L ≤ 100000) : ∀ d, SymOk base w0 g L cap d
  | 0 => fun A M1 M2 B a m b w h ha hm hb h1 h2 hd => by omega
  | d + 1 => fun A M1 M2 B a m b w h ha hm hb h1 h2 hd hs1 hs2 => by
    by_cases q1 : M1.length = 1
    · obtain ⟨x, rfl⟩ := List.length_eq_one_iff.1 q1
      exact sym_one base w0 g L cap a m b A x M2 B w h ha hm hb hs2 hL
    · by_cases q2 : M2.length = 1
      · obtain ⟨x, rfl⟩ := List.length_eq_one_iff.1 q2
        exact sym_last base w0 g L cap a m b A x M1 B w h ha hm hb q1 hs1 hL
      · exact sym_mid base w0 g L cap a m b d (sym_ok base w0 g L cap hL d) A M1 M2 B w h ha hm hb (by omega) (by omega) hd hs1 hs2 hL
def AllS (s : Nat) (C : List (List MK)) : Prop := ∀ c ∈ C, c.length = s ∧ Srt c
theorem AllS.snoc {s : Nat} {C : List (List MK)} {c : List MK} (h : AllS s C) (hl : c.length = s) (hs : Srt c) : AllS s (C ++ [c]) := fun x hx => by
  rcases List.mem_append.1 hx with hx | hx
  · exact h x hx
  · rw [List.mem_singleton.1 hx]; exact ⟨hl, hs⟩
/-- two blocks at least -/
theorem AllS.two {s : Nat} {C : List (List MK)} {R : List MK} (h : AllS s C) (hR : R.length < s) (ht : 2 * s ≤ (C.flatten ++ R).length) : ∃ b1 b2 C', C = b1 :: b2 :: C' ∧ b1.length = s ∧ b2.length = s ∧ Srt b1 ∧ Srt b2 ∧ AllS s C' := by
  rw [List.length_append] at ht
  cases C with
  | nil => simp at ht; omega
  | cons b1 C =>
    have h1 := h b1 (by simp)
    cases C with
    | nil => simp at ht; omega
    | cons b2 C =>
      have h2 := h b2 (by simp)
      exact ⟨b1, b2, C, rfl, h1.1, h2.1, h1.2, h2.2, fun c hc => h c (by simp [hc])⟩
/-- one at most -/
theorem AllS.one {s : Nat} {C : List (List MK)} {R : List MK} (h : AllS s C) (hs : 0 < s) (ht : (C.flatten ++ R).length < 2 * s) : C = [] ∨ ∃ b1, C = [b1] ∧ b1.length = s ∧ Srt b1 := by
  rw [List.length_append] at ht
  cases C with
  | nil => exact .inl rfl
  | cons b1 C =>
    have h1 := h b1 (by simp)
    cases C with
    | nil => exact .inr ⟨b1, rfl, h1.1, h1.2⟩
    | cons b2 C =>
      have h2 := h b2 (by simp)
      simp at ht
      omega
/-- the row in blocks of s, and what is behind them -/
structure Bks (base : Nat) (w0 wr : World) (g L cap : Nat) (T : List MK) (s : Nat) (C : List (List MK)) (R : List MK) : Prop where
  inp : InP base w0 wr g L cap (C.flatten ++ R)
  st : St T (C.flatten ++ R)
  all : AllS s C
theorem Bks.fin {base : Nat} {w0 wr : World} {g L cap : Nat} {T : List MK} {s : Nat} {C : List (List MK)} {R : List MK} (h : Bks base w0 wr g L cap T s C R) (hR : R.length < s) (hRs : Srt R) (hs : L ≤ s) : ∃ T', InP base w0 wr g L cap T' ∧ St T T' ∧ Srt T' := by
  have hl := h.inp.len
  rcases h.all.one (by omega) (by omega) (R := R) with rfl | ⟨b1, rfl, h1, h2⟩
  · exact ⟨_, h.inp, h.st, by simpa using hRs⟩
  · have : R = [] := by simp at hl; exact List.eq_nil_of_length_eq_zero (by omega)
    subst this
    exact ⟨_, h.inp, h.st, by simpa using h2⟩
/-- .. the first ones in blocks of twice as much -/
structure Bks2 (base : Nat) (w0 wr : World) (g L cap : Nat) (T : List MK) (s s2 a : Nat) (D C : List (List MK)) (R : List MK) : Prop where
  inp : InP base w0 wr g L cap (D.flatten ++ (C.flatten ++ R))
  st : St T (D.flatten ++ (C.flatten ++ R))
  alld : AllS s2 D
  all : AllS s C
  len : D.flatten.length = a
  lr : R.length < s
  sr : Srt R
theorem Bks2.next {base : Nat} {w0 wr w4 : World} {g L cap : Nat} {T : List MK} {s s2 a : Nat} {D C : List (List MK)} {b1 b2 M' R : List MK} (h : Bks2 base w0 wr g L cap T s s2 a D (b1 :: b2 :: C) R) (h2 : InP base w0 w4 g L cap (D.flatten ++ (M' ++ (C.flatten ++ R)))) (h3 : St (b1 ++ b2) M') (h4 : Srt M') (hs : s + s = s2) :
    Bks2 base w0 w4 g L cap T s s2 (a + s2) (D ++ [M']) C R := by
  have l1 := (h.all b1 (by simp)).1
  have l2 := (h.all b2 (by simp)).1
  have hl : M'.length = s2 := by rw [h3.len, List.length_append]; omega
  refine ⟨by simpa using h2, ?_, h.alld.snoc hl h4, fun c hc => h.all c (by simp [hc]), by have := h.len; simp at this ⊢; omega, h.lr, h.sr⟩
  have := h.st.trans (St.app (St.refl D.flatten) (show St ((b1 :: b2 :: C).flatten ++ R) (M' ++ (C.flatten ++ R)) by have := St.app h3 (St.refl (C.flatten ++ R)); simpa using this))
  simpa using this
theorem Bks2.stop {base : Nat} {w0 wr w4 : World} {g L cap : Nat} {T : List MK} {s s2 a : Nat} {D C : List (List MK)} {M' R : List MK} (h : Bks2 base w0 wr g L cap T s s2 a D C R) (h2 : InP base w0 w4 g L cap (D.flatten ++ M')) (h3 : St (C.flatten ++ R) M') (h4 : Srt M') (hl : M'.length < s2) :
    Bks base w0 w4 g L cap T s2 D M' ∧ M'.length < s2 ∧ Srt M' :=
  ⟨⟨h2, h.st.trans (St.app (St.refl _) h3), h.alld⟩, hl, h4⟩
set_option maxRecDepth 100000 in
set_option maxHeartbeats 8000000 in
theorem stable_any (base : Nat) (w0 : World) (g L cap : Nat) (T : List MK) (w : World) (h : InP base w0 w g L cap T) (hL : L ≤ 100000) :
    Calls Try.prog 56 #[.slice (some ⟨g, 0, none⟩) L cap, .int .i64 (L : Nat), ordV] w fun e w' => e = .returned (.tuple #[]) ∧ ∃ T', InP base w0 w' g L cap T' ∧ St T T' ∧ Srt T' := by
  have H := Lib.hid h
  clear h
  unfold ordV
  go_enter Try.func56, Try.ntmps56
  go_wp2
  go_loopw [7, 8] (fun av bv wr => ∃ a C R, av = .int .i64 (a : Nat) ∧ bv = .int .i64 ((a + 20 : Nat) : Int) ∧ Hid (Bks base w0 wr g L cap T 20 C R ∧ C.flatten.length = a)) (fun _ bv _ => L + 20 - (intOf bv).toNat)
  case atStart => exact ⟨0, [], T, rfl, rfl, Lib.hid ⟨⟨H.out, St.refl _, fun c hc => by cases hc⟩, rfl⟩⟩
  case round =>
    obtain ⟨a, C, R, rfl, rfl, HR⟩ := hrel
    have hlen : a + R.length = L := by have := HR.out.1.inp.len; rw [List.length_append, HR.out.2] at this; exact this
    by_cases hlt : a + 20 ≤ L
    · have hltz : (a : Int) + 20 ≤ (L : Int) := by omega
      have HC := Lib.hid (inss_any base w0 g L cap a (a + 20) C.flatten (R.take 20) (R.drop 20) wr (by rw [List.take_append_drop]; exact HR.out.1.inp) HR.out.2 (by rw [List.length_take]; omega) hL)
      have HN := Lib.hid (show ∀ w4 M', InP base w0 w4 g L cap (C.flatten ++ (M' ++ R.drop 20)) → St (R.take 20) M' → Srt M' → Bks base w0 w4 g L cap T 20 (C ++ [M']) (R.drop 20) ∧ (C ++ [M']).flatten.length = a + 20 from fun w4 M' h1 h2 h3 => by
        have hl : M'.length = 20 := by rw [h2.len, List.length_take]; omega
        refine ⟨⟨by simpa using h1, ?_, HR.out.1.all.snoc hl h3⟩, by have := HR.out.2; simp at this ⊢; omega⟩
        have := HR.out.1.st.trans (St.app (St.refl C.flatten) (by have := St.app h2 (St.refl (R.drop 20)); rwa [List.take_append_drop] at this))
        simpa using this)
      have HLT := Lib.hid hlt
      clear hlen hlt
      go_wp2_with fail
      refine HC.out.mono ?_
      rintro e w4 ⟨rfl, M', h1, h2, h3⟩
      have H4 := Lib.hid (HN.out _ _ h1 h2 h3)
      clear h1 h2 h3 HC
      go_wp2
      go_roundw
      case rel => exact ⟨a + 20, C ++ [M'], R.drop 20, by go_num, by go_num, H4.out⟩
      case measure => have := HLT.out; simp [intOf]; omega
    · have hltz : ¬ (a : Int) + 20 ≤ (L : Int) := by omega
      have HC := Lib.hid (inss_any base w0 g L cap a L C.flatten R [] wr (by rw [List.append_nil]; exact HR.out.1.inp) HR.out.2 hlen hL)
      have HN := Lib.hid (show ∀ w4 M', InP base w0 w4 g L cap (C.flatten ++ (M' ++ [])) → St R M' → Srt M' → Bks base w0 w4 g L cap T 20 C M' ∧ M'.length < 20 ∧ Srt M' from fun w4 M' h1 h2 h3 => 
        ⟨⟨by simpa using h1, HR.out.1.st.trans (St.app (St.refl C.flatten) h2), HR.out.1.all⟩, by rw [h2.len]; omega, h3⟩)
      clear hlen hlt
      go_wp2_with fail
      refine HC.out.mono ?_
      rintro e w4 ⟨rfl, M', h1, h2, h3⟩
      have H4 := Lib.hid (HN.out _ _ h1 h2 h3)
      clear h1 h2 h3 HC HN HR
      go_wp2
      go_loopw [6, 7, 8, 9] (fun sv av bv mv wr => ∃ s C R, sv = .int .i64 (s : Nat) ∧ 20 ≤ s ∧ s ≤ 200000 ∧ Hid (Bks base w0 wr g L cap T s C R ∧ R.length < s ∧ Srt R)) (fun sv _ _ _ _ => L - (intOf sv).toNat)
      case atStart => exact ⟨20, C, M', rfl, Nat.le_refl _, by omega, H4⟩
      case round =>
        obtain ⟨s, C2, R2, rfl, hs20, hsL, HS⟩ := hrel
        by_cases hsn : s < L
        · have hsz : (s : Int) < (L : Int) := by omega
          obtain ⟨s2, hs2⟩ : ∃ s2, s + s = s2 := ⟨_, rfl⟩
          have hz2 : (2 : Int) * (s : Int) = (s2 : Int) := by omega
          have hz3 : (s : Int) * 2 = (s2 : Int) := by omega
          have HS2 := Lib.hid (And.intro hs2 (And.intro hs20 hsn))
          have hs2L : s2 ≤ 200000 := by omega
          clear hs2 hs20 hsn
          go_wp2
          go_loopw [7, 8] (fun av bv wr => ∃ a D C R, av = .int .i64 (a : Nat) ∧ bv = .int .i64 ((a + s2 : Nat) : Int) ∧ Hid (Bks2 base w0 wr g L cap T s s2 a D C R)) (fun _ bv _ => L + s2 - (intOf bv).toNat)
          case atStart => exact ⟨0, [], C2, R2, rfl, by rw [Nat.zero_add], Lib.hid ⟨HS.out.1.inp, HS.out.1.st, (fun c hc => by cases hc), HS.out.1.all, rfl, HS.out.2.1, HS.out.2.2⟩⟩
          case round =>
            obtain ⟨a, D, C3, R3, rfl, rfl, HB⟩ := hrel
            have hlen : a + (C3.flatten ++ R3).length = L := by have := HB.out.inp.len; rw [List.length_append, HB.out.len] at this; exact this
            have hss := HS2.out
            by_cases hlt : a + s2 ≤ L
            · have hltz : (a : Int) + (s2 : Int) ≤ (L : Int) := by omega
              obtain ⟨b1, b2, C4, rfl, l1, l2, r1, r2, -⟩ := HB.out.all.two HB.out.lr (by omega)
              have HC := Lib.hid (sym_ok base w0 g L cap hL s2 D.flatten b1 b2 (C4.flatten ++ R3) a (a + s) (a + s2) wr (by have := HB.out.inp; simpa using this) HB.out.len (by omega) (by omega) (by omega) (by omega) (by omega) r1 r2)
              have HLT := Lib.hid hlt
              clear hlen hlt hss l1 l2 r1 r2
              go_wp2_with fail
              refine HC.out.mono ?_
              rintro e w5 ⟨rfl, M', h1, h2, h3⟩
              have H5 := Lib.hid (HB.out.next h1 h2 h3 HS2.out.1)
              clear h1 h2 h3 HC
              go_wp2
              go_roundw
              case rel => exact ⟨a + s2, D ++ [M'], C4, R3, by go_num, by go_num, H5.out⟩
              case measure => have := HLT.out; have := HS2.out; simp [intOf]; omega
            · have hltz : ¬ (a : Int) + (s2 : Int) ≤ (L : Int) := by omega
              have hsL2 : s < L := hss.2.2
              have haL : a ≤ 100000 := by omega
              rcases HB.out.all.one (by omega) (R := R3) (by omega) with rfl | ⟨b1, rfl, l1, r1⟩
              · have hl2 : a + R3.length = L := by simpa using hlen
                have hlr := HB.out.lr
                have hmz : ¬ (a : Int) + (s : Int) < (L : Int) := by omega
                have H5 := Lib.hid (HB.out.stop (by have := HB.out.inp; simpa using this) (St.refl R3) HB.out.sr (by omega))
                clear hlen hlt hss hl2 hlr hsL2
                go_wp2
                go_roundw
                case rel => exact ⟨s2, D, R3, rfl, by have := HS2.out; omega, by omega, H5.out⟩
                case measure => have := HS2.out; simp [intOf]; omega
              · by_cases hr : R3 = []
                · subst hr
                  have hl2 : a + b1.length = L := by simpa using hlen
                  have hmz : ¬ (a : Int) + (s : Int) < (L : Int) := by omega
                  have H5 := Lib.hid (HB.out.stop (M' := b1) (by have := HB.out.inp; simpa using this) (by simp; exact St.refl _) r1 (by omega))
                  clear hlen hlt hss hl2 hsL2 l1 r1
                  go_wp2
                  go_roundw
                  case rel => exact ⟨s2, D, b1, rfl, by have := HS2.out; omega, by omega, H5.out⟩
                  case measure => have := HS2.out; simp [intOf]; omega
                · have hl2 : a + (b1.length + R3.length) = L := by simpa using hlen
                  have hr0 : 0 < R3.length := List.length_pos_iff.2 hr
                  have hlr := HB.out.lr
                  have hmz : (a : Int) + (s : Int) < (L : Int) := by omega
                  have HC := Lib.hid (sym_ok base w0 g L cap hL L D.flatten b1 R3 [] a (a + s) L wr (by have := HB.out.inp; simpa using this) HB.out.len (by omega) (by omega) (by omega) (by omega) (by omega) r1 HB.out.sr)
                  have HN := Lib.hid (show ∀ w5 M', InP base w0 w5 g L cap (D.flatten ++ (M' ++ [])) → St (b1 ++ R3) M' → Srt M' → Bks base w0 w5 g L cap T s2 D M' ∧ M'.length < s2 ∧ Srt M' from fun w5 M' h1 h2 h3 => 
                    HB.out.stop (by simpa using h1) (by simpa using h2) h3 (by rw [h2.len, List.length_append]; omega))
                  clear hlen hlt hss hl2 hsL2 l1 r1 hlr hr0 hr
                  go_wp2_with fail
                  refine HC.out.mono ?_
                  rintro e w5 ⟨rfl, M', h1, h2, h3⟩
                  have H5 := Lib.hid (HN.out _ _ h1 h2 h3)
                  clear h1 h2 h3 HC HN HB
                  go_wp2
                  go_roundw
                  case rel => exact ⟨s2, D, M', rfl, by have := HS2.out; omega, by omega, H5.out⟩
                  case measure => have := HS2.out; simp [intOf]; omega
        · have hsz : ¬ (s : Int) < (L : Int) := by omega
          have HE := Lib.hid (HS.out.1.fin HS.out.2.1 HS.out.2.2 (by omega))
          go_wp2
          exact bodyPost_end (results_none rfl _ _ _) rfl ⟨rfl, HE.out⟩
end Go.Proofs.Ytclchlcfcnlmhaa
