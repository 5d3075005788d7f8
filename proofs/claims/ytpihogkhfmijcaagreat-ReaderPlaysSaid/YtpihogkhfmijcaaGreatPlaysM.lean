/- ReaderPlays. -/
import Derived.Test.YtpihogkhfmijcaaGreatSReq
import Derived.Test.YtpihogkhfmijcaaGreatPSame
import Derived.Test.YtpihogkhfmijcaaGreatDTake
import Derived.Test.YtpihogkhfmijcaaGreatAwake
import Derived.Deep.CutBlock
import Derived.Deep.RegionHeldLaw
namespace Go.Proofs.YtpihogkhfmijcaaGreat
open Go.RowKit Go.Maps Go.Shelf
set_option linter.unusedSimpArgs false
def zero42 : Array Value := #[.int .i64 0, .int .i64 0, .int .u64 0, .int .i64 0, .int .u64 0, .int .i64 0, .int .i64 0, .int .u64 0, .int .u64 0, .int .u64 0, .int .u64 0, .slice none 0 0, .int .u64 0, .int .i64 0, .int .i64 0, .slice none 0 0, .int .i64 0, .int .u64 0]
theorem cas_one (q : CaV) : ∀ v ∈ q.cells, v.oneCell' = true := by
  intro u hu
  simp only [CaV.cells, List.mem_cons, List.not_mem_nil, or_false] at hu
  rcases hu with rfl | rfl | rfl | rfl | rfl | rfl | rfl | rfl | rfl | rfl | rfl | rfl | rfl | rfl | rfl | rfl | rfl | rfl <;> rfl
theorem own_below {B gc : Nat} {w X : World} {v1 v2 v3 v4 v5 : Value} (h : Below B w X) (hg : B ≤ gc) : Below B w (((((X.setCell ⟨gc, 5, none⟩ v1).setCell ⟨gc, 7, none⟩ v2).setCell ⟨gc, 8, none⟩ v3).setCell ⟨gc, 9, none⟩ v4).setCell ⟨gc, 12, none⟩ v5).drew :=
  Below.drew (((((h.setCell (p := ⟨gc, 5, none⟩) hg _).setCell (p := ⟨gc, 7, none⟩) hg _).setCell (p := ⟨gc, 8, none⟩) hg _).setCell (p := ⟨gc, 9, none⟩) hg _).setCell (p := ⟨gc, 12, none⟩) hg _)
theorem cs_one (y : FeV) : ∀ v ∈ y.cs, v.oneCell' = true := by
  intro u hu
  simp only [FeV.cs, List.mem_cons, List.not_mem_nil, or_false] at hu
  rcases hu with rfl | rfl | rfl | rfl | rfl | rfl | rfl | rfl <;> rfl
theorem St.moved {w0 W : World} {g : Nat} {y : FeV} {m : FeM} {n : Int} (h : St w0 W g y m) (hi : FInv n m) (now : Int) (hn : u64ok now) (l : LgV) (hl : FsAt W (.slice l.a l.fs.length l.c) l.fs) (hs : ∀ x ∈ l.fs, x.ps.length ≤ 100000) :
    Calls Tryz.prog 13 #[y.val, .int .u64 now, l.val] W fun e w' => FetPost (m.still (m.movedM now l)) W e w' := by
  have e := h.m
  have hb := hi.body
  have hl2 := hi.inn.len
  have h1 := hi.n1
  have h2 := hi.nn
  rw [← e] at hb hl2 h2 ⊢
  exact Moved_any y now hn W h.ok (by have : y.set.length ≤ 1000 := hl2; omega) (by have : y.body.length ≤ 5000 := hb; omega) (by have : y.n = n := h2; omega) l hl hs
def CaV.mine (q : CaV) (i n tag : Int) : CaV := { q with r := { q.r with kind := 3, ledger := i, n := n, epoch := tag }, l := { q.l with i := i } }
/-- what both News tell, be there such an entry or not -/
def NPost (m0 : FeM) (Lq : List RqM) (er : Int) (w : World) (e : Ending) (w' : World) : Prop :=
  ∃ (y : FeV) (ra : Option Addr) (rc : Nat), e = .returned (.tuple #[y.val, .slice ra Lq.length rc, .int .i64 er]) ∧ y.m = m0 ∧ y.ok w' ∧ QsAt w' (.slice ra Lq.length rc) Lq ∧ Below w.heap.size w w' ∧ ∀ b, y.blk b → w.heap.size ≤ b
def Told (x : LgV) (n tag now : Int) (m0 : FeM) (Lq : List RqM) (er : Int) : Prop :=
  (NewOk x n ∧ er = 0 ∧ m0 = (newM x n tag now).1 ∧ Lq = (newM x n tag now).2) ∨ (¬ NewOk x n ∧ er = 1 ∧ m0 = feZero.m ∧ Lq = [])
theorem Told.any (x : LgV) (n tag now : Int) : ∃ m0 Lq er, Told x n tag now m0 Lq er := by
  by_cases h : NewOk x n
  · exact ⟨_, _, _, .inl ⟨h, rfl, rfl, rfl⟩⟩
  · exact ⟨_, _, _, .inr ⟨h, rfl, rfl, rfl⟩⟩
theorem fezero_ok (w : World) : feZero.ok w := ⟨⟨⟨by unfold u64ok feZero; dsimp only; omega, by unfold u64ok feZero; dsimp only; omega⟩, by unfold i64ok feZero; dsimp only; omega, by unfold u64ok feZero; dsimp only; omega, by unfold u64ok feZero; dsimp only; omega, by unfold i64ok feZero; dsimp only; omega⟩, RowAt.nil _, RowAt.nil _⟩
theorem NPost.of {x : LgV} {n tag now : Int} {m0 : FeM} {Lq : List RqM} {er : Int} (hT : Told x n tag now m0 Lq er) {w w' : World} {e : Ending} (h : NewPost x n tag now w e w') : NPost m0 Lq er w e w' := by
  rcases hT with ⟨h0, rfl, rfl, rfl⟩ | ⟨h0, rfl, rfl, rfl⟩
  · rcases h with ⟨-, y, ra, rc, he, h1, h2, h3, h4, h5⟩ | ⟨h1, -⟩
    · exact ⟨y, ra, rc, he, h1, h2, h3, h4, fun b e => h5 b (.inl e)⟩
    · exact absurd h0 h1
  · rcases h with ⟨h1, -⟩ | ⟨-, he, h4⟩
    · exact absurd h1 h0
    · exact ⟨feZero, none, 0, he, rfl, fezero_ok _, QsAt.nil _, h4, fun b e => by rcases e with e | e <;> cases e⟩
/-- both fetches of the law -/
structure PInv (x : LgV) (w wr : World) (g h : Nat) (y z : FeV) (m : FeM) : Prop where
  fy : St w wr g y m
  fz : St w wr h z m
  box : BoxC wr w.heap.size 25 x.arr
  sep : (Sep y g ∧ Sep y h) ∧ Sep z g ∧ Sep z h
  ne : g ≠ h ∧ w.heap.size < g ∧ w.heap.size < h
theorem PInv.below {x : LgV} {w wr W : World} {g h : Nat} {y z : FeV} {m : FeM} (k : PInv x w wr g h y z m) (hb : Below wr.heap.size wr W) : PInv x w W g h y z m := ⟨k.fy.below hb, k.fz.below hb, k.box.below hb, k.sep, k.ne⟩
theorem St.ch1 {w0 W W' : World} {g k : Nat} {y : FeV} {m : FeM} (h : St w0 W g y m) (hc : Ch1 k W W') (hne : g ≠ k) (hs : Sep y k) (hk : w0.heap.size ≤ k) : St w0 W' g y m :=
  ⟨hc.heap h.box hne, h.ok.sep hs hc, h.m, h.gl, h.bel.trans (hc.below h.bel.size (fun i hi => by rw [hi]; exact hk))⟩
theorem PInv.ch1 {x : LgV} {w W W' : World} {g h k : Nat} {y z : FeV} {m : FeM} (p : PInv x w W g h y z m) (hc : Ch1 k W W') (hk : w.heap.size < k ∧ g ≠ k ∧ h ≠ k) (hs : Sep y k ∧ Sep z k) : PInv x w W' g h y z m :=
  ⟨p.fy.ch1 hc hk.2.1 hs.1 (Nat.le_of_lt hk.1), p.fz.ch1 hc hk.2.2 hs.2 (Nat.le_of_lt hk.1), hc.heap p.box (by omega), p.sep, p.ne⟩
/-- what lies beside: the two new variables' blocks -/
structure Nums (w : World) (g h gc gw gn gt : Nat) (y z u : FeV) : Prop where
  nn : w.heap.size < gn ∧ g ≠ gn ∧ h ≠ gn
  nt : w.heap.size < gt ∧ g ≠ gt ∧ h ≠ gt
  oth : (gc ≠ gn ∧ gc ≠ gt) ∧ (gw ≠ gn ∧ gw ≠ gt) ∧ gn ≠ gt
  sn : (Sep y gn ∧ Sep z gn) ∧ Sep u gn
  st : (Sep y gt ∧ Sep z gt) ∧ Sep u gt
/-- behind the copies -/
structure Side (x : LgV) (w Z : World) (g h gc gw gn gt : Nat) (m : FeM) (q : CaV) (y z u : FeV) : Prop where
  inv : PInv x w Z g h y z m
  call : BoxC Z gc 44 q.cells.toArray
  was : BoxC Z gw 32 u.cs.toArray
  wok : u.ok Z
  nx : St w Z gn y m
  tx : St w Z gt z m
/-- behind the program's call -/
structure Mid (x : LgV) (w Z : World) (g h gc gw gn gt : Nat) (m : FeM) (q : CaV) (y z u y2 : FeV) (ra : Option Addr) (rc : Nat) (M : FeM × List RqM) : Prop where
  inv : PInv x w Z g h y z m
  call : BoxC Z gc 44 q.cells.toArray
  was : BoxC Z gw 32 u.cs.toArray
  wok : u.ok Z
  nx : St w Z gn y2 M.1
  tx : St w Z gt z m
  rq : QsAt Z (.slice ra M.2.length rc) M.2
  far : ∀ b, y2.blk b ∨ ab ra = some b → b ≠ gt ∧ b ≠ g ∧ b ≠ h
/-- behind both calls -/
structure Fin2 (x : LgV) (n : Int) (w Z : World) (g h gw gn gt : Nat) (m : FeM) (y z u y2 z2 : FeV) (ra rb : Option Addr) (rc rcb : Nat) (M : FeM × List RqM) : Prop where
  inv : PInv x w Z g h y z m
  was : BoxC Z gw 32 u.cs.toArray
  wok : u.ok Z
  nx : St w Z gn y2 M.1
  tx : St w Z gt z2 M.1
  rq : QsAt Z (.slice ra M.2.length rc) M.2
  rq2 : QsAt Z (.slice rb M.2.length rcb) M.2
  sep : (Sep y2 g ∧ Sep y2 h) ∧ Sep z2 g ∧ Sep z2 h
  fin : FInv n M.1
  one : M.2.length ≤ 1
theorem Side.one {x : LgV} {w Z wy : World} {g h gc gw gn gt : Nat} {m : FeM} {q : CaV} {y z u y2 : FeV} {ra : Option Addr} {rc : Nat} {M : FeM × List RqM} (s : Side x w Z g h gc gw gn gt m q y z u) (N : Nums w g h gc gw gn gt y z u)
    (p1 : y2.m = M.1) (p2 : y2.ok wy) (p3 : QsAt wy (.slice ra M.2.length rc) M.2) (p4 : Below Z.heap.size Z wy) (p5 : ∀ b, y2.blk b ∨ ab ra = some b → Z.heap.size ≤ b) : Mid x w (put8n wy gn y2) g h gc gw gn gt m q y z u y2 ra rc M := by
  obtain ⟨s1, s2, s3⟩ := s.nx.next (Below.refl _ _) p1 p2 p3 p4 p5
  have h1 := s.tx.box.lt
  have h2 := s.inv.fy.box.lt
  have h3 := s.inv.fz.box.lt
  exact ⟨s.inv.ch1 s3 N.nn N.sn.1, s3.heap s.call N.oth.1.1, s3.heap s.was N.oth.2.1.1, s.wok.sep N.sn.2 s3, s1, s.tx.ch1 s3 N.oth.2.2.symm N.sn.1.2 (Nat.le_of_lt N.nn.1), s2.1, fun b hb => by have := p5 b hb; omega⟩
theorem blk_sep {y : FeV} {ra : Option Addr} {k : Nat} (h : ∀ b, y.blk b ∨ ab ra = some b → b ≠ k) : Sep y k := fun b hb => by
  rcases hb with ⟨e, -⟩ | ⟨e, -⟩
  · exact h b (.inl (.inl e))
  · exact h b (.inl (.inr e))
theorem Mid.two {x : LgV} {n : Int} {w Z wv : World} {g h gc gw gn gt : Nat} {m : FeM} {q : CaV} {y z u y2 z2 : FeV} {ra rb : Option Addr} {rc rcb : Nat} {M : FeM × List RqM} (s : Mid x w Z g h gc gw gn gt m q y z u y2 ra rc M) (N : Nums w g h gc gw gn gt y z u)
    (p1 : z2.m = M.1) (p2 : z2.ok wv) (p3 : QsAt wv (.slice rb M.2.length rcb) M.2) (p4 : Below Z.heap.size Z wv) (p5 : ∀ b, z2.blk b ∨ ab rb = some b → Z.heap.size ≤ b) (hi : FInv n M.1) (h1 : M.2.length ≤ 1) : Fin2 x n w (put8n wv gt z2) g h gw gn gt m y z u y2 z2 ra rb rc rcb M := by
  obtain ⟨s1, s2, s3⟩ := s.tx.next (Below.refl _ _) p1 p2 p3 p4 p5
  have hy := blk_sep (y := y2) (ra := ra) (k := gt) (fun b hb => (s.far b hb).1)
  have k1 := s.inv.fy.box.lt
  have k2 := s.inv.fz.box.lt
  exact ⟨s.inv.ch1 s3 N.nt N.st.1, s3.heap s.was N.oth.2.1.2, s.wok.sep N.st.2 s3, s.nx.ch1 s3 N.oth.2.2 hy (Nat.le_of_lt N.nt.1), s1, QsAt.ch1 s.rq (fun b e => (s.far b (.inr e)).1) s3, s2.1,
    ⟨⟨blk_sep (fun b hb => (s.far b hb).2.1), blk_sep (fun b hb => (s.far b hb).2.2)⟩, Sep.of_new p5 k1, Sep.of_new p5 k2⟩, hi, h1⟩
theorem Fin2.below {x : LgV} {n : Int} {w Z Z' : World} {g h gw gn gt : Nat} {m : FeM} {y z u y2 z2 : FeV} {ra rb : Option Addr} {rc rcb : Nat} {M : FeM × List RqM} (s : Fin2 x n w Z g h gw gn gt m y z u y2 z2 ra rb rc rcb M) (hb : Below Z.heap.size Z Z') : Fin2 x n w Z' g h gw gn gt m y z u y2 z2 ra rb rc rcb M :=
  ⟨s.inv.below hb, s.was.below hb, s.wok.below hb, s.nx.below hb, s.tx.below hb, s.rq.below hb, s.rq2.below hb, s.sep, s.fin, s.one⟩
/-- both variables are written over, in one order or in the other -/
theorem St.over {w0 W : World} {g k : Nat} {y y2 : FeV} {m M : FeM} (h : St w0 W g y m) (k2 : St w0 W k y2 M) (hs : Sep y2 g) : St w0 (put8n W g y2) g y2 M := by
  rw [put8n_eq]
  have hc := Ch1.sets W g y2.cs
  exact ⟨h.box.full y2.cs rfl, k2.ok.sep hs hc, k2.m, h.gl, Below.sets h.gl _ h.bel⟩
theorem put8n_ch1 (W : World) (g : Nat) (y : FeV) : Ch1 g W (put8n W g y) := by rw [put8n_eq]; exact Ch1.sets W g y.cs
theorem Fin2.done {x : LgV} {n : Int} {w Z : World} {g h gw gn gt : Nat} {m : FeM} {y z u y2 z2 : FeV} {ra rb : Option Addr} {rc rcb : Nat} {M : FeM × List RqM} (s : Fin2 x n w Z g h gw gn gt m y z u y2 z2 ra rb rc rcb M) (hgt : g ≠ gt) (hhn : h ≠ gn) :
    PInv x w (put8n (put8n Z g y2) h z2) g h y2 z2 M.1 ∧ PInv x w (put8n (put8n Z h z2) g y2) g h y2 z2 M.1 := by
  have n1 := s.inv.ne
  have w1 : w.heap.size ≤ g := Nat.le_of_lt n1.2.1
  have w2 : w.heap.size ≤ h := Nat.le_of_lt n1.2.2
  have a1 := s.inv.fy.over s.nx s.sep.1.1
  have a2 := s.inv.fz.ch1 (put8n_ch1 Z g y2) n1.1.symm s.inv.sep.2.1 w1
  have a3 := s.tx.ch1 (put8n_ch1 Z g y2) hgt.symm s.sep.2.1 w1
  have a4 := a2.over a3 s.sep.2.2
  have a5 := a1.ch1 (put8n_ch1 (put8n Z g y2) h z2) n1.1 s.sep.1.2 w2
  have b1 := s.inv.fz.over s.tx s.sep.2.2
  have b2 := s.inv.fy.ch1 (put8n_ch1 Z h z2) n1.1 s.inv.sep.1.2 w2
  have b3 := s.nx.ch1 (put8n_ch1 Z h z2) hhn.symm s.sep.1.2 w2
  have b4 := b2.over b3 s.sep.1.1
  have b5 := b1.ch1 (put8n_ch1 (put8n Z h z2) g y2) n1.1.symm s.sep.2.1 w1
  exact ⟨⟨a5, a4, (put8n_ch1 _ h z2).heap ((put8n_ch1 Z g y2).heap s.inv.box (by omega)) (by omega), s.sep, n1⟩, ⟨b4, b5, (put8n_ch1 _ g y2).heap ((put8n_ch1 Z h z2).heap s.inv.box (by omega)) (by omega), s.sep, n1⟩⟩
/-- the two copies' blocks, in one order or in the other -/
theorem pair_new (V : World) (A B : Array Value) : (BoxC ((V.alloc (.cells A 32)).alloc (.cells B 32)).drew V.heap.size 32 A ∧ BoxC ((V.alloc (.cells A 32)).alloc (.cells B 32)).drew (V.heap.size + 1) 32 B) ∧ Below V.heap.size V ((V.alloc (.cells A 32)).alloc (.cells B 32)).drew := by
  refine ⟨⟨(BoxC.new V 32 A).alloc _, ?_⟩, Below.drew (Go.Joins.below_alloc2 V _ _)⟩
  have := BoxC.new (V.alloc (.cells A 32)) 32 B
  rw [World.size_alloc] at this
  exact this
theorem side_new {x : LgV} {w V Z : World} {g h gc gw gn gt : Nat} {m : FeM} {q : CaV} {y z u : FeV} (p : PInv x w V g h y z m) (hc : BoxC V gc 44 q.cells.toArray) (hw : BoxC V gw 32 u.cs.toArray) (hu : u.ok V) (hb : Below V.heap.size V Z) (hn : BoxC Z gn 32 y.cs.toArray) (ht : BoxC Z gt 32 z.cs.toArray) (h1 : V.heap.size ≤ gn) (h2 : V.heap.size ≤ gt) (h3 : gn ≠ gt) :
    Side x w Z g h gc gw gn gt m q y z u ∧ Nums w g h gc gw gn gt y z u := by
  have k1 := p.fy.box.lt
  have k2 := p.fz.box.lt
  have k3 := p.box.lt
  have k4 := hc.lt
  have k5 := hw.lt
  have pz := p.below hb
  refine ⟨⟨pz, hc.below hb, hw.below hb, hu.below hb, ⟨hn, pz.fy.ok, pz.fy.m, by omega, pz.fy.bel⟩, ⟨ht, pz.fz.ok, pz.fz.m, by omega, pz.fz.bel⟩⟩, ?_⟩
  exact ⟨by omega, by omega, by omega, ⟨⟨Sep.of_ok p.fy.ok h1, Sep.of_ok p.fz.ok h1⟩, Sep.of_ok hu h1⟩, ⟨⟨Sep.of_ok p.fy.ok h2, Sep.of_ok p.fz.ok h2⟩, Sep.of_ok hu h2⟩⟩
theorem same_fix {f : Nat} {args : Array Value} {x y : FeV} {W : World} {B : Bool} (h : Calls Tryz.prog f args W fun e w' => SamePost x y W e w') (hB : B = true ↔ x.m = y.m) : Calls Tryz.prog f args W fun e w' => e = .returned (.bool B) ∧ Below W.heap.size W w' :=
  h.mono fun e w' ⟨R, he, hR, hb⟩ => ⟨by rw [he, show R = B from Bool.eq_iff_iff.2 (hR.trans hB.symm)], hb⟩
theorem stays_one {n : Int} {m : FeM} {p : PL} {M : FeM × List RqM} (h : Stays n m p M) : M.2.length ≤ 1 := h.one
end Go.Proofs.YtpihogkhfmijcaaGreat
