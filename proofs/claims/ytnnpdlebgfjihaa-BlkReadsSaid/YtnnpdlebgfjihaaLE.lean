/-
  Rows of places and of texts, and what a manager's pages hold of them. Nothing of one statement alone stands here.
-/
import Derived.Test.YtnnpdlebgfjihaaLD
import Derived.Test.YtnnpdlebgfjihaaLA
import Derived.OwnWalk
import Derived.Lib.Bytes
namespace Go.Proofs.Ytnnpdlebgfjihaa
open Go.RowKit Crcm Gcm Go.ChangeShapes

theorem strOf_injS {l m : List Int} (hl : ∀ n ∈ l, U8 n) (hm : ∀ n ∈ m, U8 n) : ((strOfNums l).toList == (strOfNums m).toList) = decide (l = m) := by
  rw [Lib.strOfNums_toList, Lib.strOfNums_toList, Bool.eq_iff_iff, beq_iff_eq, decide_eq_true_iff]
  constructor
  · intro h
    have : ∀ (l m : List Int), (∀ n ∈ l, U8 n) → (∀ n ∈ m, U8 n) → Lib.bytesOf l = Lib.bytesOf m → l = m := by
      intro l
      induction l with
      | nil => intro m _ _ h; cases m with | nil => rfl | cons _ _ => simp [Lib.bytesOf] at h
      | cons a l ih =>
        intro m hl hm h
        cases m with
        | nil => simp [Lib.bytesOf] at h
        | cons b m =>
          simp only [Lib.bytesOf, List.map_cons, List.cons.injEq] at h
          obtain ⟨a0, a1⟩ := hl a (by simp)
          obtain ⟨b0, b1⟩ := hm b (by simp)
          have h1 : a.toNat % 256 = b.toNat % 256 := by
            have := congrArg UInt8.toNat h.1
            simpa using this
          rw [show a = b by omega, ih m (fun n hn => hl n (by simp [hn])) (fun n hn => hm n (by simp [hn])) h.2]
    exact this l m hl hm h
  · rintro rfl; rfl

theorem sameS_any (a b : Option Addr) (c d : Nat) (n k : Nat) (l m : List Int) (w : World) (hl : Rw w a l) (hm : Rw w b m) (en : l.length = n) (ek : m.length = k) :
    Calls Try.prog 14 #[.slice a n c, .slice b k d] w fun e w' => e = .returned (.bool (decide (l = m))) ∧ w = w' := by
  have h1 := hl.text n c en
  have h2 := hm.text k d ek
  have H := Lib.hid (strOf_injS hl.1 hm.1)
  clear hl hm en ek
  go_enter Try.func14, Try.ntmps14
  go_wp2
  go_ret
  exact ⟨by rw [← H.out]; rfl, rfl⟩

/-- rows under a call's frame -/
theorem own_kp {X : Nat → Prop} {w w' : World} {B n sz : Nat} {e : TypeId} {v : Value} {xs : List Value} (h : w.ownsRow B e sz v n xs) (hk : Kp X w w') (hX : ∀ b, X b → b < B) : w'.ownsRow B e sz v n xs := by
  refine ⟨h.1, ?_⟩
  rcases h.2 with hn | ⟨g, cap, cur, hv, hb, hg, rest⟩
  · exact .inl hn
  · have hlt : g < w.heap.size := by
      rcases Nat.lt_or_ge g w.heap.size with h | h
      · exact h
      · rw [Array.getElem?_eq_none h] at hg; cases hg
    exact .inr ⟨g, cap, cur, hv, hb, (hk.block g hlt (fun hx => by have := hX g hx; omega)).trans hg, rest⟩
theorem own_below {w w' : World} {B n sz : Nat} {e : TypeId} {v : Value} {xs : List Value} (h : w.ownsRow B e sz v n xs) (hb : Below w.heap.size w w') : w'.ownsRow B e sz v n xs :=
  own_kp (X := fun _ => False) h (Kp.of_below hb) (fun _ g => g.elim)
/-- one value of a row written over -/
theorem own_set {w : World} {B n sz g cap : Nat} {e : TypeId} {xs : List Value} (h : w.ownsRow B e sz (.slice (some ⟨g, 0, none⟩) n cap) n xs) (j : Nat) (u : Value) : (w.setCell ⟨g, j, none⟩ u).ownsRow B e sz (.slice (some ⟨g, 0, none⟩) n cap) n (xs.set j u) := by
  refine ⟨by rw [List.length_set]; exact h.1, ?_⟩
  rcases h.2 with ⟨hn, -⟩ | ⟨g', cap', cur, hv, hb, hg, h1, h2, h3, h4⟩
  · cases hn
  · injection hv with e1 e2 e3
    injection e1 with e1
    injection e1 with e1
    subst e1 e3
    refine .inr ⟨g, cap, cur.setIfInBounds j u, rfl, hb, Blk.put (cs := cur) hg j u, h1, h2, by simpa using h3, ?_⟩
    rw [← h4, Array.toList_setIfInBounds, List.take_set]
theorem own_froz {w : World} {B n sz g cap : Nat} {e : TypeId} {xs : List Value} (h : w.ownsRow B e sz (.slice (some ⟨g, 0, none⟩) n cap) n xs) (j : Nat) : w.frozen? ⟨g, j, none⟩ = false := by
  rcases h.2 with ⟨hn, -⟩ | ⟨g', cap', cur, hv, hb, hg, -⟩
  · cases hn
  · injection hv with e1 e2 e3
    injection e1 with e1
    injection e1 with e1
    subst e1
    exact Blk.frozen (cs := cur) hg j
theorem own_cell {w : World} {B n sz g cap : Nat} {e : TypeId} {xs : List Value} (h : w.ownsRow B e sz (.slice (some ⟨g, 0, none⟩) n cap) n xs) {j : Nat} {u : Value} (hu : xs[j]? = some u) : w.cell? ⟨g, j, none⟩ = some u := by
  have := h.cells (g := g) rfl j u hu
  rw [Addr.add_lit] at this
  simpa using this

/-- places, as they lie in memory -/
def flat2 : List (Int × Int) → List Value
  | [] => []
  | x :: l => .int .i64 x.1 :: .int .i64 x.2 :: flat2 l
theorem flat2_append (l m : List (Int × Int)) : flat2 (l ++ m) = flat2 l ++ flat2 m := by
  induction l with
  | nil => rfl
  | cons x l ih => simp [flat2, ih]
theorem flat2_length (l : List (Int × Int)) : (flat2 l).length = l.length * 2 := by
  induction l with
  | nil => rfl
  | cons x l ih => simp [flat2, ih]; omega
theorem flat2_at (l : List (Int × Int)) : ∀ j (h : j < l.length), (flat2 l)[j * 2]? = some (.int .i64 l[j].1) ∧ (flat2 l)[j * 2 + 1]? = some (.int .i64 l[j].2) := by
  induction l with
  | nil => intro j h; simp at h
  | cons x l ih =>
    intro j h
    cases j with
    | zero => exact ⟨rfl, rfl⟩
    | succ j =>
      have := ih j (by simpa using h)
      rw [show (j + 1) * 2 = j * 2 + 2 by omega, show j * 2 + 2 + 1 = j * 2 + 1 + 2 by omega]
      simpa [flat2] using this
theorem flat2_set (l : List (Int × Int)) : ∀ j (h : j < l.length) (z : Int), (flat2 l).set (j * 2) (.int .i64 z) = flat2 (l.set j (z, l[j].2)) := by
  induction l with
  | nil => intro j h; simp at h
  | cons x l ih =>
    intro j h z
    cases j with
    | zero => rfl
    | succ j =>
      have := ih j (by simpa using h) z
      rw [show (j + 1) * 2 = j * 2 + 2 by omega]
      simpa [flat2] using this

/-- the texts that lie at the places -/
def Gz (pl : List (Int × Int)) (tl : List (List Int)) (_l : List Bk) (c : Ch) : Prop :=
  pl.length = tl.length ∧ ∀ i (h1 : i < pl.length) (h2 : i < tl.length), 0 ≤ pl[i].1 → pl[i].1 < c.nb ∧ 0 ≤ pl[i].2 ∧ pl[i].2 < c.np ∧ c.pg pl[i].1.toNat pl[i].2.toNat = some tl[i]
theorem Gz.kd {pl : List (Int × Int)} {tl : List (List Int)} {l l' : List Bk} {c c' : Ch} {P : Nat → Prop} (h : Gz pl tl l c) (hk : Kd c c' P) (hP : ∀ i (h1 : i < pl.length), 0 ≤ pl[i].1 → ¬ P pl[i].1.toNat) : Gz pl tl l' c' := by
  refine ⟨h.1, fun i h1 h2 h0 => ?_⟩
  obtain ⟨g1, g2, g3, g4⟩ := h.2 i h1 h2 h0
  exact ⟨by rw [hk.1]; exact g1, g2, by rw [hk.2.1]; exact g3, hk.2.2.2 _ _ _ (hP i h1 h0) g4⟩
theorem eraT_kd2 (k : Int) (l : List Bk) (c : Ch) : Kd c (eraT k l c).2.2 (fun j => (j : Int) = k) := by
  by_cases hk : 0 ≤ k
  · exact (eraT_kd k l c).mono (fun j hj => by rw [hj]; omega)
  · unfold eraT
    have : ndE c.up l k ≠ 0 := by
      unfold ndE
      split
      · rw [if_pos (.inl (by omega))]; decide
      · decide
    rw [if_neg this]
    exact Kd.refl _ _
theorem Gz.zc {pl : List (Int × Int)} {tl : List (List Int)} {y : Bo} (h : y.kind = 3 → ∀ i (h1 : i < pl.length), 0 ≤ pl[i].1 → pl[i].1 ≠ y.block) : Zc (Gz pl tl) y :=
  ⟨fun _ _ _ _ hz => hz, fun hk l c _ hz => hz.kd (eraT_kd2 _ _ _) (fun i h1 h0 e => h hk i h1 h0 (by omega)), fun _ l c _ hz => hz.kd (retT_kd _ _ _ (fun _ => False)) (fun _ _ _ e => e), fun _ _ _ hz => hz⟩
theorem Gz.prog {pl : List (Int × Int)} {tl : List (List Int)} {l : List Bk} {c : Ch} (h : Gz pl tl l c) (b : List Int) : Gz pl tl (prgT b l c).2.1 (prgT b l c).2.2 := h.kd (prgT_kd b l c (fun _ => False)) (fun _ _ _ e => e)
theorem Gz.push {pl : List (Int × Int)} {tl : List (List Int)} {l : List Bk} {c : Ch} (h : Gz pl tl l c) (b : List Int) (he : (prgT b l c).1.2.2 = 0) : Gz (pl ++ [((prgT b l c).1.1, (prgT b l c).1.2.1)]) (tl ++ [b]) (prgT b l c).2.1 (prgT b l c).2.2 := by
  have h1 := h.prog b
  obtain ⟨⟨p1, p2⟩, ⟨p3, p4⟩, p5⟩ := prgT_put he
  have hd := prgT_kd b l c (fun _ => False)
  refine ⟨by simp [h.1], fun i hi1 hi2 h0 => ?_⟩
  by_cases hi : i < pl.length
  · have hi3 : i < tl.length := by rw [← h.1]; exact hi
    have e1 : (pl ++ [((prgT b l c).1.1, (prgT b l c).1.2.1)])[i] = pl[i] := List.getElem_append_left hi
    have e2 : (tl ++ [b])[i] = tl[i] := List.getElem_append_left hi3
    rw [e1] at h0 ⊢
    rw [e2]
    exact h1.2 i hi hi3 h0
  · have e : i = pl.length := by simp at hi1; omega
    subst e
    have e1 : (pl ++ [((prgT b l c).1.1, (prgT b l c).1.2.1)])[pl.length] = ((prgT b l c).1.1, (prgT b l c).1.2.1) := by simp
    have e2 : (tl ++ [b])[pl.length] = b := by simp [h.1]
    rw [e1, e2]
    exact ⟨by rw [hd.1]; exact p2, p3, by rw [hd.2.1]; exact p4, p5⟩
/-- what a place becomes when a block is erased -/
def mnF (k : Int) (x : Int × Int) : Int × Int := if x.1 = k then (-1, x.2) else x
theorem Gz.marks {pl : List (Int × Int)} {tl : List (List Int)} {l : List Bk} {c : Ch} (h : Gz pl tl l c) (k : Int) : Gz (pl.map (mnF k)) tl l c := by
  refine ⟨by rw [List.length_map]; exact h.1, fun i h1 h2 h0 => ?_⟩
  rw [List.length_map] at h1
  rw [List.getElem_map] at h0 ⊢
  unfold mnF at h0 ⊢
  by_cases e : pl[i].1 = k
  · rw [if_pos e] at h0; have h9 : (0 : Int) ≤ -1 := h0; omega
  · rw [if_neg e] at h0 ⊢; exact h.2 i h1 h2 h0
theorem mnF_ne {pl : List (Int × Int)} {k : Int} (i : Nat) (h1 : i < (pl.map (mnF k)).length) (h0 : 0 ≤ (pl.map (mnF k))[i].1) : (pl.map (mnF k))[i].1 ≠ k := by
  rw [List.getElem_map] at h0 ⊢
  unfold mnF at h0 ⊢
  split
  · rename_i e; rw [if_pos e] at h0; have h9 : (0 : Int) ≤ -1 := h0; omega
  · rename_i e; exact e

/-- texts as values -/
def Tx (w : World) (vs : List Value) (tl : List (List Int)) : Prop := vs.length = tl.length ∧ ∀ i (h : i < tl.length), ∃ A c, vs[i]? = some (.slice A tl[i].length c) ∧ Rw w A tl[i]
theorem Tx.nil {w : World} : Tx w [] [] := ⟨rfl, fun i h => by simp at h⟩
theorem Tx.push {w : World} {vs : List Value} {tl : List (List Int)} (h : Tx w vs tl) {A : Option Addr} {b : List Int} {c : Nat} (hr : Rw w A b) : Tx w (vs ++ [.slice A b.length c]) (tl ++ [b]) := by
  refine ⟨by simp [h.1], fun i hi => ?_⟩
  by_cases h1 : i < tl.length
  · obtain ⟨A', c', h2, h3⟩ := h.2 i h1
    rw [List.getElem_append_left h1, List.getElem?_append_left (by rw [h.1]; exact h1)]
    exact ⟨A', c', h2, h3⟩
  · have e : i = tl.length := by simp at hi; omega
    subst e
    have e2 : (tl ++ [b])[tl.length] = b := by simp
    rw [e2]
    exact ⟨A, c, by rw [List.getElem?_append_right (by rw [h.1]; exact Nat.le_refl _), h.1]; simp, hr⟩
end Go.Proofs.Ytnnpdlebgfjihaa

/-
  What stands in memory while places and texts are gathered. Nothing of one statement alone stands here.
-/
namespace Go.Proofs.Ytnnpdlebgfjihaa
open Go.RowKit Crcm Gcm Go.ChangeShapes

theorem own_apartS {w : World} {base base2 k k2 sz sz2 : Nat} {e t : TypeId} {v v2 : Value} {xs xs2 : List Value} (h : w.ownsRow base e sz v k xs) (h2 : w.ownsRow base2 t sz2 v2 k2 xs2) (hne : e ≠ t) : v.ownBlock = none ∨ v.ownBlock ≠ v2.ownBlock := by
  rcases h.2 with ⟨h0, _⟩ | ⟨g, cap, cur, h0, _, hg, _⟩
  · left; rw [h0]; rfl
  · right
    rcases h2.2 with ⟨k0, _⟩ | ⟨g', cap', cur', k0, _, hg', _⟩
    · rw [h0, k0]; intro e; cases e
    · rw [h0, k0]
      intro e
      injection e with e
      have e2 : g = g' := e
      subst e2
      rw [hg] at hg'
      injection hg' with h5
      injection h5 with _ h6 _
      exact hne h6

theorem obI_len (f : Nat → Int) (l : List Bk) : (obI f l).2.length = l.length := by
  unfold obI
  split
  · rfl
  · split
    · rfl
    · simp
theorem prgF_len (b : List Int) : ∀ (j : Nat) (l : List Bk) (c : Ch), (prgF b j l c).2.1.length = l.length := by
  intro j
  induction j with
  | zero => intro l c; rfl
  | succ j ih =>
    intro l c
    rw [prgF]
    split
    · exact obI_len _ _
    · split
      · simp [obI_len]
      · split
        · simp [obI_len]
        · split
          · rw [ih]; simp [obI_len]
          · exact obI_len _ _
theorem prgT_len (b : List Int) (l : List Bk) (c : Ch) : (prgT b l c).2.1.length = l.length := by
  unfold prgT
  split
  · split
    · exact prgF_len _ _ _ _
    · rfl
  · rfl
structure LsX (w0 : World) (M : Nat) (m0 : Mg) (o : Own) (nb : Nat) (r : Rb) (q : Rq) (B : Nat) (X : Nat → Prop) (l : List Bk) (c : Ch) (n1 n2 : Nat) (pl : List (Int × Int)) (vs : List Value) (v1 v2 : Value) (w : World) : Prop where
  pr : Pr w X M { m0 with l := l } o c r q
  cn : c.nb = nb
  xlo : ∀ b, X b → w0.heap.size ≤ b
  h1 : ∀ g, v1.ownBlock = some g → X g
  h2 : ∀ g, v2.ownBlock = some g → X g
  o1 : w.ownsRow B 45 2 v1 n1 (flat2 pl)
  o2 : w.ownsRow B 39 1 v2 n2 vs
  bel : Below w0.heap.size w0 w
  fb : ∀ b, Qm o nb m0.g r q b ∨ b = M → b < B
  lo : w0.heap.size ≤ B ∧ B ≤ w.heap.size

section
variable {w0 : World} {M : Nat} {m0 : Mg} {o : Own} {nb : Nat} {r : Rb} {q : Rq} {B : Nat} {X : Nat → Prop} {l : List Bk} {c : Ch} {n1 n2 : Nat} {pl : List (Int × Int)} {vs : List Value} {v1 v2 : Value} {w : World}
theorem LsX.below {w' : World} (h : LsX w0 M m0 o nb r q B X l c n1 n2 pl vs v1 v2 w) (hb : Below w.heap.size w w') : LsX w0 M m0 o nb r q B X l c n1 n2 pl vs v1 v2 w' :=
  ⟨h.pr.below hb, h.cn, h.xlo, h.h1, h.h2, own_below h.o1 hb, own_below h.o2 hb, h.bel.trans (hb.mono h.bel.size), h.fb, h.lo.1, Nat.le_trans h.lo.2 hb.size⟩
theorem LsX.call {w' : World} {l' : List Bk} {c' : Ch} (h : LsX w0 M m0 o nb r q B X l c n1 n2 pl vs v1 v2 w) (hp : Pr w' X M { m0 with l := l' } o c' r q) (hn : c'.nb = nb) (hk : Kp (Qm o nb m0.g r q) w w') : LsX w0 M m0 o nb r q B X l' c' n1 n2 pl vs v1 v2 w' :=
  ⟨hp, hn, h.xlo, h.h1, h.h2, own_kp h.o1 hk (fun b hb => h.fb b (.inl hb)), own_kp h.o2 hk (fun b hb => h.fb b (.inl hb)), h.bel.trans (hk.below (fun b hb => by
    rcases hb with hb | hb
    · exact h.xlo b (h.pr.fmX b (by show Fm o c.nb m0.g b; rw [h.cn]; exact hb))
    · exact h.xlo b (h.pr.rfX b hb)) h.bel.size), h.fb, h.lo.1, Nat.le_trans h.lo.2 hk.size⟩
theorem LsX.push1 {w' : World} {x : Int × Int} {v' : Value} (h : LsX w0 M m0 o nb r q B X l c n1 n2 pl vs v1 v2 w) (o' : Obj) (hown : w'.ownsRow B 45 2 v' (n1 + 1) (flat2 (pl ++ [x]))) (hg : (w.alloc o').grownBy w' v1.ownBlock) (hob : v'.ownBlock = v1.ownBlock ∨ v'.ownBlock = some (w.alloc o').heap.size) :
    ∃ X', LsX w0 M m0 o nb r q B X' l c (n1 + 1) n2 (pl ++ [x]) vs v' v2 w' := by
  have ht : (45 : Nat) ≠ 39 := by decide
  obtain ⟨X', p1, p2, p3, p4⟩ := h.pr.grow o' hg (fun g e => ⟨h.h1 g e, fun hf => by have := (h.o1.lt g e).1; have := h.fb g (.inl (.inl (by rw [← h.cn]; exact hf))); omega, fun hf => by have := (h.o1.lt g e).1; have := h.fb g (.inl (.inr hf)); omega, fun hf => by have := (h.o1.lt g e).1; have := h.fb g (.inr hf); omega⟩) hob (fun g e => (hown.lt g e).2)
  have hs : w.heap.size ≤ (w.alloc o').heap.size := by simp
  exact ⟨X', p1, h.cn, fun b hb => (p3 b hb).elim (h.xlo b) (fun hb => Nat.le_trans h.bel.size hb), p4, fun g e => p2 _ (h.h2 g e), hown, (h.o2.alloc o').kept hg (own_apartS (h.o2.alloc o') (h.o1.alloc o') (fun e => ht e.symm)), (h.bel.alloc h.bel.size o').grown hg (Nat.le_trans h.bel.size hs) (fun g e => h.xlo g (h.h1 g e)), h.fb, h.lo.1, Nat.le_trans h.lo.2 (Nat.le_trans hs hg.size)⟩
theorem LsX.push2 {w' : World} {x : Value} {v' : Value} (h : LsX w0 M m0 o nb r q B X l c n1 n2 pl vs v1 v2 w) (o' : Obj) (hown : w'.ownsRow B 39 1 v' (n2 + 1) (vs ++ [x])) (hg : (w.alloc o').grownBy w' v2.ownBlock) (hob : v'.ownBlock = v2.ownBlock ∨ v'.ownBlock = some (w.alloc o').heap.size) :
    ∃ X', LsX w0 M m0 o nb r q B X' l c n1 (n2 + 1) pl (vs ++ [x]) v1 v' w' := by
  have ht : (45 : Nat) ≠ 39 := by decide
  obtain ⟨X', p1, p2, p3, p4⟩ := h.pr.grow o' hg (fun g e => ⟨h.h2 g e, fun hf => by have := (h.o2.lt g e).1; have := h.fb g (.inl (.inl (by rw [← h.cn]; exact hf))); omega, fun hf => by have := (h.o2.lt g e).1; have := h.fb g (.inl (.inr hf)); omega, fun hf => by have := (h.o2.lt g e).1; have := h.fb g (.inr hf); omega⟩) hob (fun g e => (hown.lt g e).2)
  have hs : w.heap.size ≤ (w.alloc o').heap.size := by simp
  exact ⟨X', p1, h.cn, fun b hb => (p3 b hb).elim (h.xlo b) (fun hb => Nat.le_trans h.bel.size hb), fun g e => p2 _ (h.h1 g e), p4, (h.o1.alloc o').kept hg (own_apartS (h.o1.alloc o') (h.o2.alloc o') ht), hown, (h.bel.alloc h.bel.size o').grown hg (Nat.le_trans h.bel.size hs) (fun g e => h.xlo g (h.h2 g e)), h.fb, h.lo.1, Nat.le_trans h.lo.2 (Nat.le_trans hs hg.size)⟩
/-- a place marked -/
theorem LsX.mark {g cap : Nat} (h : LsX w0 M m0 o nb r q B X l c n1 n2 pl vs (.slice (some ⟨g, 0, none⟩) n1 cap) v2 w) (j : Nat) (hj : j < pl.length) (z : Int) :
    LsX w0 M m0 o nb r q B X l c n1 n2 (pl.set j (z, pl[j].2)) vs (.slice (some ⟨g, 0, none⟩) n1 cap) v2 (w.setCell ⟨g, j * 2, none⟩ (.int .i64 z)) := by
  have ht : (45 : Nat) ≠ 39 := by decide
  have hb := (h.o1.lt g rfl).1
  have hK := Kp.one w ⟨g, j * 2, none⟩ (.int .i64 z)
  refine ⟨h.pr.kp hK (fun b e => by rw [e]; exact h.h1 g rfl) (fun b e => ?_), h.cn, h.xlo, h.h1, h.h2, ?_, ?_, h.bel.setCell (p := ⟨g, j * 2, none⟩) (h.xlo g (h.h1 g rfl)) _, h.fb, h.lo.1, Nat.le_trans h.lo.2 hK.size⟩
  · have e2 : b = g := e
    subst e2
    exact ⟨fun hf => by have := h.fb b (.inl (.inl (by rw [← h.cn]; exact hf))); omega, fun hf => by have := h.fb b (.inl (.inr hf)); omega, fun hf => by have := h.fb b (.inr hf); omega⟩
  · rw [← flat2_set pl j hj z]
    exact own_set h.o1 (j * 2) _
  · refine h.o2.kept (grown_set _ _ _) ?_
    exact own_apartS h.o2 h.o1 (fun e => ht e.symm)
end
/-- places, those behind j not yet marked -/
def mkj (k : Int) (pl : List (Int × Int)) (j : Nat) : List (Int × Int) := (pl.take j).map (mnF k) ++ pl.drop j
theorem mkj_len (k : Int) (pl : List (Int × Int)) (j : Nat) : (mkj k pl j).length = pl.length := by
  simp [mkj]; omega
theorem mkj_at (k : Int) (pl : List (Int × Int)) (j : Nat) (h : j < pl.length) (h2 : j < (mkj k pl j).length) : (mkj k pl j)[j] = pl[j] := by
  apply Option.some.inj
  rw [← List.getElem?_eq_getElem h2, ← List.getElem?_eq_getElem h]
  unfold mkj
  rw [List.getElem?_append_right (by simp; omega)]
  simp [Nat.min_eq_left (Nat.le_of_lt h)]
theorem mkj_succ (k : Int) (pl : List (Int × Int)) (j : Nat) (h : j < pl.length) : mkj k pl (j + 1) = (pl.take j).map (mnF k) ++ mnF k pl[j] :: pl.drop (j + 1) := by
  unfold mkj
  rw [List.take_succ_eq_append_getElem h, List.map_append, List.append_assoc]
  rfl
theorem mkj_split (k : Int) (pl : List (Int × Int)) (j : Nat) (h : j < pl.length) : mkj k pl j = (pl.take j).map (mnF k) ++ pl[j] :: pl.drop (j + 1) := by
  unfold mkj
  rw [List.drop_eq_getElem_cons h]
theorem mkj_yes (k : Int) (pl : List (Int × Int)) (j : Nat) (h : j < pl.length) (e : pl[j].1 = k) : (mkj k pl j).set j (-1, pl[j].2) = mkj k pl (j + 1) := by
  rw [mkj_succ k pl j h, mkj_split k pl j h, List.set_append_right _ _ (by simp; omega)]
  have : j - ((pl.take j).map (mnF k)).length = 0 := by simp; omega
  rw [this]
  unfold mnF
  rw [if_pos e]
  rfl
theorem mkj_no (k : Int) (pl : List (Int × Int)) (j : Nat) (h : j < pl.length) (e : pl[j].1 ≠ k) : mkj k pl j = mkj k pl (j + 1) := by
  rw [mkj_succ k pl j h, mkj_split k pl j h]
  unfold mnF
  rw [if_neg e]
theorem mkj_all (k : Int) (pl : List (Int × Int)) : mkj k pl pl.length = pl.map (mnF k) := by simp [mkj]
theorem mkj_zero (k : Int) (pl : List (Int × Int)) : mkj k pl 0 = pl := by simp [mkj]
/-- what stands while places and texts are gathered -/
def LsH (w0 : World) (M : Nat) (m0 : Mg) (o : Own) (nb : Nat) (r : Rb) (q : Rq) (B n : Nat) (v1 v2 : Value) (w : World) : Prop :=
  ∃ X l c pl tl vs, LsX w0 M m0 o nb r q B X l c n n pl vs v1 v2 w ∧ Gz pl tl l c ∧ Tx w0 vs tl ∧ pl.length = n
end Go.Proofs.Ytnnpdlebgfjihaa
