/-
  Bytes squeezed: the program's Squeeze. Nothing of one statement alone stands here.
-/
import Derived.Test.YtaohkakefdhecaaSqCopies
import Derived.Test.YtaohkakefdhecaaSqRuns
import Derived.Stop.RegionWithIn
import Derived.Sort.CutIn
namespace Sqm
/-- a stretch, and a copy's three bytes -/
def seg (l : List Int) (i j : Nat) : List Int := (l.drop i).take (j - i)
def cpb (l : List Int) (i : Nat) : List Int := [((cpn l i + 125 : Nat) : Int), ((cpd l i % 256 : Nat) : Int), ((cpd l i / 256 : Nat) : Int)]
/-- what is squeezed behind so many copies -/
def sqz (l : List Int) : Nat → List Int
  | 0 => []
  | k + 1 => sqz l k ++ runs (seg l (bh l k) ((cps l).getD k 0)) ++ cpb l ((cps l).getD k 0)
/-- all of it -/
def sqA (l : List Int) : List Int := sqz l (cps l).length ++ runs (l.drop (bh l (cps l).length))
theorem nbk_le (L : Nat) : nbk L 128 ≤ L := by
  unfold nbk
  rw [Nat.div_le_iff_le_mul_add_pred (by omega)]
  omega
theorem sqz_len {l : List Int} : ∀ k, k ≤ (cps l).length → (sqz l k).length ≤ 2 * bh l k
  | 0, _ => by simp [sqz]
  | k + 1, h => by
    have ih := sqz_len (l := l) k (by omega)
    obtain ⟨h1, h2, h3⟩ := cps_spec (l := l) (k := k) (by omega)
    have h4 := (cpn_spec h3).1
    have h5 := nbk_le (seg l (bh l k) ((cps l).getD k 0)).length
    have h6 : (seg l (bh l k) ((cps l).getD k 0)).length ≤ (cps l).getD k 0 - bh l k := by unfold seg; rw [List.length_take]; omega
    rw [sqz, List.length_append, List.length_append, runs_len, bh]
    have : (cpb l ((cps l).getD k 0)).length = 3 := rfl
    omega
end Sqm
namespace Go.Proofs.Ytaohkakefdhecaa
open Go.RowKit Go.Shelf Crcm Sqm Tagm Inom Roomm Go.ChangeShapes

attribute [local go_sem] Oper.semAt_some

/-- what the iterator's maker gives -/
theorem copiesOf_in (n : Nat) (a : Option Addr) (m c : Nat) (w : World) :
    CallsIn Fence.wide n Try.prog 18 #[.slice a m c] w fun e w' => e = .returned (.func (.func 28) #[] #[.pointer (some ⟨w.heap.size, 0, none⟩)]) ∧ w' = w.alloc (.cells #[.slice a m c] 22) := by
  refine callsIn_of_wp Try.func18 rfl trivial ?_ rfl
  simp only [Try.ntmps18, List.size_toArray, List.length_cons, List.length_nil, Nat.reduceAdd, Nat.reduceSub, Array.replicate_succ, Array.replicate_zero, List.push_toArray, List.append_toArray, List.nil_append, List.cons_append]
  gi_wp2
  go_ret
  exact ⟨rfl, rfl⟩
theorem own_base {w : World} {B B' k : Nat} {v : Value} {xs : List Value} {e : TypeId} (h : w.ownsRow B e 1 v k xs) (hB : B' ≤ B) : w.ownsRow B' e 1 v k xs := by
  obtain ⟨h1, h2⟩ := h
  refine ⟨h1, ?_⟩
  rcases h2 with h2 | ⟨g, cap, cur, e, hg, r⟩
  · exact .inl h2
  · exact .inr ⟨g, cap, cur, e, Nat.le_trans hB hg, r⟩

/-- what lies in memory while the copies are put -/
structure SSt (S : Nat) (w : World) (l : List Int) (a : Option Addr) (m c k : Nat) (W : World) : Prop where
  own : ∃ A cp n, Blk W (S + 1) 22 #[.slice A n cp] ∧ W.ownsRow (S + 7) 5 1 (.slice A n cp) n ((sqz l k).map (Value.int .u8))
  b0 : Blk W S 22 #[.slice a m c]
  b2 : Blk W (S + 2) 3 #[.int .i64 (bh l k : Int)]
  b3 : Blk W (S + 3) 22 #[.slice a m c]
  bel : Below S w W
theorem SSt.on {S : Nat} {w : World} {l : List Int} {a : Option Addr} {m c : Nat} (hS : w.heap.size = S) : OnOwn (S + 4) (Tc (S + 6)) (SSt S w l a m c) := fun s A C row ⟨⟨a, cp, n, h2, h3⟩, q0, q1, q2, h4⟩ hg hr => by
  have nt : ∀ g, g < S + 6 → ∀ A, ¬ Tc (S + 6) A g := fun g hg A h => by rcases h with h | ⟨h, _⟩ <;> omega
  refine ⟨⟨a, cp, n, onOwn_blk (β := Unit) (T := Tc (S + 6)) (S + 1) _ (fun _ => _) (fun _ A _ => nt _ (by omega) A) () A C row h2 hg hr, onOwn_row (β := Unit) (T := Tc (S + 6)) (fun _ => _) (fun _ => _) (fun _ => _) (fun _ A r ho e h => ?_) () A C row h3 hg hr⟩,
    onOwn_blk (β := Unit) (T := Tc (S + 6)) S _ (fun _ => _) (fun _ A _ => nt _ (by omega) A) () A C row q0 hg hr, onOwn_blk (β := Unit) (T := Tc (S + 6)) (S + 2) _ (fun _ => _) (fun _ A _ => nt _ (by omega) A) () A C row q1 hg hr,
    onOwn_blk (β := Unit) (T := Tc (S + 6)) (S + 3) _ (fun _ => _) (fun _ A _ => nt _ (by omega) A) () A C row q2 hg hr, onOwn_below (β := Unit) (T := Tc (S + 6)) (Nat.le_of_eq hS.symm) (by omega) (fun _ r h => by rcases h with h | ⟨h, _⟩ <;> omega) () A C row h4 hg hr⟩
  have h1 := (ho.lt r e).1
  rcases h with h | ⟨_, cs, fr, h⟩
  · omega
  · rcases ho.2 with ⟨h0, _⟩ | ⟨g', cap, cur, h0, _, hgg, _⟩
    · rw [h0] at e; simp [Value.ownBlock] at e
    · rw [h0] at e
      simp [Value.ownBlock] at e
      subst e
      rw [hgg] at h
      injection h with h
      injection h with _ h2
      exact ty_ne h2.symm

theorem Kc.refl (Bn b q : Nat) (W : World) : Kc Bn b q W W := ⟨fun _ _ _ h _ => h, rfl, rfl, Nat.le_refl _⟩
theorem Kc.set {Bn b q : Nat} {W X : World} (h : Kc Bn b q W X) {p : Addr} (h1 : p.block < q) (h2 : Bn ≠ p.block) (h3 : b ≠ p.block) (v : Value) : Kc Bn b q W (X.setCell p v) :=
  ⟨fun r o hq ho hn => (Below.heap_setCell _ _ _ _ (by omega)).trans (h.1 r o hq ho hn), (Below.heap_setCell _ _ _ _ h2).trans h.2.1, (Below.heap_setCell _ _ _ _ h3).trans h.2.2.1, by simpa [World.setCell] using h.2.2.2⟩
theorem Kc.kn {Bn b q B : Nat} {W X Y : World} (h : Kc Bn b q W X) (k : Kn X Y) (hb : Below B X Y) (h1 : Bn < B) (h2 : b < B) : Kc Bn b q W Y :=
  ⟨fun r o hq ho hn => k.1 r o (h.1 r o hq ho hn) hn, (hb.block _ h1).trans h.2.1, (hb.block _ h2).trans h.2.2.1, Nat.le_trans h.2.2.2 k.2⟩

/-- nothing panics here -/
def NoPanic (Q : Exit → Act → World → Prop) : Exit → Act → World → Prop
  | .panic _, _, _ => False
  | e, a, w => Q e a w
theorem wpIn_nopanic {F : Fence} {rm : Nat} {P : Program} {s : Code} {K : Act → World → Prop} {Q : Exit → Act → World → Prop} {a : Act} {w : World} (h : s.wpIn F rm P (Exit.then K (NoPanic Q)) a w) : s.wpIn F rm P (Exit.then K Q) a w := by
  refine wpIn_mono h ?_
  intro e a' w' hq
  cases e with
  | normal => exact hq
  | exit id => exact hq
  | goto l => exact hq
  | ret => exact hq
  | panic ch => exact hq.elim
  | outgrown => exact hq
/-- amid one round -/
structure Mid (S b p : Nat) (a : Option Addr) (m c bb : Nat) (it : Array Value) (xs : List Int) (W X : World) : Prop where
  own : ∃ A n cp, Blk X (S + 1) 22 #[.slice A n cp] ∧ X.ownsRow (S + 7) 5 1 (.slice A n cp) n (xs.map (Value.int .u8))
  b0 : Blk X S 22 #[.slice a m c]
  b2 : Blk X (S + 2) 3 #[.int .i64 (bb : Int)]
  b3 : Blk X (S + 3) 22 #[.slice a m c]
  bi : Blk X p 43 it
  bel : Below S W X
  kc : Kc (S + 3) b (S + 6) W X
  ko : KeepsOthers W X
theorem Mid.call {S b p m c bb A1n n1 c1 : Nat} {a A1 : Option Addr} {it : Array Value} {xs ys : List Int} {W X w2 : World} (h : Mid S b p a m c bb it xs W X) (hb : Below (S + 7) X w2) (hk : Kn X w2)
    (ho : w2.ownsRow (S + 7) 5 1 (.slice A1 n1 c1) n1 (ys.map (Value.int .u8))) (hbS : b < S + 1) (hp : S + 7 ≤ p) (_ : A1n = 0) :
    Mid S b p a m c bb it ys W (w2.setCell ⟨S + 1, 0, none⟩ (.slice A1 n1 c1)) := by
  obtain ⟨A, n, cp, z, -⟩ := h.own
  have z1 := z.below hb (by omega)
  refine ⟨⟨A1, n1, c1, z1.put 0 _, ho.kept (grownBy_setCell' w2 (S + 1) _) (.inr (own_blk_ne ho z1 (by decide)))⟩, (h.b0.below hb (by omega)).far (by show S ≠ S + 1; omega) _, (h.b2.below hb (by omega)).far (by show S + 2 ≠ S + 1; omega) _,
    (h.b3.below hb (by omega)).far (by show S + 3 ≠ S + 1; omega) _, ?_, (h.bel.trans (hb.mono (by omega))).setCell (p := ⟨S + 1, 0, none⟩) (by show S ≤ S + 1; omega) _,
    (h.kc.kn hk hb (by omega) (by omega)).set (by show S + 1 < S + 6; omega) (by show S + 3 ≠ S + 1; omega) (by show b ≠ S + 1; omega) _, (h.ko.trans hk.others).trans (KeepsOthers.setCell _ _ _)⟩
  exact Blk.far (show Blk w2 p 43 it from hk.1 p _ h.bi (fun cs fr e => by injection e with _ e2; exact absurd e2 (by decide))) (by show p ≠ S + 1; omega) _
theorem Mid.last {S b p m c bb k : Nat} {a : Option Addr} {it : Array Value} {l : List Int} {w W X : World} {v : Int} (h : Mid S b p a m c bb it (sqz l (k + 1)) W X) (hbel : Below S w W) (hbS : b < S + 1) (hv : v = (bh l (k + 1) : Int)) :
    KeepsFrom (S + 4) W (X.setCell ⟨S + 2, 0, none⟩ (.int .i64 v)) ∧ Kc (S + 3) b (S + 6) W (X.setCell ⟨S + 2, 0, none⟩ (.int .i64 v)) ∧ SSt S w l a m c (k + 1) (X.setCell ⟨S + 2, 0, none⟩ (.int .i64 v)) := by
  subst hv
  obtain ⟨A, n, cp, z, ho⟩ := h.own
  exact ⟨(h.ko.trans (KeepsOthers.setCell _ _ _)).from _, h.kc.set (by show S + 2 < S + 6; omega) (by show S + 3 ≠ S + 2; omega) (by show b ≠ S + 2; omega) _,
    ⟨⟨A, cp, n, z.far (by show S + 1 ≠ S + 2; omega) _, ho.kept (grownBy_setCell' X (S + 2) _) (.inr (own_blk_ne ho h.b2 (by decide)))⟩, h.b0.far (by show S ≠ S + 2; omega) _, h.b2.put 0 _, h.b3.far (by show S + 3 ≠ S + 2; omega) _,
      (hbel.trans h.bel).setCell (p := ⟨S + 2, 0, none⟩) (by show S ≤ S + 2; omega) _⟩⟩

set_option maxRecDepth 100000 in
set_option maxHeartbeats 4000000 in
theorem squeeze_yes (a : Option Addr) (m c : Nat) (l : List Int) (w : World) (hr : Rw w a l) (hl : l.length = m) (hmc : m ≤ c) (hm : m ≤ 65536) :
    Calls Try.prog 10 #[.slice a m c] w fun e w' => (∃ A n cap, e = .returned (.tuple #[.slice A n cap, .int .i64 0]) ∧ w'.ownsRow w.heap.size 5 1 (.slice A n cap) n ((sqA l).map (Value.int .u8))) ∧ Below w.heap.size w w' := by
  have HO := Lib.hid (fun w => (callsIn_wide (n := 5)).1 (copiesOf_in 5 a m c w))
  have hdec : decide ((65536 : Int) < (m : Int)) = false := by simp; omega
  have HM := Lib.hid hm
  have HL := Lib.hid hl
  have HR := Lib.hid hr
  have HMC := Lib.hid hmc
  clear hm hl hr hmc
  refine (callsIn_wide (n := 5)).1 ?_
  refine callsIn_of_wp_marks Try.func10 rfl trivial ?_ rfl
  simp only [Try.ntmps10, List.size_toArray, List.length_cons, List.length_nil, Nat.reduceAdd, Nat.reduceSub, Array.replicate_succ, Array.replicate_zero, List.push_toArray, List.append_toArray, List.nil_append, List.cons_append]
  refine wpIn_wide.2 ?_
  go_wp2_with fail
  refine (HO.out _).mono ?_
  rintro e w' ⟨rfl, rfl⟩
  go_wp2_with fail
  obtain ⟨S, hS⟩ : ∃ S, w.heap.size = S := ⟨_, rfl⟩
  obtain ⟨W4, hW4⟩ : ∃ W4, (((w.alloc (.cells #[.slice a m c] 22)).alloc (.cells #[.slice none 0 0] 22)).alloc (.cells #[.int .i64 0] 3)).alloc (.cells #[.slice a m c] 22) = W4 := ⟨_, rfl⟩
  have hz4 : W4.heap.size = S + 4 := by rw [← hW4]; simp; omega
  have hB4 : Below w.heap.size w W4 := by rw [← hW4]; exact ((((Below.refl _ w).alloc (Nat.le_refl _) _).alloc (by simp) _).alloc (by simp; omega) _).alloc (by simp; omega) _
  have b0 : Blk W4 S 22 #[.slice a m c] := by rw [← hW4, ← hS]; exact (((Blk.new _ _ _).alloc _).alloc _).alloc _
  have b1 : Blk W4 (S + 1) 22 #[.slice none 0 0] := by
    have := ((Blk.new (w.alloc (.cells #[.slice a m c] 22)) 22 #[.slice none 0 0]).alloc (.cells #[.int .i64 0] 3)).alloc (.cells #[.slice a m c] 22)
    rw [World.size_alloc, hS, hW4] at this; exact this
  have b2 : Blk W4 (S + 2) 3 #[.int .i64 0] := by
    have := (Blk.new ((w.alloc (.cells #[.slice a m c] 22)).alloc (.cells #[.slice none 0 0] 22)) 3 #[.int .i64 0]).alloc (.cells #[.slice a m c] 22)
    rw [World.size_alloc, World.size_alloc, hS, hW4] at this; exact this
  have b3 : Blk W4 (S + 3) 22 #[.slice a m c] := by
    have := Blk.new (((w.alloc (.cells #[.slice a m c] 22)).alloc (.cells #[.slice none 0 0] 22)).alloc (.cells #[.int .i64 0] 3)) 22 #[.slice a m c]
    rw [World.size_alloc, World.size_alloc, World.size_alloc, hS, hW4] at this; exact this
  have r4 := HR.out.below hB4
  obtain ⟨b, off, hab, hbl, hbS⟩ : ∃ b off, (l = [] ∨ a = some ⟨b, off, none⟩) ∧ b < W4.heap.size ∧ b < S + 1 := by
    by_cases e : l = []
    · exact ⟨S, 0, .inl e, by omega, by omega⟩
    · rcases HR.out.2.2 with h | ⟨b, off, rfl, hcl⟩
      · exact absurd h e
      · have hlt : b < w.heap.size := block_lt_of_cell (hcl 0 (List.length_pos_iff.2 e))
        exact ⟨b, off, .inr rfl, by omega, by omega⟩
  rw [hS, hW4]
  have HSeq := Lib.hid (copies_in 4 (by omega) (S + 3) b off m c a l HL.out HMC.out HM.out hab W4 b3 r4 hbl)
  have HRl := Lib.hid (fun (W : World) (h : Below S w W) => HR.out.below (by rw [hS]; exact h))
  have HSz := Lib.hid hS
  have HB4 : Hid (Below S w W4) := Lib.hid (hS ▸ hB4)
  have HAB := Lib.hid hab
  clear r4 hbl hW4 hB4 hab hS
  refine (wpIn_wide (n := 5)).1 ?_
  refine rangeFunc_at rfl (by omega) (gf := 28) (lb := #[.pointer (some ⟨S + 1 + 1 + 1, 0, none⟩)]) rfl trivial (enters_of Try.func28 (by kernel_rfl) rfl)
    HSeq.out rfl (fun _ r h => by rcases h with h | ⟨h, _⟩ <;> omega) Kc.trans (fun W o' hy => ⟨fun r o hq ho hn => (World.putObj_heap_other (by omega)).trans ho, World.putObj_heap_other (by omega), World.putObj_heap_other (by omega), by simp⟩) (Below.refl _ _) (fun _ => rfl)
    (SSt S w l a m c) (fun _ _ _ => False)
    (by rw [hz4]; exact SSt.on HSz.out) (fun cc => onOwn_pure _ _ (fun _ => False))
    ⟨⟨none, 0, 0, b1, World.ownsRow_nil _ _ _ _⟩, b0, b2, b3, HB4.out⟩
    (fun k a' W => ∃ p, a' = { tmps := #[.slice a m c, .pointer (some ⟨S, 0, none⟩), .slice none 0 0, .int .i64 0, .pointer (some ⟨S + 1, 0, none⟩), .pointer (some ⟨S + 1 + 1, 0, none⟩), .int .i64 (((cps l).getD k 0 : Nat) : Int), .pointer (some ⟨p, 0, none⟩), .slice a m c, .int .i64 (m : Int), .bool false, .slice a m c, .func (.func 28) #[] #[.pointer (some ⟨S + 1 + 1 + 1, 0, none⟩)], .int .i64 (((cps l).getD k 0 : Nat) : Int), .agg #[.int .i64 (cpn l ((cps l).getD k 0) : Int), .int .i64 (cpd l ((cps l).getD k 0) : Int), .slice none 0 0], undef, undef, undef, undef, undef, undef, undef, undef, undef, undef, undef, undef, undef, undef, undef, undef, undef, undef], defers := [] } ∧ Blk W p 43 #[.int .i64 (cpn l ((cps l).getD k 0) : Int), .int .i64 (cpd l ((cps l).getD k 0) : Int), .slice none 0 0] ∧ S + 7 ≤ p)
    (fun k a' _ A C row ⟨p, e, hb, hp⟩ hg hr => ⟨p, e, onOwn_blk (β := Unit) (T := fun _ _ => False) p _ (fun _ => _) (fun _ _ _ h => h) () A C row hb hg (fun r e => .inr (hr r e)), hp⟩) ?assign ?body ?done ?stop
  case assign =>
    rintro y k W K hzW hkN hst hK
    rw [hz4] at hzW
    generalize (cps l).getD k 0 = g at hK ⊢
    unfold cpv
    gi_wp2
    refine hK _ _ (KeepsFrom.of_grownBy (World.grownBy_alloc W _ none) (fun r e => by cases e)) ⟨fun r o _ ho _ => (Below.heap_alloc _ _ _ (Array.getElem?_eq_some_iff.1 ho).1).trans ho, Below.heap_alloc _ _ _ (by omega), Below.heap_alloc _ _ _ (by omega), by simp⟩ (SSt.on HSz.out k W _ none hst (World.grownBy_alloc W _ none) (fun r e => by cases e)) ⟨W.heap.size, rfl, Blk.new _ _ _, by omega⟩
  case body =>
    rintro y k a' W hy hzW hrec hkN hst ⟨p, rfl, hbk, hpz⟩
    rw [hz4] at hzW hy
    obtain ⟨⟨A, cp, n, h1, hown⟩, h0, h2, h3, hbel⟩ := hst
    obtain ⟨hg1, hg2, hg3⟩ := cps_spec hkN
    obtain ⟨g, hg⟩ : ∃ g, (cps l).getD k 0 = g := ⟨_, rfl⟩
    obtain ⟨bb, hbb⟩ : ∃ bb, bh l k = bb := ⟨_, rfl⟩
    obtain ⟨hs3, hs130, hsm, hd1, hd4, hdk, -⟩ := cpn_spec hg3
    have hsl := sqz_len (l := l) k (by omega)
    have hSz1 : Hid (sqz l (k + 1) = sqz l k ++ runs (seg l bb g) ++ cpb l g) := Lib.hid (by rw [sqz, hg, hbb])
    have hbh1 : Hid (bh l (k + 1) = g + cpn l g) := Lib.hid (by rw [bh, hg])
    rw [hg] at hg1 hg2 hs3 hs130 hsm hd1 hd4 hdk hbk ⊢
    rw [hbb] at hg1 h2 hsl
    rw [HL.out] at hg2 hsm
    have hab : a = some ⟨b, off, none⟩ := by
      rcases HAB.out with h | h
      · have := HL.out; rw [h] at this; simp at this; omega
      · exact h
    have hmM := HM.out
    have hmC := HMC.out
    have hnn : n = (sqz l k).length := by have := hown.1; simpa using this.symm
    have hBw : S + 7 ≤ W.heap.size := hzW
    have hsegl : (seg l bb g).length = g - bb := by unfold seg; rw [List.length_take, List.length_drop, HL.out]; omega
    have hrs : ∀ X, Below (S + 7) W X → Rw X (some ⟨b, off + bb, none⟩) (seg l bb g) := fun X hX => by
      have h := HRl.out X (hbel.trans (hX.mono (by omega)))
      unfold seg
      exact (h.drop bb (a' := some ⟨b, off + bb, none⟩) (fun b' o' e _ => by rw [hab] at e; injection e with e; injection e with e1 e2; subst e1 e2; rfl)).take _
    have HA1 := Lib.hid (fun (X : World) (hB : S + 7 ≤ X.heap.size) (ho : X.ownsRow (S + 7) 5 1 (.slice A n cp) n ((sqz l k).map (Value.int .u8))) (hX : Below (S + 7) W X) => appendRuns_any b (off + bb) (g - bb) (c - bb) (S + 7) n (some ⟨b, off + bb, none⟩) (.slice A n cp) (sqz l k) (seg l bb g) X hB ho (fun Y hY => hrs Y (hX.trans hY)) hsegl (by omega) (by omega) (.inr rfl) (by omega))
    subst hab
    have HOw := Lib.hid hown
    have HBel := Lib.hid hbel
    have c0 := h0.cell 0
    have c1 := h1.cell 0
    have f1 := h1.frozen 0
    have c2 : W.cell? ⟨S + 1 + 1, 0, none⟩ = some (.int .i64 (bb : Int)) := h2.cell 0
    have hgI : (g : Int) ≤ 4611686018427380000 := by omega
    have HLen : Hid ((sqz l k ++ runs (seg l bb g)).length + 3 ≤ 4000000) := Lib.hid (by rw [List.length_append, runs_len]; have := nbk_le (seg l bb g).length; omega)
    have HM0 : Hid (Mid S b p (some ⟨b, off, none⟩) m c bb #[.int .i64 (cpn l g : Int), .int .i64 (cpd l g : Int), .slice none 0 0] (sqz l k) W W.drew) := Lib.hid ⟨⟨A, n, cp, h1, hown⟩, h0, h2, h3, hbk, (Below.refl _ W).drew, ⟨fun _ _ _ h _ => h, rfl, rfl, Nat.le_refl _⟩, ⟨Nat.le_refl _, fun _ _ h _ => h⟩⟩
    clear hsl hnn hsegl hrs hown hbel hg hbb hg3
    gi_wp2_with fail
    gi_cut [] from 15 (fun wx => Hid (Mid S b p (some ⟨b, off, none⟩) m c bb #[.int .i64 (cpn l g : Int), .int .i64 (cpd l g : Int), .slice none 0 0] (sqz l k ++ runs (seg l bb g)) W wx))
    case first =>
      gi_region_with (refine ⟨trivial, ?_⟩; gi_at_call 19; refine (CallsIn.inRound y (callsIn_wide.2 (HA1.out _ ?_ ?_ ?_))).mono ?_; exact hBw; exact HOw.out; exact (Below.refl _ W).drew; rintro e w2 ⟨⟨v1, n1, rfl, ho1⟩, hb1, hk1⟩; obtain ⟨A1, c1x, rfl⟩ := own_slice ho1; have z1 := Blk.below (w := W.drew) h1 hb1 (by omega); have d1 := z1.cell 0; have e1 := z1.frozen 0)
      all_goals
        gi_wp2_with fail
        gi_meet
        exact Lib.hid (HM0.out.call hb1 hk1 ho1 hbS hpz rfl)
    case rest =>
      have HMc := Lib.hid hcut.out
      obtain ⟨A1, n1, c1x, d1, ho1⟩ := hcut.out.own
      have di := hcut.out.bi
      have e0 := d1.cell 0
      have e1 := d1.frozen 0
      have i0 := di.cell 0
      have i1 := di.cell 1
      have i2 := di.cell 2
      have HO1 := Lib.hid ho1
      clear ho1 hcut
      have hszc : S + 7 ≤ wc.heap.size := Nat.le_trans hBw HMc.out.kc.2.2.2
      have hn1 : n1 + 3 ≤ 4000000 := by have h1 := HO1.out.1; have h2 := HLen.out; simp at h1; rw [List.length_append] at h2; omega
      gi_wp2_with fail
      refine ⟨trivial, (CallsIn.inRound y (callsIn_wide.2 (appendCopy_kn (cpn l g) (cpd l g) (S + 7) n1 (.slice A1 n1 c1x) (.slice none 0 0) _ wc hszc HO1.out hs3 hs130 hd4 hn1))).mono ?_⟩
      rintro e w3 ⟨⟨v3, rfl, ho3⟩, hb3, hk3⟩
      obtain ⟨A3, c3, rfl⟩ := own_slice ho3
      have hMl := HMc.out.call hb3 hk3 ho3 hbS hpz rfl
      have z3 := d1.below hb3 (by omega)
      have f3 := z3.frozen 0
      have y3 := z3.cell 0
      have x3 : Blk w3 p 43 #[.int .i64 (cpn l g : Int), .int .i64 (cpd l g : Int), .slice none 0 0] := hk3.1 p _ di (fun cs fr e => by injection e with _ e2; exact absurd e2 (by decide))
      have x2 := HMc.out.b2.below hb3 (by omega)
      have j0 := x3.cell 0
      have j2 := x2.cell 0
      have k2 := x2.frozen 0
      have HMl := Lib.hid hMl
      have e9 : (g : Int) + (cpn l g : Int) = ((bh l (k + 1) : Nat) : Int) := by rw [hbh1.out]; simp
      have hcI : (cpn l g : Int) ≤ 130 := by omega
      have hS1 : cpb l g = [((cpn l g + 125 : Nat) : Int), ((cpd l g % 256 : Nat) : Int), ((cpd l g / 256 : Nat) : Int)] := rfl
      rw [← hS1, ← hSz1.out] at HMl
      have HE9 := Lib.hid e9
      clear hMl ho3 e9 hS1
      gi_wp2_with fail
      unfold AtPost
      rw [hz4]
      exact HMl.out.last HBel.out hbS HE9.out
  case done =>
    rintro D W hD ⟨⟨A, cp, n, h1, hown⟩, h0, h2, h3, hbel⟩ hK
    rw [hz4] at hD
    have hS7 : S ≤ W.heap.size := Nat.le_trans (Nat.le_of_eq HSz.out.symm) hbel.size
    have hsl := sqz_len (l := l) (cps l).length (Nat.le_refl _)
    have hbe := bh_end (l := l) (k := (cps l).length) (Nat.le_refl _)
    have HA : Hid (sqA l = sqz l (cps l).length ++ runs (l.drop (bh l (cps l).length))) := Lib.hid rfl
    generalize bh l (cps l).length = bb at *
    rw [HL.out] at hbe
    have hmM := HM.out
    have hmC := HMC.out
    have hnn : n = (sqz l (cps l).length).length := by have := hown.1; simpa using this.symm
    have HA2 := Lib.hid (fun (X : World) (hB : S ≤ X.heap.size) (ho : X.ownsRow (S + 7) 5 1 (.slice A n cp) n ((sqz l (cps l).length).map (Value.int .u8))) (hX : Below S W X) (a' : Option Addr) (m' c' : Nat) (h : m ≤ bb ∨ a' = some ⟨b, off + bb, none⟩) (hab : l = [] ∨ a = some ⟨b, off, none⟩) (hm' : m' = m - bb) (hc' : m' ≤ c') => appendRuns_any b (off + bb) m' c' S n a' (.slice A n cp) (sqz l (cps l).length) (l.drop bb) X hB (own_base ho (by omega)) (fun Y hY => by
        have hr := HRl.out Y (hbel.trans (hX.trans hY))
        rcases h with h | h
        · have h' : l.drop bb = [] := List.drop_eq_nil_iff.2 (by have := HL.out; omega)
          rw [h']
          exact ⟨fun n hn => by simp at hn, by simp, .inl rfl⟩
        · exact hr.drop bb (a' := a') (fun b' o' e hne => by
            rcases hab with h' | h'
            · subst h'; simp at hne
            · rw [h'] at e; injection e with e; injection e with e1 e2; subst e1 e2; exact h)) (by rw [List.length_drop, HL.out, hm']) hc' (by omega) (by rcases h with h | h; left; omega; exact .inr h) (by omega))
    have HBel := Lib.hid hbel
    have c0 := h0.cell 0
    have c1 := h1.cell 0
    have c2 : W.cell? ⟨S + 1 + 1, 0, none⟩ = some (.int .i64 (bb : Int)) := h2.cell 0
    have HD : Hid (∀ (v1 : Value) (n1 : Nat) (w2 : World), w2.ownsRow S 5 1 v1 n1 ((sqz l (cps l).length ++ runs (l.drop bb)).map (Value.int .u8)) → Below S W w2 → Kn W w2 → w2.heap[D]? = some (.deferred (some [])) ∧
        (∃ A' n' cap', Ending.returned (.tuple #[v1, .int .i64 0]) = Ending.returned (.tuple #[.slice A' n' cap', .int .i64 0]) ∧ (w2.putObj D (.deferred none)).ownsRow w.heap.size 5 1 (.slice A' n' cap') n' ((sqA l).map (Value.int .u8))) ∧ Below w.heap.size w (w2.putObj D (.deferred none))) := Lib.hid fun v1 n1 w2 ho hb hk => by
      have hK2 : w2.heap[D]? = some (.deferred (some [])) := hk.1 D _ hK (fun _ _ e => by cases e)
      obtain ⟨A1, c1, rfl⟩ := own_slice ho
      refine ⟨hK2, ⟨A1, n1, c1, rfl, ?_⟩, ?_⟩
      · rw [HA.out, HSz.out]
        refine ho.kept (grownBy_putObj' w2 D (.deferred none)) (.inr (fun e => ?_))
        rcases ho.2 with ⟨h0, _⟩ | ⟨g', cap, cur, h0, _, hgg, _⟩
        · rw [h0] at e; simp [Value.ownBlock] at e
        · rw [h0] at e
          simp [Value.ownBlock] at e
          subst e
          rw [hgg] at hK2; cases hK2
      · rw [HSz.out]
        exact (hbel.trans hb).trans (belowK_b (w := w) (Nat.le_of_eq HSz.out.symm) w2 D _ _ (by have := HSz.out; omega) hK2 rfl rfl)
    clear hsl hnn hbel hK
    have hbm : (bb : Int) ≤ (m : Int) := by omega
    rcases HAB.out with he | he
    · have hm0 : m = 0 := by have := HL.out; rw [he] at this; simpa using this.symm
      have hb0 : bb = 0 := by omega
      have HAe := Lib.hid (fun X h1 h2 h3 a' c' => HA2.out X h1 h2 h3 a' 0 c' (.inl (by omega)) (.inl he) (by omega) (by omega))
      have HOw := Lib.hid hown
      clear HAB hown
      subst hm0 hb0
      rcases a with _ | ⟨q0, q1, q2⟩
      all_goals
        go_wp2_with fail
        refine (wpIn_wide (n := 5)).1 (wpIn_nopanic ?_)
        gi_region_with (refine ⟨trivial, ?_⟩; gi_at_call 19; refine (callsIn_wide.2 (HAe.out _ ?_ ?_ ?_ _ _)).mono ?_; exact hS7; exact HOw.out; exact (Below.refl _ W).drew; rintro e w2 ⟨⟨v1, n1, rfl, ho1⟩, hb1, hk1⟩)
        all_goals
          obtain ⟨q1, q2, q3⟩ := HD.out v1 n1 w2 ho1 ((Below.refl _ W).drew.trans hb1) ⟨hk1.1, hk1.2⟩
          try gi_wp2_with fail
          try go_wp2_with fail
          refine ⟨by simp, .inl ⟨_, _, rfl, run_takeDeferred q1, ?_⟩⟩
          refine ⟨.tuple #[v1, .int .i64 0], by simp [results, Try.results10, go_sem], ?_⟩
          exact ⟨q2, q3⟩
    · have HOw := Lib.hid hown
      by_cases hcb : c = bb
      · have hmb : m - bb = 0 := by omega
        have HAe := Lib.hid (fun X h1 h2 h3 a' c' => HA2.out X h1 h2 h3 a' 0 c' (.inl (by omega)) (.inr he) hmb.symm (by omega))
        clear HAB hown
        subst he hcb
        go_wp2_with fail
        refine (wpIn_wide (n := 5)).1 (wpIn_nopanic ?_)
        gi_region_with (refine ⟨trivial, ?_⟩; gi_at_call 19; refine (callsIn_wide.2 (HAe.out _ ?_ ?_ ?_ _ _)).mono ?_; exact hS7; exact HOw.out; exact (Below.refl _ W).drew; rintro e w2 ⟨⟨v1, n1, rfl, ho1⟩, hb1, hk1⟩)
        all_goals
          obtain ⟨q1, q2, q3⟩ := HD.out v1 n1 w2 ho1 ((Below.refl _ W).drew.trans hb1) ⟨hk1.1, hk1.2⟩
          try gi_wp2_with fail
          try go_wp2_with fail
          refine ⟨by simp, .inl ⟨_, _, rfl, run_takeDeferred q1, ?_⟩⟩
          refine ⟨.tuple #[v1, .int .i64 0], by simp [results, Try.results10, go_sem], ?_⟩
          exact ⟨q2, q3⟩
      · have HAe := Lib.hid (fun X h1 h2 h3 => HA2.out X h1 h2 h3 (some ⟨b, off + bb, none⟩) (m - bb) (c - bb) (.inr rfl) (.inr he) rfl (by omega))
        clear HAB hown
        subst he
        go_wp2_with fail
        refine (wpIn_wide (n := 5)).1 (wpIn_nopanic ?_)
        gi_region_with (refine ⟨trivial, ?_⟩; gi_at_call 19; refine (callsIn_wide.2 (HAe.out _ ?_ ?_ ?_)).mono ?_; exact hS7; exact HOw.out; exact (Below.refl _ W).drew; rintro e w2 ⟨⟨v1, n1, rfl, ho1⟩, hb1, hk1⟩)
        all_goals
          obtain ⟨q1, q2, q3⟩ := HD.out v1 n1 w2 ho1 ((Below.refl _ W).drew.trans hb1) ⟨hk1.1, hk1.2⟩
          try gi_wp2_with fail
          try go_wp2_with fail
          refine ⟨by simp, .inl ⟨_, _, rfl, run_takeDeferred q1, ?_⟩⟩
          refine ⟨.tuple #[v1, .int .i64 0], by simp [results, Try.results10, go_sem], ?_⟩
          exact ⟨q2, q3⟩
  case stop =>
    rintro D cc i W hD hi hF hK
    exact hF.elim
end Go.Proofs.Ytaohkakefdhecaa
