/-
  What comes out of squeezed bytes: the program's Open. Nothing of one statement alone stands here.
-/
import Derived.Test.YtaohkakefdhecaaSqIter
import Derived.RangeFuncWrites
namespace Sqm
def ivN (l : List Int) (p : Nat) : Nat := if wh l p = true then cnt l p else 0
def ivD (l : List Int) (p : Nat) : Nat := if wh l p = true then far l p else 0
def ivM (l : List Int) (p : Nat) : Nat := if wh l p = true ∧ ba l p < 128 then cnt l p else 0
def ivC (c : Nat) (l : List Int) (p : Nat) : Nat := if wh l p = true ∧ ba l p < 128 then c - p - 1 else 0
theorem far_run {l : List Int} {p : Nat} (h : ba l p < 128) : far l p = 0 := by unfold far; rw [if_pos h]
end Sqm
namespace Go.Proofs.Ytaohkakefdhecaa
open Go.RowKit Go.Shelf Crcm Sqm Go.ChangeShapes

attribute [local go_sem] Oper.semAt_some

def ivA (b off : Nat) (l : List Int) (p : Nat) : Option Addr := if wh l p = true ∧ ba l p < 128 then some ⟨b, off + p + 1, none⟩ else none
/-- the item at a place, as cells -/
def ivc (b off c : Nat) (l : List Int) (p : Nat) : Array Value := #[.int .i64 (ivN l p : Int), .int .i64 (ivD l p : Int), .slice (ivA b off l p) (ivM l p) (ivC c l p)]
theorem iv_eq (b off c : Nat) (l : List Int) (p : Nat) : iv b off c l p = .agg (ivc b off c l p) := by
  unfold iv ivc ivN ivD ivA ivM ivC itv
  by_cases h1 : wh l p = true
  · by_cases h2 : ba l p < 128
    · simp [h1, h2, far_run h2]
    · simp [h1, h2]
  · simp [h1]

theorem fits_at (b off c p : Nat) (l : List Int) (N : Nat) (w : World) (hw : wh l p = true) :
    Calls Try.prog 24 #[.agg (ivc b off c l p), .int .i64 (N : Int)] w fun e w' => e = .returned (.bool (fit l p N)) ∧ Below w.heap.size w w' := by
  rw [← iv_eq]
  unfold iv fit
  rw [if_pos hw]
  by_cases h2 : ba l p < 128
  · rw [if_pos h2, decide_eq_true (.inl h2)]
    exact fits_run _ _ _ _ _ _ _ _
  · rw [if_neg h2, show decide (ba l p < 128 ∨ 1 ≤ far l p ∧ far l p ≤ N) = decide (1 ≤ far l p ∧ far l p ≤ N) by simp [h2]]
    exact fits_copy _ _ _ _
theorem put_at (b off c p m B k : Nat) (a : Option Addr) (l : List Int) (v : Value) (xs : List Int) (w : World) (hB : B ≤ w.heap.size) (hown : w.ownsRow B 5 1 v k (xs.map (Value.int .u8))) (hu : ∀ x ∈ xs, U8 x)
    (hr : Rw w a l) (ha : a = some ⟨b, off, none⟩) (hl : l.length = m) (hp : p < m) (hw : wh l p = true) (hf : fit l p k = true) (h4 : k + cnt l p ≤ 4000000) :
    Calls Try.prog 25 #[.agg (ivc b off c l p), v] w fun e w' => (∃ v', e = .returned v' ∧ w'.ownsRow B 5 1 v' (k + cnt l p) ((put l p xs).map (Value.int .u8))) ∧ Below B w w' ∧ KeepsOthers w w' := by
  have hw2 := of_decide_eq_true hw
  have hf2 := of_decide_eq_true hf
  unfold sz at hw2
  rw [← iv_eq]
  unfold iv put
  rw [if_pos hw]
  by_cases h2 : ba l p < 128
  · rw [if_pos h2, if_pos h2]
    rw [if_pos h2] at hw2
    have hc : cnt l p = ba l p + 1 := by unfold cnt; rw [if_pos h2]
    have := put_run (cnt l p) 0 b (off + p + 1) (cnt l p) (c - p - 1) B k v xs ((l.drop (p + 1)).take (ba l p + 1)) w hB hown
      ((hr.drop (p + 1) (a' := some ⟨b, off + p + 1, none⟩) (fun b' o' e _ => by rw [ha] at e; injection e with e; injection e with e1 e2; subst e1 e2; rfl)).take _) (by rw [List.length_take, List.length_drop, hc]; omega) h4
    exact this
  · rw [if_neg h2, if_neg h2]
    rcases hf2 with h | ⟨h3, h5⟩
    · exact absurd h h2
    · exact put_copy (cnt l p) (far l p) B k v xs w hB hown hu h3 h5 h4

theorem ou_U8 {l : List Int} (h : ∀ x ∈ l, U8 x) : ∀ k, ∀ x ∈ ou l k, U8 x
  | 0 => fun x hx => by simp [ou] at hx
  | k + 1 => fun x hx => by
    rw [ou, Sqm.put] at hx
    split at hx
    · rcases List.mem_append.1 hx with g | g
      · exact ou_U8 h k x g
      · exact h x (List.mem_of_mem_drop (List.mem_of_mem_take g))
    · exact cpy_U8 (ou_U8 h k) _ x hx

/-- what lies in memory while the items are gone through -/
structure OSt (S : Nat) (w : World) (l : List Int) (most k : Nat) (W : World) : Prop where
  fe : fe l most k = 0
  own : ∃ A cp, Blk W (S + 3) 22 #[.slice A (ou l k).length cp] ∧ W.ownsRow (S + 5) 5 1 (.slice A (ou l k).length cp) (ou l k).length ((ou l k).map (Value.int .u8))
  most : Blk W S 3 #[.int .i64 (most : Int)]
  r1 : Blk W (S + 1) 22 #[.slice none 0 0]
  r2 : Blk W (S + 2) 25 #[.int .i64 0]
  bel : Below S w W
theorem OSt.on {S : Nat} {w : World} {l : List Int} {most : Nat} (hS : w.heap.size = S) : OnOwn (S + 5) (fun _ r => r = S + 4) (OSt S w l most) := fun s A C row ⟨h1, ⟨a, cp, h2, h3⟩, h4, h5, h6, h7⟩ hg hr =>
  ⟨h1, ⟨a, cp, onOwn_blk (β := Unit) (T := fun _ r => r = S + 4) (S + 3) _ (fun _ => _) (fun _ _ _ => by omega) () A C row h2 hg hr,
      onOwn_row (β := Unit) (T := fun _ r => r = S + 4) (fun _ => _) (fun _ => _) (fun _ => _) (fun _ A r ho e => by have := (ho.lt r e).1; omega) () A C row h3 hg hr⟩,
    onOwn_blk (β := Unit) (T := fun _ r => r = S + 4) S _ (fun _ => _) (fun _ _ _ => by omega) () A C row h4 hg hr, onOwn_blk (β := Unit) (T := fun _ r => r = S + 4) (S + 1) _ (fun _ => _) (fun _ _ _ => by omega) () A C row h5 hg hr,
    onOwn_blk (β := Unit) (T := fun _ r => r = S + 4) (S + 2) _ (fun _ => _) (fun _ _ _ => by omega) () A C row h6 hg hr,
    onOwn_below (β := Unit) (T := fun _ r => r = S + 4) (Nat.le_of_eq hS.symm) (by omega) (fun _ r e => by omega) () A C row h7 hg hr⟩
/-- when it ends with an error -/
structure OEr (S : Nat) (w : World) (l : List Int) (most k : Nat) (W : World) : Prop where
  fe : fe l most k ≠ 0
  r1 : Blk W (S + 1) 22 #[.slice none 0 0]
  r2 : Blk W (S + 2) 25 #[.int .i64 (Sqm.fe l most k)]
  bel : Below S w W
theorem OEr.on {S : Nat} {w : World} {l : List Int} {most : Nat} (hS : w.heap.size = S) : OnOwn (S + 5) (fun _ r => r = S + 4) (OEr S w l most) := fun s A C row ⟨h1, h5, h6, h7⟩ hg hr =>
  ⟨h1, onOwn_blk (β := Unit) (T := fun _ r => r = S + 4) (S + 1) _ (fun _ => _) (fun _ _ _ => by omega) () A C row h5 hg hr,
    onOwn_blk (β := Unit) (T := fun _ r => r = S + 4) (S + 2) _ (fun _ => _) (fun _ _ _ => by omega) () A C row h6 hg hr,
    onOwn_below (β := Unit) (T := fun _ r => r = S + 4) (Nat.le_of_eq hS.symm) (by omega) (fun _ r e => by omega) () A C row h7 hg hr⟩

set_option maxRecDepth 100000 in
set_option maxHeartbeats 2000000 in
theorem open_yes (a : Option Addr) (m c most : Nat) (l : List Int) (w : World) (hr : Rw w a l) (hl : l.length = m) (hmc : m ≤ c) (hc : c ≤ 9223372036854775807) (hmost : most ≤ 1048576) :
    Calls Try.prog 13 #[.slice a m c, .int .i64 (most : Int)] w fun e w' => (∃ A cap, e = .returned (.tuple #[.slice A (oO l most).length cap, .int .i64 (oE l most)]) ∧ (oO l most).length ≤ cap ∧ Rw w' A (oO l most)) ∧ Below w.heap.size w w' := by
  have HO := Lib.hid (fun w => (callsIn_wide (n := 5)).1 (itemsOf_in 5 a m c w))
  have hdec : decide ((1048576 : Int) < (most : Int)) = false := by simp; omega
  have hneg : decide ((most : Int) < 0) = false := by simp
  have HM := Lib.hid hmost
  have HL := Lib.hid hl
  have HR := Lib.hid hr
  have HMC := Lib.hid hmc
  have HC := Lib.hid hc
  clear hmost hl hr hmc hc
  refine (callsIn_wide (n := 5)).1 ?_
  refine callsIn_of_wp_marks Try.func13 rfl trivial ?_ rfl
  simp only [Try.ntmps13, List.size_toArray, List.length_cons, List.length_nil, Nat.reduceAdd, Nat.reduceSub, Array.replicate_succ, Array.replicate_zero, List.push_toArray, List.append_toArray, List.nil_append, List.cons_append]
  refine wpIn_wide.2 ?_
  go_wp2_with fail
  refine (HO.out _).mono ?_
  rintro e w' ⟨rfl, rfl⟩
  go_wp2_with fail
  obtain ⟨S, hS⟩ : ∃ S, w.heap.size = S := ⟨_, rfl⟩
  obtain ⟨W4, hW4⟩ : ∃ W4, ((((w.alloc (.cells #[.int .i64 (most : Int)] 3)).alloc (.cells #[.slice none 0 0] 22)).alloc (.cells #[.int .i64 0] 25)).alloc (.cells #[.slice none 0 0] 22)).alloc (.cells #[.slice a m c] 22) = W4 := ⟨_, rfl⟩
  have hz4 : W4.heap.size = S + 5 := by rw [← hW4]; simp; omega
  have hB4 : Below w.heap.size w W4 := by rw [← hW4]; exact (((((Below.refl _ w).alloc (Nat.le_refl _) _).alloc (by simp) _).alloc (by simp; omega) _).alloc (by simp; omega) _).alloc (by simp; omega) _
  have b0 : Blk W4 S 3 #[.int .i64 (most : Int)] := by rw [← hW4, ← hS]; exact ((((Blk.new _ _ _).alloc _).alloc _).alloc _).alloc _
  have b1 : Blk W4 (S + 1) 22 #[.slice none 0 0] := by
    have := (((Blk.new (w.alloc (.cells #[.int .i64 (most : Int)] 3)) 22 #[.slice none 0 0]).alloc (.cells #[.int .i64 0] 25)).alloc (.cells #[.slice none 0 0] 22)).alloc (.cells #[.slice a m c] 22)
    rw [World.size_alloc, hS, hW4] at this; exact this
  have b2 : Blk W4 (S + 2) 25 #[.int .i64 0] := by
    have := ((Blk.new ((w.alloc (.cells #[.int .i64 (most : Int)] 3)).alloc (.cells #[.slice none 0 0] 22)) 25 #[.int .i64 0]).alloc (.cells #[.slice none 0 0] 22)).alloc (.cells #[.slice a m c] 22)
    rw [World.size_alloc, World.size_alloc, hS, hW4] at this; exact this
  have b3 : Blk W4 (S + 3) 22 #[.slice none 0 0] := by
    have := (Blk.new (((w.alloc (.cells #[.int .i64 (most : Int)] 3)).alloc (.cells #[.slice none 0 0] 22)).alloc (.cells #[.int .i64 0] 25)) 22 #[.slice none 0 0]).alloc (.cells #[.slice a m c] 22)
    rw [World.size_alloc, World.size_alloc, World.size_alloc, hS, hW4] at this; exact this
  have bN : Blk W4 (S + 4) 22 #[.slice a m c] := by
    have := Blk.new ((((w.alloc (.cells #[.int .i64 (most : Int)] 3)).alloc (.cells #[.slice none 0 0] 22)).alloc (.cells #[.int .i64 0] 25)).alloc (.cells #[.slice none 0 0] 22)) 22 #[.slice a m c]
    rw [World.size_alloc, World.size_alloc, World.size_alloc, World.size_alloc, hS, hW4] at this; exact this
  have r4 := HR.out.below hB4
  obtain ⟨b, off, hab, hbl, hbS⟩ : ∃ b off, (l = [] ∨ a = some ⟨b, off, none⟩) ∧ b < W4.heap.size ∧ b < S + 1 := by
    by_cases e : l = []
    · exact ⟨S, 0, .inl e, by omega, by omega⟩
    · rcases HR.out.2.2 with h | ⟨b, off, rfl, hcl⟩
      · exact absurd h e
      · have hlt : b < w.heap.size := block_lt_of_cell (hcl 0 (List.length_pos_iff.2 e))
        exact ⟨b, off, .inr rfl, by omega, by omega⟩
  rw [hS, hW4]
  have hseq := items_in 4 (by omega) (S + 4) b off m c a l HL.out HMC.out HC.out hab W4 bN r4 hbl (by omega)
  have henc : (fun k => #[iv b off c l (pl l k), Value.bool (wh l (pl l k))]) = (fun k => #[Value.agg (ivc b off c l (pl l k)), Value.bool (wh l (pl l k))]) := by funext k; rw [iv_eq]
  rw [henc] at hseq
  have HSeq := Lib.hid hseq
  have HRl := Lib.hid (fun (W : World) (h : Below S w W) => HR.out.below (by rw [hS]; exact h))
  have hU := HR.out.1
  have HU := Lib.hid hU
  have hSw : S ≤ w.heap.size := Nat.le_of_eq hS.symm
  have HSz := Lib.hid hS
  have HB4 : Hid (Below S w W4) := Lib.hid (hS ▸ hB4)
  have HAB := Lib.hid hab
  clear hseq henc r4 hbl hW4 hB4 hU hab hS
  refine (wpIn_wide (n := 5)).1 ?_
  refine rangeFunc_at rfl (by omega) (gf := 31) (lb := #[.pointer (some ⟨S + 1 + 1 + 1 + 1, 0, none⟩)]) rfl trivial (enters_of Try.func31 (by kernel_rfl) rfl)
    HSeq.out rfl (fun _ r e => by omega) Kb2.trans (fun W o' hy => ⟨World.putObj_heap_other (by omega), World.putObj_heap_other (by omega), by simp⟩) (Below.refl _ _) (fun _ => rfl)
    (OSt S w l most) (fun cc k W => cc = .ret ∧ OEr S w l most k W)
    (by rw [hz4]; exact OSt.on HSz.out) (fun cc => by rw [hz4]; exact (onOwn_pure _ _ _).and (OEr.on HSz.out))
    ⟨rfl, ⟨none, 0, b3, World.ownsRow_nil _ _ _ _⟩, b0, b1, b2, HB4.out⟩
    (fun k a' W => ∃ p, a' = { tmps := #[.slice a m c, .int .i64 (most : Int), undef, .pointer (some ⟨S, 0, none⟩), .pointer (some ⟨S + 1, 0, none⟩), .pointer (some ⟨S + 1 + 1, 0, none⟩), .pointer (some ⟨S + 1 + 1 + 1, 0, none⟩), .pointer (some ⟨p, 0, none⟩), .bool (wh l (pl l k)), .int .i64 (most : Int), .bool false, .bool false, .int .i64 (most : Int), .bool false, .bool false, .slice a m c, .func (.func 31) #[] #[.pointer (some ⟨S + 1 + 1 + 1 + 1, 0, none⟩)], .agg (ivc b off c l (pl l k)), .bool (wh l (pl l k)), undef, undef, undef, undef, undef, undef, undef, undef, undef, undef, undef, undef, undef, undef, undef, undef, undef, undef, undef, undef, undef, undef], defers := [] } ∧ Blk W p 43 (ivc b off c l (pl l k)) ∧ S + 5 ≤ p)
    (fun k a' _ A C row ⟨p, e, hb, hp⟩ hg hr => ⟨p, e, onOwn_blk (β := Unit) (T := fun _ r => r = S + 4) p _ (fun _ => _) (fun _ _ _ => by omega) () A C row hb hg (fun r e => .inr (hr r e)), hp⟩) ?assign ?body ?done ?stop
  case assign =>
    rintro y k W K hzW hkN hst hK
    rw [hz4] at hzW
    unfold ivc
    gi_wp2
    refine hK _ _ (KeepsFrom.of_grownBy (World.grownBy_alloc W _ none) (fun r e => by cases e)) ⟨Below.heap_alloc _ _ _ (by omega), Below.heap_alloc _ _ _ (by omega), by simp⟩ (OSt.on HSz.out k W _ none hst (World.grownBy_alloc W _ none) (fun r e => by cases e)) ⟨W.heap.size, rfl, Blk.new _ _ _, by omega⟩
  case body =>
    rintro y k a' W hy hzW hrec hkN hst ⟨pb, rfl, hbk, hpz⟩
    rw [hz4] at hzW hy
    have HStp := Lib.hid hst
    obtain ⟨hfe, ⟨A, cp, h3, hown⟩, h0, h1, h2, hbel⟩ := hst
    obtain ⟨n, hn⟩ : ∃ n, (ou l k).length = n := ⟨_, rfl⟩
    obtain ⟨p, hp⟩ : ∃ p, pl l k = p := ⟨_, rfl⟩
    rw [hn] at h3 hown
    rw [hp] at hbk ⊢
    have HFE := Lib.hid hfe
    have HNN := Lib.hid hn
    have hnI : (n : Int) ≤ 4611686018427387903 := by have := ou_len hfe; have := HM.out; omega
    have hmI : (most : Int) ≤ 4611686018427387903 := by have := HM.out; omega
    have HPP := Lib.hid hp
    have hlt := pl_lt hkN
    rw [hp] at hlt
    have HLT := Lib.hid hlt
    have hfe1 := fe_at hfe
    rw [hn, hp] at hfe1
    have HFE1 := Lib.hid hfe1
    have HOwn := Lib.hid hown
    have HBel := Lib.hid hbel
    have c0 := h0.cell 0
    have c1 := h1.cell 0
    have c2 := h2.cell 0
    have c3 : W.cell? ⟨S + 1 + 1 + 1, 0, none⟩ = some (.slice A n cp) := h3.cell 0
    have f1 := h1.frozen 0
    have f2 : W.frozen? ⟨S + 1 + 1, 0, none⟩ = false := h2.frozen 0
    have f3 : W.frozen? ⟨S + 1 + 1 + 1, 0, none⟩ = false := h3.frozen 0
    have c2' : W.cell? ⟨S + 1 + 1, 0, none⟩ = some (.int .i64 0) := c2
    have hbk' := hbk
    unfold ivc at hbk'
    have d0 := hbk'.cell 0
    have d1 := hbk'.cell 1
    have d2 := hbk'.cell 2
    have HBK := Lib.hid hbk
    have hErr : ∀ (X : World) (E : Int), fe l most (k + 1) = E → E ≠ 0 → Below W.heap.size W X → Hid (KeepsFrom (S + 5) W ((X.setCell ⟨S + 1, 0, none⟩ (.slice none 0 0)).setCell ⟨S + 1 + 1, 0, none⟩ (.int .i64 E)) ∧ OEr S w l most (k + 1) ((X.setCell ⟨S + 1, 0, none⟩ (.slice none 0 0)).setCell ⟨S + 1 + 1, 0, none⟩ (.int .i64 E))) := fun X E e1 e2 hb => Lib.hid ⟨((((keeps_below hb).trans (KeepsOthers.setCell _ _ _)).trans (KeepsOthers.setCell _ _ _)).from _),
      ⟨by rw [e1]; exact e2, ((h1.below hb h1.lt).put 0 (.slice none 0 0)).far (p := ⟨S + 1 + 1, 0, none⟩) (by show S + 1 ≠ S + 1 + 1; omega) _, by rw [e1]; exact ((h2.below hb h2.lt).far (p := ⟨S + 1, 0, none⟩) (by show S + 2 ≠ S + 1; omega) _).put 0 (.int .i64 E), ((hbel.trans (hb.mono (by have := hbel.size; omega))).setCell (p := ⟨S + 1, 0, none⟩) (by show S ≤ S + 1; omega) _).setCell (p := ⟨S + 1 + 1, 0, none⟩) (by show S ≤ S + 1 + 1; omega) _⟩⟩
    have HErr := Lib.hid hErr
    clear hfe hn hp hlt hfe1 hown hbel c2 hErr
    by_cases hw : wh l p = true
    · have HW := Lib.hid hw
      have HF := Lib.hid (fits_at b off c p l n W hw)
      by_cases hf : fit l p n = true
      · rw [hf] at HF
        have hcN : ivN l p = cnt l p := by unfold ivN; rw [if_pos hw]
        have hw2' := HStp.out.bel.size
        by_cases hm : n + cnt l p ≤ most
        · have t9 : decide ((most : Int) - (n : Int) < (ivN l p : Int)) = false := by rw [hcN]; simp; omega
          have HE0 : Hid (fe l most (k + 1) = 0) := Lib.hid (by rw [HFE1.out]; exact er_ok.2 ⟨hw, hf, hm⟩)
          have hla : a = some ⟨b, off, none⟩ := by
            rcases HAB.out with h | h
            · have := HLT.out; rw [h] at this; simp at this
            · exact h
          have HP := Lib.hid (fun (w2 : World) (hb2 : Below W.heap.size W w2) => put_at b off c p m (S + 5) n a l (.slice A n cp) (ou l k) w2 (by have := hb2.size; omega) (own_below HOwn.out hb2) (ou_U8 HU.out k) (HRl.out w2 (HBel.out.trans (hb2.mono (by have := HBel.out.size; omega)))) hla HL.out (by have := HLT.out; have := HL.out; omega) hw hf (by have := HM.out; omega))
          have HLen : Hid ((ou l (k + 1)).length = n + cnt l p) := Lib.hid (by rw [ou, put_length (by rw [HPP.out]; exact hw), HPP.out, HNN.out])
          have HOu : Hid (ou l (k + 1) = Sqm.put l p (ou l k)) := Lib.hid (by rw [ou, HPP.out])
          rw [hw]
          unfold ivc at HF HP
          clear hm hw hf hcN hla HErr hw2'
          gi_wp2_with (refine ⟨trivial, ?_⟩; gi_at_call 24; refine (CallsIn.inRound y (callsIn_wide.2 HF.out)).mono ?_; rintro e w2 ⟨rfl, hb2⟩; have g1 := (h1.below hb2 h1.lt).cell 0; have g2 : w2.cell? ⟨S + 1 + 1, 0, none⟩ = some (.int .i64 0) := (h2.below hb2 h2.lt).cell 0; have q1 := (h1.below hb2 h1.lt).frozen 0; have q2 : w2.frozen? ⟨S + 1 + 1, 0, none⟩ = false := (h2.below hb2 h2.lt).frozen 0; have g0 := (h0.below hb2 h0.lt).cell 0; have g3 : w2.cell? ⟨S + 1 + 1 + 1, 0, none⟩ = some (.slice A n cp) := (h3.below hb2 h3.lt).cell 0; have k0 := (hbk'.below hb2 hbk'.lt).cell 0; have k1 := (hbk'.below hb2 hbk'.lt).cell 1; have k2 := (hbk'.below hb2 hbk'.lt).cell 2)
          gi_wp2_with (refine ⟨trivial, ?_⟩; gi_at_call 25; refine (CallsIn.inRound y (callsIn_wide.2 (HP.out w2 hb2))).mono ?_; rintro e w3 ⟨⟨v', rfl, hown3⟩, hb3, hko3⟩; obtain ⟨A3, cp3, rfl⟩ := own_slice hown3; have z3 := (h3.below hb2 h3.lt).below hb3 (by omega); have j3 : w3.cell? ⟨S + 1 + 1 + 1, 0, none⟩ = some (.slice A n cp) := z3.cell 0; have j4 : w3.frozen? ⟨S + 1 + 1 + 1, 0, none⟩ = false := z3.frozen 0)
          rw [hz4]
          have hst2 : KeepsOthers W w3 := (keeps_below hb2).trans hko3
          have bel3 : Below S w w3 := (HBel.out.trans (hb2.mono (by have := HBel.out.size; omega))).trans (hb3.mono (by omega))
          refine ⟨(hst2.trans (KeepsOthers.setCell _ _ _)).from _, ⟨?_, ?_, ?_⟩, ⟨HE0.out, ⟨A3, cp3, ?_, ?_⟩, ?_, ?_, ?_, bel3.setCell (p := ⟨S + 1 + 1 + 1, 0, none⟩) (by show S ≤ S + 1 + 1 + 1; omega) _⟩⟩
          · exact (Below.heap_setCell _ _ _ _ (by show S + 4 ≠ S + 1 + 1 + 1; omega)).trans ((hb3.block _ (by omega)).trans (hb2.block _ (by omega)))
          · exact (Below.heap_setCell _ _ _ _ (by show b ≠ S + 1 + 1 + 1; omega)).trans ((hb3.block _ (by omega)).trans (hb2.block _ (by omega)))
          · have h1 := hst2.size
            simpa [World.setCell] using h1
          · rw [HLen.out]; exact z3.put 0 _
          · rw [HLen.out, HOu.out]
            exact hown3.kept (grownBy_setCell' w3 (S + 1 + 1 + 1) _) (.inr (fun e => by have := (hown3.lt _ e).1; omega))
          · exact ((h0.below hb2 h0.lt).below hb3 (by omega)).far (p := ⟨S + 1 + 1 + 1, 0, none⟩) (by show S ≠ S + 1 + 1 + 1; omega) _
          · exact ((h1.below hb2 h1.lt).below hb3 (by omega)).far (p := ⟨S + 1 + 1 + 1, 0, none⟩) (by show S + 1 ≠ S + 1 + 1 + 1; omega) _
          · exact ((h2.below hb2 h2.lt).below hb3 (by omega)).far (p := ⟨S + 1 + 1 + 1, 0, none⟩) (by show S + 2 ≠ S + 1 + 1 + 1; omega) _
        · have t9 : decide ((most : Int) - (n : Int) < (ivN l p : Int)) = true := by rw [hcN]; simp; omega
          have HE := Lib.hid (fun (X : World) hb => HErr.out X 2 (by rw [HFE1.out]; unfold er; rw [if_pos ⟨hw, hf⟩, if_neg hm]) (by decide) hb)
          rw [hw]
          unfold ivc at HF
          clear hm hw hf hcN HErr hw2'
          gi_wp2_with (refine ⟨trivial, ?_⟩; gi_at_call 24; refine (CallsIn.inRound y (callsIn_wide.2 HF.out)).mono ?_; rintro e w2 ⟨rfl, hb2⟩; have g1 := (h1.below hb2 h1.lt).cell 0; have g2 : w2.cell? ⟨S + 1 + 1, 0, none⟩ = some (.int .i64 0) := (h2.below hb2 h2.lt).cell 0; have q1 := (h1.below hb2 h1.lt).frozen 0; have q2 : w2.frozen? ⟨S + 1 + 1, 0, none⟩ = false := (h2.below hb2 h2.lt).frozen 0; have g0 := (h0.below hb2 h0.lt).cell 0; have g3 : w2.cell? ⟨S + 1 + 1 + 1, 0, none⟩ = some (.slice A n cp) := (h3.below hb2 h3.lt).cell 0; have k0 := (hbk'.below hb2 hbk'.lt).cell 0; have k1 := (hbk'.below hb2 hbk'.lt).cell 1; have k2 := (hbk'.below hb2 hbk'.lt).cell 2)
          rw [hz4]
          exact ⟨(HE.out w2 hb2).out.1, rfl, (HE.out w2 hb2).out.2⟩
      · have hf' : fit l p n = false := by simpa using hf
        rw [hf'] at HF
        have HE := Lib.hid (fun (X : World) hb => HErr.out X 50 (by rw [HFE1.out]; exact er_no (by rw [hf']; simp)) (by decide) hb)
        rw [hw]
        unfold ivc at HF
        clear hw hf hf' HErr
        gi_wp2_with (refine ⟨trivial, ?_⟩; gi_at_call 24; refine (CallsIn.inRound y (callsIn_wide.2 HF.out)).mono ?_; rintro e w2 ⟨rfl, hb2⟩; have g1 := (h1.below hb2 h1.lt).cell 0; have g2 : w2.cell? ⟨S + 1 + 1, 0, none⟩ = some (.int .i64 0) := (h2.below hb2 h2.lt).cell 0; have q1 := (h1.below hb2 h1.lt).frozen 0; have q2 : w2.frozen? ⟨S + 1 + 1, 0, none⟩ = false := (h2.below hb2 h2.lt).frozen 0)
        rw [hz4]
        exact ⟨(HE.out w2 hb2).out.1, rfl, (HE.out w2 hb2).out.2⟩
    · have hw' : wh l p = false := by simpa using hw
      have HE := Lib.hid (HErr.out W 50 (by rw [HFE1.out]; exact er_no (by rw [hw']; simp)) (by decide) (Below.refl _ _))
      rw [hw']
      clear hw hw' HErr
      gi_wp2_with (refine ⟨trivial, ?_⟩)
      rw [hz4]
      exact ⟨HE.out.out.1, rfl, HE.out.out.2⟩
  case done =>
    rintro D W hD hst hK
    rw [hz4] at hD
    obtain ⟨hfe, ⟨A, cp, h3, hown⟩, h0, h1, h2, hbel⟩ := hst
    have hE : oE l most = 0 := hfe
    have hO : oO l most = ou l (kn l) := by unfold oO; rw [if_pos hE]
    have HOE := Lib.hid (And.intro hO hE)
    clear hO hE hfe
    obtain ⟨A', cp', he, hRw, hlen, hcap⟩ := Rw.of_own hown (ou_U8 HU.out _)
    injection he with e1 _ e3
    subst e1 e3
    have HCap : Hid ((ou l (kn l)).length ≤ cp) := Lib.hid hcap
    obtain ⟨n, hn⟩ : ∃ n, (ou l (kn l)).length = n := ⟨_, rfl⟩
    rw [hn] at h3 hown HCap
    have HN := Lib.hid hn
    have HOw := Lib.hid hown
    have c1 := h1.cell 0
    have c2 : W.cell? ⟨S + 1 + 1, 0, none⟩ = some (.int .i64 0) := h2.cell 0
    have c3 : W.cell? ⟨S + 1 + 1 + 1, 0, none⟩ = some (.slice A n cp) := h3.cell 0
    have f1 := h1.frozen 0
    have f2 : W.frozen? ⟨S + 1 + 1, 0, none⟩ = false := h2.frozen 0
    clear hRw hcap hlen hown hn
    go_wp2_with fail
    have hK2 : ((W.setCell ⟨S + 1, 0, none⟩ (.slice A n cp)).setCell ⟨S + 1 + 1, 0, none⟩ (.int .i64 0)).heap[D]? = some (.deferred (some [])) := ((Below.heap_setCell _ _ _ _ (by show D ≠ S + 1 + 1; omega)).trans (Below.heap_setCell _ _ _ _ (by show D ≠ S + 1; omega))).trans hK
    have w1 : Blk ((W.setCell ⟨S + 1, 0, none⟩ (.slice A n cp)).setCell ⟨S + 1 + 1, 0, none⟩ (.int .i64 0)) (S + 1) 22 #[.slice A n cp] := (h1.put 0 (.slice A n cp)).far (p := ⟨S + 1 + 1, 0, none⟩) (by show S + 1 ≠ S + 1 + 1; omega) _
    have w2 : Blk ((W.setCell ⟨S + 1, 0, none⟩ (.slice A n cp)).setCell ⟨S + 1 + 1, 0, none⟩ (.int .i64 0)) (S + 2) 25 #[.int .i64 0] := (h2.far (p := ⟨S + 1, 0, none⟩) (by show S + 2 ≠ S + 1; omega) _).put 0 (.int .i64 0)
    have bz : Below S w ((W.setCell ⟨S + 1, 0, none⟩ (.slice A n cp)).setCell ⟨S + 1 + 1, 0, none⟩ (.int .i64 0)) := (hbel.setCell (p := ⟨S + 1, 0, none⟩) (by show S ≤ S + 1; omega) _).setCell (p := ⟨S + 1 + 1, 0, none⟩) (by show S ≤ S + 1 + 1; omega) _
    have hOw : ((W.setCell ⟨S + 1, 0, none⟩ (.slice A n cp)).setCell ⟨S + 1 + 1, 0, none⟩ (.int .i64 0)).ownsRow (S + 5) 5 1 (.slice A n cp) n ((ou l (kn l)).map (Value.int .u8)) :=
      (HOw.out.kept (grownBy_setCell' W (S + 1) _) (.inr (fun e => by have := (HOw.out.lt _ e).1; omega))).kept (grownBy_setCell' _ (S + 1 + 1) _) (.inr (fun e => by have := (HOw.out.lt _ e).1; omega))
    generalize ((W.setCell ⟨S + 1, 0, none⟩ (.slice A n cp)).setCell ⟨S + 1 + 1, 0, none⟩ (.int .i64 0)) = X at *
    have cd1 : (X.putObj D (.deferred none)).cell? ⟨S + 1, 0, none⟩ = some (.slice A n cp) := (World.cell?_of_block (a := ⟨S + 1, 0, none⟩) (World.putObj_heap_other (by show S + 1 ≠ D; omega))).trans (w1.cell 0)
    have cd2 : (X.putObj D (.deferred none)).cell? ⟨S + 1 + 1, 0, none⟩ = some (.int .i64 0) := (World.cell?_of_block (a := ⟨S + 1 + 1, 0, none⟩) (World.putObj_heap_other (by show S + 1 + 1 ≠ D; omega))).trans (w2.cell 0)
    have hOx : (X.putObj D (.deferred none)).ownsRow (S + 5) 5 1 (.slice A n cp) n ((ou l (kn l)).map (Value.int .u8)) := hOw.kept (grownBy_putObj' X D (.deferred none)) (.inr (fun e => by
      rcases hOw.2 with ⟨h0, _⟩ | ⟨g', cap, cur, h0, _, hgg, _⟩
      · rw [h0] at e; simp [Value.ownBlock] at e
      · rw [h0] at e
        simp [Value.ownBlock] at e
        subst e
        rw [hgg] at hK2; cases hK2))
    obtain ⟨A', cp', he, hRw, -, -⟩ := Rw.of_own hOx (ou_U8 HU.out _)
    injection he with e1 _ e3
    subst e1 e3
    refine ⟨by simp, .inl ⟨_, _, rfl, run_takeDeferred hK2, ?_⟩⟩
    refine ⟨.tuple #[.slice A n cp, .int .i64 0], by simp [results, Try.results13, go_sem, cd1, cd2], ?_⟩
    rw [HOE.out.1, HOE.out.2, HN.out]
    refine ⟨⟨A, cp, rfl, HCap.out, hRw⟩, ?_⟩
    rw [HSz.out]
    exact bz.trans (belowK_b (w := w) (Nat.le_of_eq HSz.out.symm) X D _ _ (by have := HSz.out; omega) hK2 rfl rfl)
  case stop =>
    rintro D cc k W hD hkN ⟨rfl, hne, h1, h2, hbel⟩ hK
    rw [hz4] at hD
    obtain ⟨e1, e2⟩ := oE_err hkN hne
    have HE := Lib.hid (And.intro e1 e2)
    obtain ⟨E, hE⟩ : ∃ E, fe l most k = E := ⟨_, rfl⟩
    rw [hE] at h2 HE
    have c1 := h1.cell 0
    have c2 := h2.cell 0
    clear hE hne e1 e2
    refine wpIn_wide.2 ?_
    go_wp2_with fail
    have cd1 : (W.putObj D (.deferred none)).cell? ⟨S + 1, 0, none⟩ = some (.slice none 0 0) := (World.cell?_of_block (a := ⟨S + 1, 0, none⟩) (World.putObj_heap_other (by show S + 1 ≠ D; omega))).trans c1
    have cd2 : (W.putObj D (.deferred none)).cell? ⟨S + 1 + 1, 0, none⟩ = some (.int .i64 E) := (World.cell?_of_block (a := ⟨S + 1 + 1, 0, none⟩) (World.putObj_heap_other (by show S + 1 + 1 ≠ D; omega))).trans c2
    refine ⟨by simp, .inl ⟨_, _, rfl, run_takeDeferred hK, ?_⟩⟩
    refine ⟨.tuple #[.slice none 0 0, .int .i64 E], by simp [results, Try.results13, go_sem, cd1, cd2], ?_⟩
    rw [HE.out.1, HE.out.2]
    refine ⟨⟨none, 0, rfl, Nat.le_refl _, Rw.nil⟩, ?_⟩
    rw [HSz.out]
    exact hbel.trans (belowK_b (w := w) (Nat.le_of_eq HSz.out.symm) W D _ _ (by have := HSz.out; omega) hK rfl rfl)
end Go.Proofs.Ytaohkakefdhecaa
