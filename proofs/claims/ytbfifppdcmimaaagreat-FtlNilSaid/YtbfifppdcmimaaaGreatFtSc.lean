/-
  What a look at a chip's pages finds: rows of found pages; small calls on them. Nothing of one statement alone stands here.
-/
import Derived.Test.YtbfifppdcmimaaaGreatNA
import Derived.Deep.RegionHeld3
import Derived.Deep.RegionLaw
import Derived.Deep.CutBlock
import Derived.Deep.CutRange
import Derived.Deep.DeepCutAuto
namespace Ftlm
/-- a page of the chip that holds a logical page or a seal -/
structure Fo where
  k : Int
  i : Int
  kd : Int
  pg : Int
  sq : Int
  ep : Int
/-- it is so that it may lie in memory -/
def Fo.ok (f : Fo) : Prop := (0 ≤ f.k ∧ f.k < 129) ∧ (0 ≤ f.i ∧ f.i < 33) ∧ (f.kd = 1 ∨ f.kd = 2) ∧ (0 ≤ f.pg ∧ f.pg < 8192) ∧ (1 ≤ f.sq ∧ f.sq < 4611686018427387904) ∧ (1 ≤ f.ep ∧ f.ep < 4611686018427387904)
/-- whether a valid page holds a logical page or a seal -/
def isSm (kd pg : Int) : Bool := (kd == 1 && decide (0 < pg)) || (kd == 2 && pg == 0)
/-- what a look finds -/
structure Sn where
  L : List Fo
  fr : Nat → Bool
  ep : Nat → Int
  last : Int
/-- whether a page may be what is sealed -/
def cts (last kd ep : Int) : Bool := if kd = 2 then decide (ep = last) else decide (ep ≤ last)
theorem if_mx (a b : Int) : (if a < b then b else a) = max a b := by
  split <;> omega
/-- the greatest Seq, the greatest Epoch -/
def mxs : List Fo → Int → Int
  | [], a => a
  | f :: r, a => mxs r (max a f.sq)
def mxe : List Fo → Int → Int
  | [], a => a
  | f :: r, a => mxe r (max a f.ep)
theorem mxs_snoc (l : List Fo) (f : Fo) : ∀ a, mxs (l ++ [f]) a = max (mxs l a) f.sq := by
  induction l with
  | nil => intro a; rfl
  | cons x r ih => intro a; exact ih _
theorem mxe_snoc (l : List Fo) (f : Fo) : ∀ a, mxe (l ++ [f]) a = max (mxe l a) f.ep := by
  induction l with
  | nil => intro a; rfl
  | cons x r ih => intro a; exact ih _
end Ftlm
namespace Go.Proofs.YtbfifppdcmimaaaGreat
open Go.RowKit Crcm Gcm Ftlm Go.ChangeShapes Go.Maps

/-- the cells of a found page -/
def foC (f : Fo) : List Value := [.int .i64 f.k, .int .i64 f.i, .int .i64 f.kd, .int .u32 f.pg, .int .u64 f.sq, .int .u64 f.ep]
/-- the cells of rows of them -/
def flF : List Fo → List Value
  | [] => []
  | f :: r => foC f ++ flF r
theorem flF_append (a b : List Fo) : flF (a ++ b) = flF a ++ flF b := by
  induction a with
  | nil => rfl
  | cons x r ih => simp only [List.cons_append, flF, ih, List.append_assoc]
theorem flF_length (l : List Fo) : (flF l).length = l.length * 6 := by
  induction l with
  | nil => rfl
  | cons x r ih => simp only [flF, List.length_append, ih, List.length_cons, foC, List.length_nil]; omega
theorem flF_at : ∀ (l : List Fo) (j : Nat) (h : j < l.length) (i : Nat), i < 6 → (flF l)[j * 6 + i]? = (foC l[j])[i]?
  | x :: r, 0, _, i, hi => by
    simp only [flF, Nat.zero_mul, Nat.zero_add, List.getElem_cons_zero]
    rw [List.getElem?_append_left (by simp [foC]; omega)]
  | x :: r, j + 1, h, i, hi => by
    have := flF_at r j (by simpa using h) i hi
    simp only [flF, List.getElem_cons_succ]
    rw [List.getElem?_append_right (by simp [foC]; omega)]
    rw [← this]
    congr 1
    simp [foC]
    omega
/-- a found page at a place of a row -/
def FoA (w : World) (g j : Nat) (f : Fo) : Prop :=
  w.cell? ⟨g, j * 6, none⟩ = some (.int .i64 f.k) ∧ w.cell? ⟨g, j * 6 + 1, none⟩ = some (.int .i64 f.i) ∧ w.cell? ⟨g, j * 6 + 2, none⟩ = some (.int .i64 f.kd) ∧
  w.cell? ⟨g, j * 6 + 3, none⟩ = some (.int .u32 f.pg) ∧ w.cell? ⟨g, j * 6 + 4, none⟩ = some (.int .u64 f.sq) ∧ w.cell? ⟨g, j * 6 + 5, none⟩ = some (.int .u64 f.ep)
/-- a row of found pages, of the call's own -/
def FoR (w : World) (B : Nat) (v : Value) (L : List Fo) : Prop := w.ownsRow B 124 6 v L.length (flF L)
theorem FoR.at {w : World} {B : Nat} {v : Value} {L : List Fo} (h : FoR w B v L) {j : Nat} (hj : j < L.length) : ∃ g c, v = .slice (some ⟨g, 0, none⟩) L.length c ∧ FoA w g j L[j] := by
  rcases h.2 with ⟨e, h0⟩ | ⟨g, cap, cur, e, hg, hh, hn, hm, hsz, ht⟩
  · omega
  · refine ⟨g, cap, e, ?_⟩
    have hB : Blk w g 124 cur := hh
    have ee : ∀ i, i < 6 → cur[j * 6 + i]? = (foC L[j])[i]? := fun i hi => by rw [← flF_at L j hj i hi, ← ht, List.getElem?_take, if_pos (by omega), Array.getElem?_toList]
    exact ⟨(hB.cell _).trans (ee 0 (by omega)), (hB.cell _).trans (ee 1 (by omega)), (hB.cell _).trans (ee 2 (by omega)), (hB.cell _).trans (ee 3 (by omega)), (hB.cell _).trans (ee 4 (by omega)), (hB.cell _).trans (ee 5 (by omega))⟩
theorem FoR.form {w : World} {B : Nat} {v : Value} {L : List Fo} (h : FoR w B v L) : ∃ a c, v = .slice a L.length c := by
  rcases h.2 with ⟨e, h0⟩ | ⟨g, cap, cur, e, -⟩
  · exact ⟨none, 0, by rw [e, h0]⟩
  · exact ⟨_, cap, e⟩
theorem FoR.below {w w' : World} {B : Nat} {v : Value} {L : List Fo} (h : FoR w B v L) (hb : Below w.heap.size w w') : FoR w' B v L := own_below h hb

/-- what a look found, in memory -/
structure ScAt (w : World) (B S gF gE nb : Nat) (s : Sn) : Prop where
  blk : ∃ v, Blk w S 80 #[v, .slice (some ⟨gF, 0, none⟩) nb nb, .slice (some ⟨gE, 0, none⟩) nb nb, .int .u64 s.last] ∧ FoR w B v s.L
  fr : FrR w gF nb s.fr
  ep : ∃ cs, Blk w gE 53 cs ∧ cs.size = nb ∧ ∀ j, j < nb → cs[j]? = some (.int .u64 (s.ep j))
theorem ScAt.below {w w' : World} {B S gF gE nb : Nat} {s : Sn} (h : ScAt w B S gF gE nb s) (hb : Below w.heap.size w w') : ScAt w' B S gF gE nb s := by
  obtain ⟨v, h1, h2⟩ := h.blk
  obtain ⟨cs, h3, h4⟩ := h.ep
  exact ⟨⟨v, h1.below hb h1.lt, h2.below hb⟩, h.fr.kp (F := fun _ => False) (Kp.of_below hb) (fun e => e), cs, h3.below hb h3.lt, h4⟩

set_option maxRecDepth 100000 in
theorem isSome_any (kd pg sq ep : Int) (w : World) (hk : kd = 1 ∨ kd = 2) :
    Calls Tryz.prog 63 #[tg kd pg sq ep] w fun e w' => e = .returned (.bool (isSm kd pg)) ∧ Below w.heap.size w w' := by
  have hB1 : Below w.heap.size w (w.alloc (.cells #[.int .i64 kd, .int .u32 pg, .int .u64 sq, .int .u64 ep] 61)) := (Below.refl _ _).alloc (Nat.le_refl _) _
  have hb : Blk (w.alloc (.cells #[.int .i64 kd, .int .u32 pg, .int .u64 sq, .int .u64 ep] 61)) w.heap.size 61 #[.int .i64 kd, .int .u32 pg, .int .u64 sq, .int .u64 ep] := heap_alloc_new w _
  have c0 := hb.cell 0
  have c1 := hb.cell 1
  have HB := Lib.hid hB1
  clear hb hB1
  unfold tg
  rcases hk with rfl | rfl
  · by_cases h0 : 0 < pg
    · have t1 : decide (0 < pg) = true := decide_eq_true h0
      have HE : Hid (isSm 1 pg = true) := Lib.hid (by unfold isSm; rw [t1]; rfl)
      go_enter Tryz.func63, Tryz.ntmps63
      go_wp2
      rw [HE.out]
      go_ret
      exact ⟨rfl, HB.out⟩
    · have t1 : decide (0 < pg) = false := decide_eq_false h0
      have HE : Hid (isSm 1 pg = false) := Lib.hid (by unfold isSm; rw [t1]; rfl)
      go_enter Tryz.func63, Tryz.ntmps63
      go_wp2
      rw [HE.out]
      go_ret
      exact ⟨rfl, HB.out⟩
  · have HE : Hid (isSm 2 pg = (pg == 0)) := Lib.hid (by unfold isSm; rfl)
    rw [HE.out]
    generalize hq : (pg == 0) = r
    go_enter Tryz.func63, Tryz.ntmps63
    go_wp2
    go_ret
    exact ⟨rfl, HB.out⟩

set_option maxRecDepth 100000 in
theorem counts_any (S : Nat) (last kd pg sq ep : Int) (w : World) (hS : w.cell? ⟨S, 3, none⟩ = some (.int .u64 last)) :
    Calls Tryz.prog 64 #[.pointer (some ⟨S, 0, none⟩), tg kd pg sq ep] w fun e w' => e = .returned (.bool (cts last kd ep)) ∧ Below w.heap.size w w' := by
  have hB1 : Below w.heap.size w (w.alloc (.cells #[.int .i64 kd, .int .u32 pg, .int .u64 sq, .int .u64 ep] 61)) := (Below.refl _ _).alloc (Nat.le_refl _) _
  have hb : Blk (w.alloc (.cells #[.int .i64 kd, .int .u32 pg, .int .u64 sq, .int .u64 ep] 61)) w.heap.size 61 #[.int .i64 kd, .int .u32 pg, .int .u64 sq, .int .u64 ep] := heap_alloc_new w _
  have c0 := hb.cell 0
  have c3 := hb.cell 3
  have s3 := (hB1.cell (block_lt_of_cell hS)).trans hS
  have HB := Lib.hid hB1.drew
  clear hb hB1
  unfold tg cts
  by_cases hk : kd = 2
  · subst hk
    rw [if_pos rfl]
    generalize hq : decide (ep = last) = r
    have hq2 : (ep == last) = r := by
      rw [← hq]
      by_cases e : ep = last <;> simp [e]
    go_enter Tryz.func64, Tryz.ntmps64
    go_wp2_with fail
    go_region_held3 (fun w' => w'.cell? ⟨S, 3, none⟩ = some (.int .u64 last) ∧ w'.cell? ⟨w.heap.size, 3, none⟩ = some (.int .u64 ep)) ((go_keep)) ((fail))
    go_wp2
    go_ret
    exact ⟨rfl, HB.out⟩
  · rw [if_neg hk]
    have hk2 : (kd == 2) = false := beq_false_of_ne hk
    generalize hq : decide (ep ≤ last) = r
    go_enter Tryz.func64, Tryz.ntmps64
    go_wp2_with fail
    go_region_held3 (fun w' => w'.cell? ⟨S, 3, none⟩ = some (.int .u64 last) ∧ w'.cell? ⟨w.heap.size, 3, none⟩ = some (.int .u64 ep)) ((go_keep)) ((fail))
    go_wp2
    go_ret
    exact ⟨rfl, HB.out⟩

set_option maxRecDepth 100000 in
set_option maxHeartbeats 1000000 in
theorem sgreatest_any {w : World} {B S gF gE nb : Nat} {s : Sn} (h : ScAt w B S gF gE nb s) (hL : s.L.length ≤ 5000) :
    Calls Tryz.prog 31 #[.pointer (some ⟨S, 0, none⟩)] w fun e w' => e = .returned (.tuple #[.int .u64 (mxs s.L 0), .int .u64 (mxe s.L 0)]) ∧ Below w.heap.size w w' := by
  obtain ⟨v, hb, hr⟩ := h.blk
  obtain ⟨A, cp, rfl⟩ := hr.form
  have c0 := hb.cell 0
  change _ = some (Value.slice A s.L.length cp) at c0
  have HR := Lib.hid hr
  clear h hb hr
  obtain ⟨n, hn⟩ : ∃ n, s.L.length = n := ⟨_, rfl⟩
  have HN := Lib.hid hn
  rw [hn] at c0 hL
  clear hn
  go_enter Tryz.func31, Tryz.ntmps31
  go_wp2_with fail
  go_loopw [4, 5, 13] (fun a b i wr => ∃ k : Nat, k ≤ n ∧ i = .int .i64 k ∧ a = .int .u64 (mxs (s.L.take k) 0) ∧ b = .int .u64 (mxe (s.L.take k) 0) ∧ Below w.heap.size w wr) (fun _ _ i _ => n - (intOf i).toNat)
  case atStart => exact ⟨0, by omega, rfl, rfl, rfl, Below.refl _ _⟩
  case round =>
    obtain ⟨k, hk, rfl, rfl, rfl, hbw⟩ := hrel
    by_cases hlt : k < n
    · have hkl : k < s.L.length := by rw [HN.out]; exact hlt
      obtain ⟨g, c, e1, hat⟩ := HR.out.at hkl
      injection e1 with e1 _ ec
      subst e1
      subst ec
      have hS1 : Hid (mxs (s.L.take (k + 1)) 0 = max (mxs (s.L.take k) 0) s.L[k].sq) := Lib.hid (by rw [List.take_succ_eq_append_getElem hkl, mxs_snoc])
      have hS2 : Hid (mxe (s.L.take (k + 1)) 0 = max (mxe (s.L.take k) 0) s.L[k].ep) := Lib.hid (by rw [List.take_succ_eq_append_getElem hkl, mxe_snoc])
      generalize s.L[k] = f at hat hS1 hS2
      generalize mxs (s.L.take k) 0 = a at hS1 ⊢
      generalize mxe (s.L.take k) 0 = b at hS2 ⊢
      obtain ⟨fk, fi, fd, fp, fs, fe⟩ := f
      obtain ⟨d0, d1, d2, d3, d4, d5⟩ := hat
      have e0 := (hbw.cell (block_lt_of_cell d0)).trans d0
      have e1 := (hbw.cell (block_lt_of_cell d1)).trans d1
      have e2 := (hbw.cell (block_lt_of_cell d2)).trans d2
      have e3 := (hbw.cell (block_lt_of_cell d3)).trans d3
      have e4 := (hbw.cell (block_lt_of_cell d4)).trans d4
      have e5 := (hbw.cell (block_lt_of_cell d5)).trans d5
      have kl : (k : Int) < (n : Int) := by omega
      have HB := Lib.hid (hbw.alloc hbw.size (.cells #[.int .i64 fk, .int .i64 fi, .int .i64 fd, .int .u32 fp, .int .u64 fs, .int .u64 fe] 124))
      clear d0 d1 d2 d3 d4 d5 hbw
      go_wp2
      go_roundw
      case rel => exact ⟨k + 1, by omega, by go_num, by rw [hS1.out, if_mx], by rw [hS2.out, if_mx], HB.out⟩
      case measure => simp [intOf]; omega
    · have kl : ¬ (k : Int) < (n : Int) := by omega
      have e : s.L.take k = s.L := List.take_of_length_le (by rw [HN.out]; omega)
      rw [e]
      have HB := Lib.hid hbw
      clear hbw e
      go_wp2
      go_ret2
      exact ⟨rfl, HB.out⟩
end Go.Proofs.YtbfifppdcmimaaaGreat
