/-
  A manager that is not there, and one of no chip: what each call answers of none. Nothing of one statement alone stands here.
-/
import Derived.Test.YtbfifppdcmimaaaGreatProg
import Derived.Test.YtbfifppdcmimaaaGreatKA
import Derived.Test.YtbfifppdcmimaaaGreatKC
import Derived.Test.YtbfifppdcmimaaaGreatKJ
import Derived.Test.YtbfifppdcmimaaaGreatKI
import Derived.Test.YtbfifppdcmimaaaGreatKB
import Derived.Lib.Hide
import Derived.Below
import Derived.WalkMore
import Derived.OwnWalk
namespace Go.Proofs.YtbfifppdcmimaaaGreat
open Go.RowKit Go.ChangeShapes

set_option maxRecDepth 100000 in
theorem bnil_up (w : World) : Calls Tryz.prog 134 #[.pointer none] w fun e w' => e = .returned (.int .i64 3) ∧ w = w' := by
  go_enter Tryz.func134, Tryz.ntmps134
  go_wp2
  go_ret
  exact ⟨rfl, rfl⟩
set_option maxRecDepth 100000 in
theorem bnil_needless (w : World) (k : Int) : Calls Tryz.prog 147 #[.pointer none, .int .i64 k] w fun e w' => e = .returned (.tuple #[.pointer none, .int .i64 3]) ∧ w = w' := by
  have H := Lib.hid (bnil_up w)
  go_enter Tryz.func147, Tryz.ntmps147
  go_wp2_with fail
  refine H.out.mono ?_
  rintro r w' ⟨rfl, rfl⟩
  go_wp2
  go_ret2
  exact ⟨rfl, rfl⟩
set_option maxRecDepth 100000 in
theorem bnil_program (w : World) (a : Option Addr) (n c : Nat) : Calls Tryz.prog 104 #[.pointer none, .slice a n c] w fun e w' => e = .returned (.tuple #[.int .i64 0, .int .i64 0, .int .i64 3]) ∧ w = w' := by
  have H := Lib.hid (bnil_up w)
  go_enter Tryz.func104, Tryz.ntmps104
  go_wp2_with fail
  go_step3
  go_wp2_with fail
  refine H.out.mono ?_
  rintro r w' ⟨rfl, rfl⟩
  go_wp2
  rw [Exit.noGoto_ret]
  go_ret3
  exact ⟨rfl, rfl⟩
set_option maxRecDepth 100000 in
theorem bnil_drop (w : World) (k : Int) : Calls Tryz.prog 70 #[.pointer none, .int .i64 k] w fun e w' => e = .returned (.int .i64 3) ∧ w = w' := by
  go_enter Tryz.func70, Tryz.ntmps70
  go_wp2
  go_ret
  exact ⟨rfl, rfl⟩
set_option maxRecDepth 100000 in
theorem bnil_erase (w : World) (k : Int) : Calls Tryz.prog 150 #[.pointer none, .int .i64 k] w fun e w' => e = .returned (.int .i64 3) ∧ w = w' := by
  have H := Lib.hid (bnil_needless w k)
  go_enter Tryz.func150, Tryz.ntmps150
  go_wp2_with fail
  refine H.out.mono ?_
  rintro r w' ⟨rfl, rfl⟩
  go_wp2
  go_ret
  exact ⟨rfl, rfl⟩
set_option maxRecDepth 100000 in
theorem bnil_retire (w : World) (k : Int) : Calls Tryz.prog 123 #[.pointer none, .int .i64 k] w fun e w' => e = .returned (.int .i64 3) ∧ w = w' := by
  have H := Lib.hid (bnil_needless w k)
  go_enter Tryz.func123, Tryz.ntmps123
  go_wp2_with fail
  refine H.out.mono ?_
  rintro r w' ⟨rfl, rfl⟩
  go_wp2
  go_ret
  exact ⟨rfl, rfl⟩
set_option maxRecDepth 100000 in
theorem bnil_next (w : World) : Calls Tryz.prog 103 #[.pointer none] w fun e w' => e = .returned (.agg #[.int .i64 0, .int .i64 (-1)]) ∧ Below w.heap.size w w' := by
  go_enter Tryz.func103, Tryz.ntmps103
  go_wp2
  exact bodyPost_ret (v := .agg #[.int .i64 0, .int .i64 (-1)]) (by simp [results, Tryz.results103, go_sem]) rfl ⟨rfl, (Below.refl _ w).alloc (Nat.le_refl _) _⟩
set_option maxRecDepth 100000 in
theorem bnil_room (w : World) : Calls Tryz.prog 133 #[.pointer none] w fun e w' => e = .returned (.int .i64 0) ∧ w = w' := by
  go_enter Tryz.func133, Tryz.ntmps133
  go_wp2
  go_ret
  exact ⟨rfl, rfl⟩
set_option maxRecDepth 100000 in
theorem bnil_free (w : World) : Calls Tryz.prog 131 #[.pointer none] w fun e w' => e = .returned (.int .i64 0) ∧ w = w' := by
  go_enter Tryz.func131, Tryz.ntmps131
  go_wp2
  go_ret
  exact ⟨rfl, rfl⟩
set_option maxRecDepth 100000 in
theorem bnil_left (w : World) : Calls Tryz.prog 46 #[.pointer none] w fun e w' => e = .returned (.int .i64 0) ∧ w = w' := by
  go_enter Tryz.func46, Tryz.ntmps46
  go_wp2
  go_ret
  exact ⟨rfl, rfl⟩
set_option maxRecDepth 100000 in
theorem bnil_open (w : World) (f l : Value) (r b : Int) : Calls Tryz.prog 59 #[.pointer none, f, l, .int .i64 r, .int .i64 b] w fun e w' => e = .returned (.tuple #[.pointer none, .int .i64 3]) ∧ w = w' := by
  go_enter Tryz.func59, Tryz.ntmps59
  go_wp2
  go_ret2
  exact ⟨rfl, rfl⟩
set_option maxRecDepth 100000 in
theorem bnil_all (w : World) : Calls Tryz.prog 83 #[.pointer none] w fun e w' => e = .returned (.func (.func 112) #[] #[.pointer (some ⟨w.heap.size, 0, none⟩)]) ∧ w' = w.alloc (.cells #[.slice none 0 0] 119) := by
  go_enter Tryz.func83, Tryz.ntmps83
  go_wp2
  go_ret
  exact ⟨rfl, rfl⟩
end Go.Proofs.YtbfifppdcmimaaaGreat

/-
  A manager is opened: whether its blocks can be so. Nothing of one statement alone stands here.
-/
namespace Go.Proofs.YtbfifppdcmimaaaGreat
open Go.RowKit Crcm Gcm Go.ChangeShapes

/-- what came in of each block: whether it is fresh, how much of it is needed -/
structure FrLv (w : World) (nb np : Nat) (f : Nat → Bool) (lv : Nat → Int) (fb fo lb lo : Nat) : Prop where
  fr : ∀ j, j < nb → w.cell? ⟨fb, fo + j, none⟩ = some (.bool (f j))
  li : ∀ j, j < nb → w.cell? ⟨lb, lo + j, none⟩ = some (.int .i64 (lv j))
  ok : ∀ j, j < nb → 0 ≤ lv j ∧ lv j ≤ np ∧ (f j = true → lv j = 0)
theorem FrLv.below {w w' : World} {nb np : Nat} {f : Nat → Bool} {lv : Nat → Int} {fb fo lb lo : Nat} (h : FrLv w nb np f lv fb fo lb lo) (hb : Below w.heap.size w w') : FrLv w' nb np f lv fb fo lb lo :=
  ⟨fun j hj => (hb.cell (p := ⟨fb, fo + j, none⟩) (block_lt_of_cell (h.fr j hj))).trans (h.fr j hj), fun j hj => (hb.cell (p := ⟨lb, lo + j, none⟩) (block_lt_of_cell (h.li j hj))).trans (h.li j hj), h.ok⟩

set_option maxRecDepth 100000 in
set_option maxHeartbeats 1000000 in
theorem openable_yes (nb np sz : Nat) (hn : nb < 129) (f : Nat → Bool) (lv : Nat → Int) (fb fo c1 lb lo c2 : Nat) (w : World) (h : FrLv w nb np f lv fb fo lb lo) :
    Calls Tryz.prog 81 #[.agg #[.int .i64 nb, .int .i64 np, .int .i64 sz], .slice (some ⟨fb, fo, none⟩) nb c1, .slice (some ⟨lb, lo, none⟩) nb c2] w fun e w' => e = .returned (.bool true) ∧ Below w.heap.size w w' := by
  have HH := Lib.hid h
  clear h
  go_enter Tryz.func81, Tryz.ntmps81
  go_wp2_with fail
  go_loopw [23] (fun i wr => ∃ k : Nat, k ≤ nb ∧ i = .int .i64 k ∧ wr = w.alloc (.cells #[.int .i64 nb, .int .i64 np, .int .i64 sz] 38)) (fun i _ => nb - (intOf i).toNat)
  case atStart => exact ⟨0, by omega, rfl, rfl⟩
  case round =>
    obtain ⟨k, hk, rfl, rfl⟩ := hrel
    by_cases hlt : k < nb
    · have d0 := cell_alloc (HH.out.fr k hlt) (.cells #[.int .i64 nb, .int .i64 np, .int .i64 sz] 38)
      have d1 := cell_alloc (HH.out.li k hlt) (.cells #[.int .i64 nb, .int .i64 np, .int .i64 sz] 38)
      obtain ⟨h0, h1, h2⟩ := HH.out.ok k hlt
      generalize f k = fk at d0 h2
      generalize lv k = x at d1 h0 h1 h2
      cases fk with
      | true =>
        have := h2 rfl
        subst this
        clear h2 h0
        go_wp2
        go_roundw
        case rel => exact ⟨k + 1, by omega, by go_num, trivial⟩
        case measure => simp [intOf]; omega
      | false =>
        clear h2
        go_wp2
        go_roundw
        case rel => exact ⟨k + 1, by omega, by go_num, trivial⟩
        case measure => simp [intOf]; omega
    · have : k = nb := by omega
      subst this
      go_wp2
      go_ret
      exact ⟨rfl, (Below.refl _ _).alloc (Nat.le_refl _) _⟩
end Go.Proofs.YtbfifppdcmimaaaGreat

/-
  A manager in memory, and its calls that only tell. Nothing of one statement alone stands here.
-/
namespace Go.Proofs.YtbfifppdcmimaaaGreat
open Go.RowKit Crcm Gcm Go.ChangeShapes

/-- a manager -/
structure Mg where
  cp : Value
  g : Nat
  cap : Nat
  l : List Bk
  r : Int
  b : Int
  ap : Bool
def mgV (m : Mg) : Array Value := #[m.cp, .slice (some ⟨m.g, 0, none⟩) m.l.length m.cap, .int .i64 m.r, .int .i64 m.b, .bool m.ap]
/-- a manager in memory -/
structure MgAt (w : World) (M : Nat) (m : Mg) : Prop where
  blk : Blk w M 133 (mgV m)
  own : OwnB w m.g m.l
  wf : ∀ x ∈ m.l, Bw x
  small : m.l.length ≤ 1000
  ne : M ≠ m.g
theorem MgAt.rg {w : World} {M : Nat} {m : Mg} (h : MgAt w M m) : Rg w (some ⟨m.g, 0, none⟩) m.l := h.own.rg h.wf (by have := h.small; unfold maxLen; omega)
theorem MgAt.below {w w' : World} {M : Nat} {m : Mg} (h : MgAt w M m) (hb : Below w.heap.size w w') : MgAt w' M m :=
  ⟨h.blk.below hb h.blk.lt, h.own.below hb h.own.lt, h.wf, h.small, h.ne⟩
theorem MgAt.cells {w : World} {M : Nat} {m : Mg} (h : MgAt w M m) :
    w.cell? ⟨M, 0, none⟩ = some m.cp ∧ w.cell? ⟨M, 1, none⟩ = some (.slice (some ⟨m.g, 0, none⟩) m.l.length m.cap) ∧ w.cell? ⟨M, 2, none⟩ = some (.int .i64 m.r) ∧ w.cell? ⟨M, 3, none⟩ = some (.int .i64 m.b) ∧ w.cell? ⟨M, 4, none⟩ = some (.bool m.ap) :=
  ⟨h.blk.cell 0, h.blk.cell 1, h.blk.cell 2, h.blk.cell 3, h.blk.cell 4⟩

set_option maxRecDepth 100000 in
theorem bfree_any {w : World} {M : Nat} {m : Mg} (h : MgAt w M m) : Calls Tryz.prog 131 #[.pointer (some ⟨M, 0, none⟩)] w fun e w' => e = .returned (.int .i64 (cnt 0 m.l m.l.length)) ∧ Below w.heap.size w w' := by
  obtain ⟨c0, c1, c2, c3, c4⟩ := h.cells
  have HC := Lib.hid (count_any m.l (some ⟨m.g, 0, none⟩) m.cap m.l.length 0 w h.rg rfl)
  generalize m.l.length = n at c1 HC ⊢
  clear h
  go_enter Tryz.func131, Tryz.ntmps131
  go_wp2_with fail
  refine HC.out.mono ?_
  rintro r w' ⟨rfl, hb⟩
  go_wp2
  go_ret
  exact ⟨rfl, hb⟩

/-- wear as the chip has it, of the first ones -/
def wk (f : Nat → Int) (l : List Bk) : Nat → List Bk
  | 0 => l
  | k + 1 => (wk f l k).set k (setf (wk f l k)[k]! 2 (f k))
theorem wk_length (f : Nat → Int) (l : List Bk) (k : Nat) : (wk f l k).length = l.length := by
  induction k with
  | zero => rfl
  | succ k ih => rw [wk, List.length_set, ih]

set_option maxRecDepth 100000 in
set_option maxHeartbeats 1000000 in
theorem worn_any {w : World} {X : Nat → Prop} {M : Nat} {m : Mg} {o : Own} {c : Ch} (h : MgAt w M m) (hc : ChAt w X o c) (hp : m.cp = o.p) (hn : m.l.length = c.nb) :
    Calls Tryz.prog 82 #[.pointer (some ⟨M, 0, none⟩)] w fun e w' => ∃ g cap, e = .returned (.slice (some ⟨g, 0, none⟩) c.nb cap) ∧ w.heap.size ≤ g ∧ OwnB w' g (wk c.wear m.l c.nb) ∧ Below w.heap.size w w' := by
  obtain ⟨c0, c1, -, -, -⟩ := h.cells
  have hnb := hc.good.2.1
  have hn0 := hc.good.1
  have HCl := Lib.hid (bclone_any m.l m.g 0 m.cap c.nb w (fun j hj => by rw [Nat.zero_add]; exact h.own.at j hj) hn (by omega) (by omega))
  have HN := Lib.hid hn
  have HW := Lib.hid (fun W (hb : Below w.heap.size w W) k (hk : k < c.nb) => wear_any (hc.below hb) k hk)
  have hM := h.blk.lt
  have HM := Lib.hid hM
  rw [hn] at c1
  rw [hp] at c0
  clear h hc hn hp
  unfold Own.p at c0 HW
  generalize c.nb = n at HCl HN HW c1 hnb hn0 ⊢
  go_enter Tryz.func82, Tryz.ntmps82
  go_wp2_with fail
  refine HCl.out.mono ?_
  rintro r w1 ⟨g, cp, rfl, hg, hcap, hO, hb⟩
  have HO := Lib.hid hO
  have HB := Lib.hid hb
  have HG := Lib.hid hg
  clear hO hb HCl hM hg
  go_wp2_with fail
  go_loopw [12] (fun i wr => ∃ k : Nat, k ≤ n ∧ i = .int .i64 k ∧ Hid (OwnB wr g (wk c.wear m.l k)) ∧ Hid (Below w.heap.size w wr)) (fun i _ => n - (intOf i).toNat)
  case atStart => exact ⟨0, by omega, rfl, HO, HB⟩
  case round =>
    obtain ⟨k, hk, rfl, D, E⟩ := hrel
    by_cases hlt : k < n
    · have hkl : k < (wk c.wear m.l k).length := by rw [wk_length, HN.out]; exact hlt
      have d0 := (E.out.cell (p := ⟨M, 0, none⟩) HM.out).trans c0
      have d1 := (E.out.cell (p := ⟨M, 1, none⟩) HM.out).trans c1
      have e2 := (D.out.at k hkl).2.2.1
      have f2 := D.out.frozen (k * 4 + 2)
      have HWk := Lib.hid (HW.out wr E.out k hlt)
      have D2 := Lib.hid (D.out.putf k 2 hkl (by omega) (c.wear k))
      have E2 := Lib.hid (E.out.setCell (p := ⟨g, k * 4 + 2, none⟩) HG.out (.int .i64 (c.wear k)))
      have HWn : Hid ((wk c.wear m.l k).set k (setf (wk c.wear m.l k)[k]! 2 (c.wear k)) = wk c.wear m.l (k + 1)) := Lib.hid rfl
      rw [HWn.out] at D2
      clear D hkl HWn
      generalize (wk c.wear m.l k)[k]!.wr = x at e2
      generalize c.wear k = y at HWk D2 E2
      go_wp2_with fail
      refine HWk.out.mono ?_
      rintro r w' ⟨rfl, rfl⟩
      go_wp2
      go_roundw
      case rel => exact ⟨k + 1, by omega, by go_num, D2, E2⟩
      case measure => simp [intOf]; omega
    · have : k = n := by omega
      subst this
      go_wp2
      go_ret
      exact ⟨g, cp, rfl, HG.out, D.out, E.out⟩
end Go.Proofs.YtbfifppdcmimaaaGreat
