/-
  The slot of a name: the program's answer. Nothing of one statement alone stands here.
-/
import Derived.Test.YtbgimehbencdgaaDirIter
import Derived.WalkMore
import Derived.RangeFuncNested
import Derived.RegionIn
import Derived.Stop.RegionWithIn
import Derived.Sort.QuietTacIn
import Derived.Sort.BigQuietIn
import Derived.Sort.CutIn
namespace Go.Proofs.Ytbgimehbencdgaa
open Go.RowKit Go.Shelf Crcm Tagm Dirm Go.ChangeShapes

attribute [local go_sem] Oper.semAt_some

/-- the first entry of a name -/
def fdL (s : ByteArray) : List (Int × Int × ByteArray) → Int × Int
  | [] => (-1, 0)
  | x :: r => if x.2.2 = s then (x.1, x.2.1) else fdL s r
def fd (l : List Int) (s : ByteArray) : Int × Int := fdL s (en l)
theorem fdL_none {s : ByteArray} : ∀ {pre : List (Int × Int × ByteArray)}, (∀ x ∈ pre, x.2.2 ≠ s) → fdL s pre = (-1, 0)
  | [], _ => rfl
  | x :: r, h => by rw [fdL, if_neg (h x (by simp))]; exact fdL_none (fun y hy => h y (by simp [hy]))
theorem fdL_at {s : ByteArray} {x : Int × Int × ByteArray} {r : List (Int × Int × ByteArray)} (hx : x.2.2 = s) : ∀ {pre : List (Int × Int × ByteArray)}, (∀ x ∈ pre, x.2.2 ≠ s) → fdL s (pre ++ x :: r) = (x.1, x.2.1)
  | [], _ => by rw [List.nil_append, fdL, if_pos hx]
  | y :: q, h => by rw [List.cons_append, fdL, if_neg (h y (by simp))]; exact fdL_at hx (fun z hz => h z (by simp [hz]))

theorem cell_lt8 {w : World} {a : Addr} {v : Value} (h : w.cell? a = some v) : a.block < w.heap.size := by
  rcases Nat.lt_or_ge a.block w.heap.size with h1 | h1
  · exact h1
  · simp [World.cell?, Array.getElem?_eq_none h1] at h
theorem blk_ownF {β : Type} (B p : Nat) (t : TypeId) (cs : Array Value) : OwnFrom B (fun (_ : β) W => Blk W p t cs) := fun s W W' row hs hg hr => by
  have hlt := Blk.lt hs
  refine (hg.block p hlt (fun e => ?_)).trans hs
  obtain ⟨_, o, ho, hn⟩ := hr p (by first | exact e | exact e.symm)
  unfold Blk at hs
  rw [hs] at ho
  cases ho
  simp [Obj.isCells] at hn

set_option maxRecDepth 100000 in
set_option maxHeartbeats 2000000 in
theorem find_any (l : List Int) (s : ByteArray) (a : Option Addr) (m c : Nat) (w : World) (hr : Rw w a l) (hl : l.length = m) (hmc : m ≤ c) (c1 : c ≤ 9223372036854775807) :
    Calls Try.prog 23 #[.slice a m c, .string s] w fun e w' => e = .returned (.tuple #[.int .i64 (fd l s).1, .int .i64 (fd l s).2]) ∧ Below w.heap.size w w' := by
  have HO := Lib.hid (fun w => (callsIn_wide (n := 5)).1 (entriesOf_in 5 a m c w))
  refine (callsIn_wide (n := 5)).1 ?_
  refine callsIn_of_wp_marks Try.func23 rfl trivial ?_ rfl
  simp only [Try.ntmps23, List.size_toArray, List.length_cons, List.length_nil, Nat.reduceAdd, Nat.reduceSub, Array.replicate_succ, Array.replicate_zero, List.push_toArray, List.append_toArray, List.nil_append, List.cons_append]
  refine wpIn_wide.2 ?_
  go_wp2_with fail
  refine (HO.out _).mono ?_
  rintro e w' ⟨rfl, rfl⟩
  go_wp2_with fail
  obtain ⟨S, hS⟩ : ∃ S, w.heap.size = S := ⟨_, rfl⟩
  obtain ⟨W4, hW4⟩ : ∃ W4, ((((w.alloc (.cells #[.string s] 9)).alloc (.cells #[.int .i64 0] 3)).alloc (.cells #[.int .i64 0] 3)).alloc (.cells #[.slice a m c] 24)) = W4 := ⟨_, rfl⟩
  have hz4 : W4.heap.size = S + 4 := by rw [← hW4]; simp; omega
  have hB4 : Below w.heap.size w W4 := by rw [← hW4]; exact ((((Below.refl _ w).alloc (Nat.le_refl _) _).alloc (by simp) _).alloc (by simp; omega) _).alloc (by simp; omega) _
  have bN : Blk W4 S 9 #[.string s] := by rw [← hW4, ← hS]; exact (((Blk.new _ _ _).alloc _).alloc _).alloc _
  have bA : Blk W4 (S + 1) 3 #[.int .i64 0] := by
    have := ((Blk.new (w.alloc (.cells #[.string s] 9)) 3 #[.int .i64 0]).alloc (.cells #[.int .i64 0] 3)).alloc (.cells #[.slice a m c] 24)
    rw [World.size_alloc, hS, hW4] at this; exact this
  have bB : Blk W4 (S + 1 + 1) 3 #[.int .i64 0] := by
    have := (Blk.new ((w.alloc (.cells #[.string s] 9)).alloc (.cells #[.int .i64 0] 3)) 3 #[.int .i64 0]).alloc (.cells #[.slice a m c] 24)
    rw [World.size_alloc, World.size_alloc, hS, hW4] at this; exact this
  have bC : Blk W4 (S + 1 + 1 + 1) 24 #[.slice a m c] := by
    have := Blk.new (((w.alloc (.cells #[.string s] 9)).alloc (.cells #[.int .i64 0] 3)).alloc (.cells #[.int .i64 0] 3)) 24 #[.slice a m c]
    rw [World.size_alloc, World.size_alloc, World.size_alloc, hS, hW4] at this; exact this
  have r4 := hr.below hB4
  obtain ⟨b, hb, hbl⟩ : ∃ b, (l = [] ∨ ∃ off, a = some ⟨b, off, none⟩) ∧ b < W4.heap.size := by
    by_cases e : l = []
    · exact ⟨S, .inl e, by omega⟩
    · obtain ⟨b, off, rfl, hcl⟩ := r4.at (j := 0) (List.length_pos_iff.2 e)
      exact ⟨b, .inr ⟨off, rfl⟩, cell_lt8 hcl⟩
  rw [hS, hW4]
  have HSeq := Lib.hid (entries_stops 4 (by omega) (S + 1 + 1 + 1) b l a m c hl hmc c1 W4 (by omega) hbl (bC.cell 0) r4 hb)
  have hK3 : ∀ W : World, Below W4.heap.size W4 W → S + 1 + 1 + 1 < W.heap.size ∧ b < W.heap.size := fun W h => ⟨by have := h.size; omega, by have := h.size; omega⟩
  refine (wpIn_wide (n := 5)).1 ?_
  refine wpIn_rangeFunc_ownH rfl (by omega) (gf := 38) (lb := #[.pointer (some ⟨S + 1 + 1 + 1, 0, none⟩)]) rfl trivial (enters_of Try.func38 (by kernel_rfl) rfl)
    HSeq.out KB.trans (fun W y o o' hy ho _ _ => ⟨World.putObj_heap_other (by omega), World.putObj_heap_other (by omega)⟩) (Below.refl _ _) (fun _ => rfl)
    (fun pre W => (∀ x ∈ pre, x.2.2 ≠ s) ∧ Below W4.heap.size W4 W)
    (fun cc pre W => (cc = .ret ∧ ∃ q x, pre = q ++ [x] ∧ x.2.2 = s ∧ ∀ y ∈ q, y.2.2 ≠ s) ∧ Boxed W (S + 1) 3 (.int .i64 (fdL s pre).1) ∧ Boxed W (S + 1 + 1) 3 (.int .i64 (fdL s pre).2) ∧ Below S w W)
    (OwnFrom.and (ownFrom_pure _ _) (ownFrom_below (Nat.le_refl _) (Nat.le_refl _)))
    (fun cc => OwnFrom.and (ownFrom_pure _ _) (OwnFrom.and (Own.from (boxed_own (S + 1) 3 (fun pre => .int .i64 (fdL s pre).1)) _) (OwnFrom.and (Own.from (boxed_own (S + 1 + 1) 3 (fun pre => .int .i64 (fdL s pre).2)) _) (ownFrom_below (by omega) (by omega)))))
    ⟨by simp, Below.refl _ _⟩
    (fun x a' W => ∃ p, a' = { tmps := #[.slice a m c, .string s, undef, .pointer (some ⟨S, 0, none⟩), .pointer (some ⟨S + 1, 0, none⟩), .pointer (some ⟨S + 1 + 1, 0, none⟩), .int .i64 x.1, .pointer (some ⟨p, 0, none⟩), .slice a m c, .func (.func 38) #[] #[.pointer (some ⟨S + 1 + 1 + 1, 0, none⟩)], .int .i64 x.1, .agg #[.int .i64 x.2.1, .string x.2.2], undef, undef, undef, undef, undef, undef, undef], defers := [] } ∧ Blk W p 23 #[.int .i64 x.2.1, .string x.2.2] ∧ W4.heap.size ≤ p)
    (fun x a' _ W W' row ⟨p, e, hb, hp⟩ hg hr => ⟨p, e, blk_ownF (β := Unit) _ p _ _ () W W' row hb hg hr, hp⟩) ?assign ?body ?done ?stop
  case assign =>
    rintro y pre x W K ⟨hp, hB⟩ hK
    gi_wp2
    have h3 := hK3 W hB
    exact hK _ _ (KeepsFrom.of_grownBy (World.grownBy_alloc W _ none) (fun r e => by cases e)) ⟨Below.heap_alloc _ _ _ h3.1, Below.heap_alloc _ _ _ h3.2⟩ ⟨hp, hB.alloc hB.size _⟩ ⟨W.heap.size, rfl, Blk.new _ _ _, hB.size⟩
  case body =>
    rintro y pre x a' W hy hlp ⟨hp, hB⟩ ⟨p, rfl, hbk, hpz⟩ hlt
    have hne1 : ¬ p = S + 1 := by omega
    have hne2 : ¬ S + 1 = p := by omega
    have hne3 : ¬ p = S + 1 + 1 := by omega
    have hne4 : ¬ S + 1 + 1 = p := by omega
    have hc1 : W.cell? ⟨p, 0, none⟩ = some (.int .i64 x.2.1) := hbk.cell 0
    have hc2 : W.cell? ⟨p, 1, none⟩ = some (.string x.2.2) := hbk.cell 1
    have hcs : W.cell? ⟨S, 0, none⟩ = some (.string s) := (hB.cell (p := ⟨S, 0, none⟩) (by show S < W4.heap.size; omega)).trans (bN.cell 0)
    have hlA : S + 1 < W4.heap.size := by omega
    have hlB : S + 1 + 1 < W4.heap.size := by omega
    have hA : Boxed W (S + 1) 3 (.int .i64 0) := (hB.block _ hlA).trans bA
    have hBb : Boxed W (S + 1 + 1) 3 (.int .i64 0) := (hB.block _ hlB).trans bB
    by_cases hx : x.2.2 = s
    · have t1 := str_eq hx
      have ca := hA.cell
      have cb := hBb.cell
      have fa := hA.frozen
      have fb := hBb.frozen
      have e2 : fdL s (pre ++ [x]) = (x.1, x.2.1) := fdL_at hx hp
      have k1 : KeepsFrom W4.heap.size W ((W.setCell ⟨S + 1, 0, none⟩ (.int .i64 x.1)).setCell ⟨S + 1 + 1, 0, none⟩ (.int .i64 x.2.1)) := ((KeepsOthers.setCell W ⟨S + 1, 0, none⟩ (.int .i64 x.1)).from _).trans ((KeepsOthers.setCell _ ⟨S + 1 + 1, 0, none⟩ (.int .i64 x.2.1)).from _)
      have d1 : Boxed ((W.setCell ⟨S + 1, 0, none⟩ (.int .i64 x.1)).setCell ⟨S + 1 + 1, 0, none⟩ (.int .i64 x.2.1)) (S + 1) 3 (.int .i64 x.1) := (hA.set _).other (by omega) _
      have d2 : Boxed ((W.setCell ⟨S + 1, 0, none⟩ (.int .i64 x.1)).setCell ⟨S + 1 + 1, 0, none⟩ (.int .i64 x.2.1)) (S + 1 + 1) 3 (.int .i64 x.2.1) := (hBb.other (by omega) _).set _
      have b1 : Below S w ((W.setCell ⟨S + 1, 0, none⟩ (.int .i64 x.1)).setCell ⟨S + 1 + 1, 0, none⟩ (.int .i64 x.2.1)) := ((((hS ▸ hB4 : Below S w W4)).trans (hB.mono (by omega))).setCell (p := ⟨S + 1, 0, none⟩) (by show S ≤ S + 1; omega) _).setCell (p := ⟨S + 1 + 1, 0, none⟩) (by show S ≤ S + 1 + 1; omega) _
      have HF : Hid (KeepsFrom W4.heap.size W ((W.setCell ⟨S + 1, 0, none⟩ (.int .i64 x.1)).setCell ⟨S + 1 + 1, 0, none⟩ (.int .i64 x.2.1)).drew ∧ Boxed ((W.setCell ⟨S + 1, 0, none⟩ (.int .i64 x.1)).setCell ⟨S + 1 + 1, 0, none⟩ (.int .i64 x.2.1)).drew (S + 1) 3 (.int .i64 (fdL s (pre ++ [x])).1) ∧ Boxed ((W.setCell ⟨S + 1, 0, none⟩ (.int .i64 x.1)).setCell ⟨S + 1 + 1, 0, none⟩ (.int .i64 x.2.1)).drew (S + 1 + 1) 3 (.int .i64 (fdL s (pre ++ [x])).2) ∧ Below S w ((W.setCell ⟨S + 1, 0, none⟩ (.int .i64 x.1)).setCell ⟨S + 1 + 1, 0, none⟩ (.int .i64 x.2.1)).drew) := Lib.hid (by rw [e2]; exact ⟨⟨k1.size, k1.same⟩, d1, d2, b1.drew⟩)
      clear e2 k1 d1 d2 b1
      gi_wp2_with fail
      gi_region_with (fail)
      all_goals gi_wp2
      all_goals exact ⟨HF.out.1, ⟨rfl, pre, x, rfl, hx, hp⟩, HF.out.2.1, HF.out.2.2.1, HF.out.2.2.2⟩
    · have t1 := str_ne hx
      gi_wp2
      exact ⟨KeepsFrom.refl _ _, ⟨rfl, rfl⟩, fun z hz => (by
        rcases List.mem_append.1 hz with h | h
        · exact hp z h
        · simp at h; subst h; exact hx), hB⟩
  case done =>
    rintro D ys W hD rfl ⟨hp, hB⟩ hK
    have hA : Boxed W (S + 1) 3 (.int .i64 0) := (hB.block _ (by omega)).trans bA
    have hBb : Boxed W (S + 1 + 1) 3 (.int .i64 0) := (hB.block _ (by omega)).trans bB
    have ca := hA.cell
    have cb := hBb.cell
    have fa := hA.frozen
    have fb := hBb.frozen
    go_wp2_with fail
    have hK2 : ((W.setCell ⟨S + 1, 0, none⟩ (.int .i64 (-1))).setCell ⟨S + 1 + 1, 0, none⟩ (.int .i64 0)).heap[D]? = some (.deferred (some [])) := ((Below.heap_setCell _ _ _ _ (by show D ≠ S + 1 + 1; omega)).trans (Below.heap_setCell _ _ _ _ (by show D ≠ S + 1; omega))).trans hK
    have d1 : Boxed ((W.setCell ⟨S + 1, 0, none⟩ (.int .i64 (-1))).setCell ⟨S + 1 + 1, 0, none⟩ (.int .i64 0)) (S + 1) 3 (.int .i64 (-1)) := (hA.set _).other (by omega) _
    have d2 : Boxed ((W.setCell ⟨S + 1, 0, none⟩ (.int .i64 (-1))).setCell ⟨S + 1 + 1, 0, none⟩ (.int .i64 0)) (S + 1 + 1) 3 (.int .i64 0) := (hBb.other (by omega) _).set _
    have e1 : fd l s = (-1, 0) := fdL_none hp
    have bz : Below w.heap.size w ((W.setCell ⟨S + 1, 0, none⟩ (.int .i64 (-1))).setCell ⟨S + 1 + 1, 0, none⟩ (.int .i64 0)) := by rw [hS]; exact (((hS ▸ hB4).trans (hB.mono (by omega))).setCell (p := ⟨S + 1, 0, none⟩) (by show S ≤ S + 1; omega) _).setCell (p := ⟨S + 1 + 1, 0, none⟩) (by show S ≤ S + 1 + 1; omega) _
    have cd1 : (((W.setCell ⟨S + 1, 0, none⟩ (.int .i64 (-1))).setCell ⟨S + 1 + 1, 0, none⟩ (.int .i64 0)).putObj D (.deferred none)).cell? ⟨S + 1, 0, none⟩ = some (.int .i64 (-1)) := (World.cell?_of_block (a := ⟨S + 1, 0, none⟩) (World.putObj_heap_other (by show S + 1 ≠ D; omega))).trans d1.cell
    have cd2 : (((W.setCell ⟨S + 1, 0, none⟩ (.int .i64 (-1))).setCell ⟨S + 1 + 1, 0, none⟩ (.int .i64 0)).putObj D (.deferred none)).cell? ⟨S + 1 + 1, 0, none⟩ = some (.int .i64 0) := (World.cell?_of_block (a := ⟨S + 1 + 1, 0, none⟩) (World.putObj_heap_other (by show S + 1 + 1 ≠ D; omega))).trans d2.cell
    rw [e1]
    refine ⟨by simp, .inl ⟨_, _, rfl, run_takeDeferred hK2, ?_⟩⟩
    refine ⟨.tuple #[.int .i64 (-1), .int .i64 0], by simp [results, Try.results23, go_sem, cd1, cd2], ?_⟩
    exact ⟨rfl, bz.trans (belowK_b (w := w) (Nat.le_refl _) _ D _ _ (by omega) hK2 rfl rfl)⟩
  case stop =>
    rintro D cc pre W hD hpre ⟨⟨rfl, q, x, rfl, hx, hq⟩, h1, h2, hB⟩ hK
    have ca := h1.cell
    have cb := h2.cell
    have e1 : fd l s = (x.1, x.2.1) := by
      obtain ⟨r, hr2⟩ := hpre
      unfold fd
      rw [← hr2, List.append_assoc]
      exact fdL_at hx hq
    have e2 : fdL s (q ++ [x]) = (x.1, x.2.1) := fdL_at hx hq
    rw [e2] at h1 h2 ca cb
    have bz : Below w.heap.size w W := by rw [hS]; exact hB
    refine wpIn_wide.2 ?_
    go_wp2_with fail
    have cd1 : (W.putObj D (.deferred none)).cell? ⟨S + 1, 0, none⟩ = some (.int .i64 x.1) := (World.cell?_of_block (a := ⟨S + 1, 0, none⟩) (World.putObj_heap_other (by show S + 1 ≠ D; omega))).trans ca
    have cd2 : (W.putObj D (.deferred none)).cell? ⟨S + 1 + 1, 0, none⟩ = some (.int .i64 x.2.1) := (World.cell?_of_block (a := ⟨S + 1 + 1, 0, none⟩) (World.putObj_heap_other (by show S + 1 + 1 ≠ D; omega))).trans cb
    refine ⟨by simp, .inl ⟨_, _, rfl, run_takeDeferred hK, ?_⟩⟩
    refine ⟨.tuple #[.int .i64 x.1, .int .i64 x.2.1], by simp [results, Try.results23, go_sem, cd1, cd2], ?_⟩
    exact ⟨rfl, by rw [← hS]; exact bz.trans (belowK_b (w := w) (Nat.le_refl _) _ D _ _ (by omega) hK rfl rfl)⟩

end Go.Proofs.Ytbgimehbencdgaa
