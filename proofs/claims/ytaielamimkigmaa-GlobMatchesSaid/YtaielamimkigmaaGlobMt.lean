/-
  The document's marks over a name: its table.
-/
import Derived.Test.YtaielamimkigmaaGlobMarks
import Derived.Test.YtaielamimkigmaaGlobPart
import Derived.Test.YtaielamimkigmaaGlobBegM
import Derived.BigRegion
namespace Go.Proofs.Ytaielamimkigmaa
open Go.RowKit Go.ChangeShapes Globm Go.ChangeMaps
/-- the beginnings of marks over the beginnings of a name -/
def tb (l : List (Mk Nat)) (s : List Nat) (i k : Nat) : Bool := cv (l.take i) (s.take k) (fun _ => false) 0 0
theorem tb_iff {l : List (Mk Nat)} {s : List Nat} {i k : Nat} : tb l s i k = true ↔ Mt (l.take i) (s.take k) := cv_mt
theorem tb_zero {l : List (Mk Nat)} {s : List Nat} {k : Nat} (h : k ≤ s.length) : tb l s 0 k = decide (k = 0) := by
  rw [Bool.eq_iff_iff, tb_iff, List.take_zero, mt_nil, decide_eq_true_iff]
  constructor
  · intro e
    have := congrArg List.length e
    rw [List.length_take, Nat.min_eq_left h] at this
    exact this
  · rintro rfl; rfl
theorem take_next {α : Type} {l : List α} {i : Nat} {x : α} (h : l[i]? = some x) : l.take (i + 1) = l.take i ++ [x] := by rw [List.take_add_one, h]; rfl
theorem tb_many0 {l : List (Mk Nat)} {s : List Nat} {i : Nat} (h : l[i]? = some .many) : tb l s (i + 1) 0 = tb l s i 0 := by
  rw [Bool.eq_iff_iff, tb_iff, tb_iff, take_next h, List.take_zero, mt_snoc_many_nil]
theorem tb_many {l : List (Mk Nat)} {s : List Nat} {i k : Nat} {x : Nat} (h : l[i]? = some .many) (hx : s[k]? = some x) : tb l s (i + 1) (k + 1) = (tb l s i (k + 1) || tb l s (i + 1) k) := by
  rw [Bool.eq_iff_iff, Bool.or_eq_true, tb_iff, tb_iff, tb_iff, take_next h, take_next hx, mt_snoc_many]
theorem tb_one0 {l : List (Mk Nat)} {s : List Nat} {i : Nat} {P : Nat → Bool} (h : l[i]? = some (.one P)) : tb l s (i + 1) 0 = false := by
  rw [Bool.eq_false_iff, Ne, tb_iff, take_next h, List.take_zero]
  exact mt_snoc_one_nil
theorem tb_one {l : List (Mk Nat)} {s : List Nat} {i k : Nat} {P : Nat → Bool} {x : Nat} (h : l[i]? = some (.one P)) (hx : s[k]? = some x) : tb l s (i + 1) (k + 1) = (tb l s i k && P x) := by
  rw [Bool.eq_iff_iff, Bool.and_eq_true, tb_iff, tb_iff, take_next h, take_next hx, mt_snoc_one]
theorem tb_all {l : List (Mk Nat)} {s : List Nat} : tb l s l.length s.length = cv l s (fun _ => false) 0 0 := by unfold tb; rw [List.take_length, List.take_length]

/-- a row of truths -/
def bN (n : Nat) (f : Nat → Bool) : Array Value := ((List.range n).map fun i => Value.bool (f i)).toArray
theorem bN_size (n : Nat) (f : Nat → Bool) : (bN n f).size = n := by simp [bN]
theorem bN_get {n : Nat} (f : Nat → Bool) {i : Nat} (h : i < n) : (bN n f)[i]? = some (.bool (f i)) := by simp [bN, h]
theorem bN_ext {n : Nat} {f g : Nat → Bool} (h : ∀ i, i < n → f i = g i) : bN n f = bN n g := by
  unfold bN
  congr 1
  exact List.map_congr_left fun i hi => by rw [h i (List.mem_range.1 hi)]
theorem bN_set (n : Nat) (f : Nat → Bool) (i : Nat) (u : Bool) : (bN n f).setIfInBounds i (.bool u) = bN n (fun x => if x = i then u else f x) := by
  apply Array.ext_getElem?
  intro k
  rw [Array.getElem?_setIfInBounds]
  rcases Nat.lt_or_ge k n with hk | hk
  · rw [bN_get _ hk, bN_get _ hk, bN_size]
    by_cases h : i = k
    · subst h; simp [hk]
    · rw [if_neg h, if_neg (fun e => h e.symm)]
  · rw [Array.getElem?_eq_none (by rw [bN_size]; exact hk), Array.getElem?_eq_none (by rw [bN_size]; exact hk), bN_size]
    by_cases h : i = k
    · subst h; simp; omega
    · rw [if_neg h]
theorem bN_none (n : Nat) : Array.replicate n (Value.bool false) = bN n (fun _ => false) := by
  apply Array.toList_inj.1
  rw [Array.toList_replicate]
  show _ = (List.range n).map (fun _ => Value.bool false)
  rw [List.map_const', List.length_range]
theorem infoB : (Try.prog.info? 4).map (fun i => (i.zero, i.size, i.bytes)) = some (some (.bool false), 1, 1) := by kernel_rfl
theorem mkB (n : Nat) (hn : n ≤ 1000000) (W : World) : Sem.run Try.prog (Instr.makeSlice 88 (.int .i64 n) (.int .i64 n)) W = .ok (.slice (some ⟨W.heap.size, 0, none⟩) n n) (W.alloc (.cells (bN n (fun _ => false)) 4)) := by
  obtain ⟨i0, hi, hz0, hz1, hz2⟩ := info_parts infoB
  have := run_make (P := Try.prog) W 88 4 i0 (.bool false) Try.underlying88 hi hz0 .i64 .i64 (n : Int) (n : Int) (by omega) (Int.le_refl _) (by rw [hz2]; omega) (by omega)
  rw [this, hz1]
  have e : madeCells (Value.bool false).cells (Int.toNat (n : Int) * 1) = bN n (fun _ => false) := by
    rw [← bN_none]
    apply Array.toList_inj.1
    rw [show Int.toNat (n : Int) * 1 = n by omega]
    show (madeCells #[Value.bool false] n).toList = _
    rw [toList_madeCells_one, Array.toList_replicate]
  rw [e]
  simp
/-- a row of marks that lies in memory -/
def RM (w : World) (a : Option Addr) (l : List (Mk Nat)) : Prop := l = [] ∨ ∃ b off, a = some ⟨b, off, none⟩ ∧ ∀ j x c, l[j]? = some x → c < 257 → w.cell? ⟨b, off + j * 257 + c, none⟩ = (gmk x)[c]?
theorem gmk_some (x : Mk Nat) {c : Nat} (hc : c < 257) : ∃ v, (gmk x)[c]? = some v := ⟨(gmk x)[c]'(by rw [gmk_size]; exact hc), Array.getElem?_eq_getElem _⟩
theorem RM.below {w w' : World} {a : Option Addr} {l : List (Mk Nat)} (h : RM w a l) (hb : Below w.heap.size w w') : RM w' a l := by
  rcases h with h | ⟨b, off, e, h⟩
  · exact .inl h
  · refine .inr ⟨b, off, e, fun j x c hx hc => ?_⟩
    obtain ⟨v, hv⟩ := gmk_some x hc
    have h1 := (h j x c hx hc).trans hv
    rw [hv]
    exact (hb.cell (p := ⟨b, off + j * 257 + c, none⟩) (block_lt_of_cell h1)).trans h1
theorem setB {w : World} {G N k : Nat} {t : TypeId} {f : Nat → Bool} {v : Bool} (h : Blk w G t (bN N (fun y => if y < k then f y else false))) (hv : f k = v) :
    Blk (w.setCell ⟨G, k, none⟩ (.bool v)) G t (bN N (fun y => if y < k + 1 then f y else false)) := by
  have h2 := h.put k (.bool v)
  rw [bN_set] at h2
  rw [bN_ext (g := fun y => if y = k then v else if y < k then f y else false)]
  · exact h2
  · intro i _
    by_cases e : i = k
    · subst e; rw [if_pos rfl, if_pos (by omega)]; exact hv
    · rw [if_neg e]
      by_cases e2 : i < k
      · rw [if_pos e2, if_pos (by omega)]
      · rw [if_neg e2, if_neg (by omega)]
theorem RM.of_own {w : World} {base cap : Nat} {A : Option Addr} {l : List (Mk Nat)} (h : w.ownsRow base 84 257 (.slice A l.length cap) l.length (mcl l)) : RM w A l := by
  rcases h.2 with ⟨_, h0⟩ | ⟨g, c, cur, he, _, hg, hn, _, hs, ht⟩
  · exact .inl (List.eq_nil_of_length_eq_zero (by simpa using h0))
  · injection he with e1
    refine .inr ⟨g, 0, e1, fun j x c hx hc => ?_⟩
    have hj : j < l.length := (List.getElem?_eq_some_iff.1 hx).1
    rw [Nat.zero_add, cell_of_row w g (j * 257 + c) cur 84 (0, 0) hg, ← mcl_at l j x c hx hc, ← ht, List.getElem?_take_of_lt (by omega), Array.getElem?_toList]
end Go.Proofs.Ytaielamimkigmaa
