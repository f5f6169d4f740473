/-
  Rows of bytes that a chip's calls make: one byte over and over, what is torn, a copy. Nothing of one statement alone stands here.
-/
import Derived.Test.YtnnpdlebgfjihaaNandGet
import Derived.Laws.MakeOwn
import Derived.Laws.OwnMore
import Derived.Laws.CopyOwn
import Derived.OwnWalk
import Derived.Lib.SliceRun
import Derived.WalkSpells
namespace Go.Proofs.Ytnnpdlebgfjihaa
open Go.RowKit Crcm Go.ChangeShapes

/-- make: a new block that is known whole -/
theorem wpList_make_blk {P : Program} (w : World) {ops : Array Oper} {rest : List Oper} {o : Oper} {a : Act} {Q : Exit → Act → World → Prop}
    (hg : o.guard = none) (l c : Operand) (t : TypeId) (hop : o.op = Op.makeSlice t l c)
    (e : TypeId) (i : TypeInfo) (z : Value) (size : Nat) (h1 : P.underlying t = some (.slice e)) (h2 : P.info? e = some i) (h3 : i.zero = some z) (h4 : i.size = size)
    (kl kc : IntKind) (L C : Int) (n : Nat) (hl : a.eval l = .int kl L) (hc : a.eval c = .int kc C) (hL : L = (n : Int)) (hC : C = (n : Int)) (b2 : i.bytes * n ≤ 281474976710656) (b3 : n ≤ maxLen)
    (hK : ∀ w', Hid (Blk w' w.heap.size e (madeCells z.cells (n * size))) → Hid (Below w.heap.size w w') → Hid (w'.heap.size = w.heap.size + 1) → wpList P ops Q rest (a.put o.dst (.slice (some ⟨w.heap.size, 0, none⟩) n n)) w') :
    wpList P ops Q (o :: rest) a w := by
  refine wpList_plain hg fun K hK' => ?_
  subst hL hC h4
  have hb' : (i.bytes : Int) * (n : Int) ≤ 281474976710656 := by
    have h : ((i.bytes * n : Nat) : Int) ≤ 281474976710656 := by omega
    rwa [Int.natCast_mul] at h
  have h63 : (n : Int) ≤ 9223372036854775807 := by unfold maxLen at b3; omega
  have hrun := run_make (P := P) w t e i z h1 h2 h3 kl kc n n (by omega) (Int.le_refl _) hb' h63
  simp only [Int.toNat_natCast] at hrun
  unfold Oper.wp
  simp [execOp, hop, hl, hc, hrun, Result.andThen]
  exact hK' _ _ (hK _ (Lib.hid (Blk.new w e _)) (Lib.hid ((Below.refl _ _).alloc (Nat.le_refl _) _)) (Lib.hid (by simp)))
theorem made_get {z : Value} {n j : Nat} (h : j < n) : (madeCells #[z] n)[j]? = some z := by
  rw [← Array.getElem?_toList, toList_madeCells_one, List.getElem?_replicate, if_pos h]

/-- a block of one byte over and over, as far as k -/
def Fil (n : Nat) (x : Int) (k : Nat) (cs : Array Value) : Prop := cs.size = n ∧ (∀ j, j < k → cs[j]? = some (.int .u8 x)) ∧ ∀ j, j < n → ∃ y, cs[j]? = some (.int .u8 y)
theorem Fil.next {n k : Nat} {x : Int} {cs : Array Value} (h : Fil n x k cs) (hk : k < n) : Fil n x (k + 1) (cs.setIfInBounds k (.int .u8 x)) := by
  obtain ⟨h1, h2, h3⟩ := h
  refine ⟨by simp [h1], fun j hj => ?_, fun j hj => ?_⟩
  · rw [Array.getElem?_setIfInBounds]
    by_cases e : k = j
    · rw [if_pos e, if_pos (by omega)]
    · rw [if_neg e]; exact h2 j (by omega)
  · rw [Array.getElem?_setIfInBounds]
    by_cases e : k = j
    · rw [if_pos e, if_pos (by omega)]; exact ⟨x, rfl⟩
    · rw [if_neg e]; exact h3 j hj

set_option maxRecDepth 100000 in
set_option maxHeartbeats 1000000 in
theorem filled_any (n : Nat) (x : Int) (w : World) (hn : n ≤ 100000) (_hx : U8 x) :
    Calls Try.prog 50 #[.int .i64 n, .int .u8 x] w fun e w' => e = .returned (.slice (some ⟨w.heap.size, 0, none⟩) n n) ∧ (∃ cs, Blk w' w.heap.size 5 cs ∧ Fil n x n cs) ∧ Below w.heap.size w w' := by
  obtain ⟨i0, hi, hz0, hz1, hz2⟩ := info_parts Try.info8
  have n9 : n ≤ 9223372036854775807 := by omega
  have HN := Lib.hid hn
  clear hn
  go_enter Try.func50, Try.ntmps50
  go_wp2_with (at_make; refine wpList_make_blk _ rfl _ _ 39 rfl 5 i0 (.int .u8 0) 1 Try.underlying39 hi hz0 hz1 .i64 .i64 _ _ n rfl rfl rfl rfl (by have := HN.out; rw [hz2]; omega) (by have := HN.out; unfold maxLen; omega) ?_)
  intro w1 hBk hB hS
  have HF0 : Hid (∃ cs, Blk w1 w.heap.size 5 cs ∧ Fil n x 0 cs) := Lib.hid ⟨_, hBk.out, by
    have hm : (i0.zero.map (fun z => z)) = some (.int .u8 0) := by rw [hz0]; rfl
    refine ⟨size_madeCells _ _ |>.trans (by omega), fun j hj => absurd hj (Nat.not_lt_zero _), fun j hj => ⟨0, ?_⟩⟩
    exact made_get (by omega)⟩
  clear hBk hS hi hz0 hz1 hz2
  generalize hg : w.heap.size = g at HF0
  have HG := Lib.hid hg
  clear hg
  go_wp2_with fail
  go_loopw [6, 11] (fun _ i wr => ∃ k : Nat, k ≤ n ∧ i = .int .i64 k ∧ Hid (∃ cs, Blk wr g 5 cs ∧ Fil n x k cs) ∧ Hid (Below w.heap.size w wr)) (fun _ i _ => n - (intOf i).toNat)
  case atStart => exact ⟨0, by omega, rfl, HF0, hB⟩
  case round =>
    obtain ⟨k, hk, rfl, hF, hbel⟩ := hrel
    by_cases hlt : k < n
    · obtain ⟨cs, hb, hf⟩ := hF.out
      obtain ⟨y, hy⟩ := hf.2.2 k hlt
      have c0 := (hb.cell k).trans hy
      have f0 := hb.frozen k
      have HB := Lib.hid hb
      have HFn := Lib.hid (hf.next hlt)
      have kl : (k : Int) < (n : Int) := by omega
      clear hb hf hy hF
      go_wp2
      go_roundw
      case rel => exact ⟨k + 1, by omega, by go_num, Lib.hid ⟨_, HB.out.put k _, HFn.out⟩, Lib.hid (hbel.out.setCell (p := ⟨g, k, none⟩) (by show w.heap.size ≤ g; have := HG.out; omega) _)⟩
      case measure => simp [intOf]; omega
    · have hkn : k = n := by omega
      subst hkn
      go_wp2
      go_ret
      exact ⟨by rw [HG.out]; rfl, by rw [HG.out]; exact hF.out, hbel.out⟩

/-- a block of bytes that is known whole -/
def RB (w : World) (g : Nat) (l : List Int) : Prop := Blk w g 5 (l.map (Value.int .u8)).toArray
theorem RB.rw {w : World} {g : Nat} {l : List Int} (h : RB w g l) (hu : ∀ x ∈ l, U8 x) (hl : l.length ≤ maxLen) : Rw w (some ⟨g, 0, none⟩) l := by
  refine ⟨hu, hl, .inr ⟨g, 0, rfl, fun i hi => ?_⟩⟩
  have := Blk.cell h i
  rw [Nat.zero_add, this]
  simp [List.getD_eq_getElem?_getD, hi]
theorem Fil.rb {w : World} {g n : Nat} {x : Int} {cs : Array Value} (hb : Blk w g 5 cs) (h : Fil n x n cs) : RB w g (List.replicate n x) := by
  have e : cs = ((List.replicate n x).map (Value.int .u8)).toArray := by
    apply Array.ext
    · simp [h.1]
    · intro j h1 h2
      have := h.2.1 j (by rw [← h.1]; exact h1)
      rw [Array.getElem?_eq_getElem h1] at this
      injection this with this
      rw [this]
      simp
  unfold RB
  rw [← e]
  exact hb
/-- so many bytes 255, bytes laid over the first ones -/
def tornL (n : Nat) (l : List Int) : List Int := l.take n ++ List.replicate (n - l.length) 255
theorem tornL_len (n : Nat) (l : List Int) : (tornL n l).length = n := by simp [tornL]; omega
theorem tornL_u8 {n : Nat} {l : List Int} (h : ∀ x ∈ l, U8 x) : ∀ x ∈ tornL n l, U8 x := fun x hx => by
  rcases List.mem_append.1 hx with g | g
  · exact h x (List.mem_of_mem_take g)
  · rw [(List.mem_replicate.1 g).2]; unfold U8; omega
theorem splice_torn (n : Nat) (l : List Int) : ((List.replicate n (255 : Int)).map (Value.int .u8)).toArray.toList.take 0 ++ (l.take n).map (Value.int .u8) ++ ((List.replicate n (255 : Int)).map (Value.int .u8)).toArray.toList.drop (0 + ((l.take n).map (Value.int .u8)).length) = (tornL n l).map (Value.int .u8) := by
  simp only [tornL, List.take_zero, List.nil_append, List.map_append, List.length_map, List.length_take, Nat.zero_add, List.map_replicate, List.drop_replicate]
  congr 2
  omega
theorem run_torn (w : World) (g n m c : Nat) (a : Option Addr) (l : List Int) (hg : RB w g (List.replicate n 255)) (hr : Rw w a l) (hl : l.length = m) :
    ∃ w' k, (∀ ty, (Builtin.copy_ #[39, 39] ty #[.slice (some ⟨g, 0, none⟩) n n, .slice a m c]).run Try.prog w = .ok (.int .i64 k) w') ∧ RB w' g (tornL n l) ∧ ∀ B w0, Below B w0 w → B ≤ g → Below B w0 w' := by
  obtain ⟨i0, hi, hz0, hz1, hz2⟩ := info_parts Try.info8
  have HI : (Try.prog.info? 5).map (·.size) = some 1 := by rw [hi]; simp [hz1]
  by_cases h0 : Nat.min m n = 0
  · refine ⟨w, 0, fun ty => run_copy_none (P := Try.prog) w 39 39 ty 5 (some ⟨g, 0, none⟩) a n n m c Try.underlying39 HI h0, ?_, fun _ _ h _ => h⟩
    have e : tornL n l = List.replicate n 255 := by
      unfold tornL
      rcases Nat.eq_zero_or_pos n with rfl | hn
      · simp
      · have : m = 0 := by
          rcases Nat.le_total m n with g | g
          · rw [show Nat.min m n = m from Nat.min_eq_left g] at h0; exact h0
          · rw [show Nat.min m n = n from Nat.min_eq_right g] at h0; omega
        have : l = [] := List.eq_nil_of_length_eq_zero (by omega)
        subst this
        simp
    rw [e]
    exact hg
  · obtain ⟨b, off, rfl, hc⟩ : ∃ b off, a = some ⟨b, off, none⟩ ∧ ∀ i, i < l.length → w.cell? ⟨b, off + i, none⟩ = some (.int .u8 (l.getD i 0)) := by
      rcases hr.2.2 with h | h
      · exfalso; apply h0; subst h; simp at hl; subst hl; exact Nat.zero_min n
      · exact h
    refine ⟨_, _, fun ty => run_copy_row (P := Try.prog) w 39 39 ty 5 g 0 n n ⟨b, off, none⟩ m c _ 5 ((l.take n).map (Value.int .u8)) Try.underlying39 HI hg ?_ ?_ ?_ ?_, ?_, ?_⟩
    · rw [List.length_map, List.length_take, hl]; exact Nat.min_comm n m
    · intro j v hv
      rw [List.getElem?_map, List.getElem?_take] at hv
      by_cases hj : j < n
      · rw [if_pos hj] at hv
        by_cases hjl : j < l.length
        · rw [List.getElem?_eq_getElem hjl] at hv
          have := hc j hjl
          rw [show (⟨b, off, none⟩ : Addr).add j = ⟨b, off + j, none⟩ by simp [Addr.add], this]
          simpa [List.getD_eq_getElem?_getD, hjl] using hv
        · rw [List.getElem?_eq_none (by omega)] at hv; cases hv
      · rw [if_neg hj] at hv; cases hv
    · simp; omega
    · intro v hv
      obtain ⟨x, -, rfl⟩ := List.mem_map.1 hv
      rfl
    · unfold RB
      rw [← splice_torn]
      exact setRow_heap w g _ _ _ _ hg
    · exact fun B w0 h hB => below_setRow h hB _

set_option maxRecDepth 100000 in
set_option maxHeartbeats 1000000 in
theorem torn_any (n m c : Nat) (a : Option Addr) (l : List Int) (w : World) (hn : n ≤ 100000) (hr : Rw w a l) (hl : l.length = m) :
    Calls Try.prog 76 #[.int .i64 n, .slice a m c] w fun e w' => e = .returned (.slice (some ⟨w.heap.size, 0, none⟩) n n) ∧ RB w' w.heap.size (tornL n l) ∧ Below w.heap.size w w' := by
  have HF := Lib.hid (filled_any n 255 w hn (by unfold U8; omega))
  have HL := Lib.hid hl
  have HR := Lib.hid hr
  clear hl hr
  go_enter Try.func76, Try.ntmps76
  go_wp2_with fail
  refine HF.out.mono ?_
  rintro r w1 ⟨rfl, ⟨cs, hb, hf⟩, hB⟩
  have HRB := Lib.hid (Fil.rb hb hf)
  have HB := Lib.hid hB
  have HR1 := Lib.hid (HR.out.below hB)
  clear hb hf hB
  generalize hg : w.heap.size = g at HRB
  have HG := Lib.hid hg
  clear hg
  obtain ⟨w2, k, hrun, hrb, hbel⟩ := run_torn w1 g n m c a l HRB.out HR1.out HL.out
  have HRB2 := Lib.hid hrb
  have HB2 := Lib.hid (hbel _ _ HB.out (by have := HG.out; omega))
  clear hrb hbel
  go_wp2
  go_ret
  exact ⟨by rw [HG.out]; rfl, by rw [HG.out]; exact HRB2.out, HB2.out⟩

set_option maxRecDepth 100000 in
set_option maxHeartbeats 1000000 in
/-- a copy of bytes that lie somewhere -/
theorem clone_any (n c b off : Nat) (l : List Int) (w : World) (hr : Rw w (some ⟨b, off, none⟩) l) (hl : l.length = n) (hn : 0 < n ∧ n ≤ 100000) :
    Calls Try.prog 52 #[.slice (some ⟨b, off, none⟩) n c] w fun e w' => (∃ g cc, e = .returned (.slice (some ⟨g, 0, none⟩) n cc) ∧ n ≤ cc ∧ w.heap.size ≤ g ∧ Rw w' (some ⟨g, 0, none⟩) l) ∧ Below w.heap.size w w' := by
  have HL := Lib.hid hl
  have HR := Lib.hid hr
  have HN := Lib.hid hn
  have en := fun W a n c => Lib.run_eql_slice_nil (P := Try.prog) W 39 5 a n c 0 0 Try.underlying39
  clear hl hr hn
  go_enter Try.func52, Try.ntmps52
  have hown : Hid ((w.alloc (.cells #[] 5)).ownsRow w.heap.size 5 1 (.slice (some ⟨w.heap.size, 0, none⟩) 0 0) 0 (([] : List Int).map (Value.int .u8))) := Lib.hid (World.ownsRow_lit w #[] 0 (Nat.le_refl _) (Nat.zero_le _) rfl)
  have hbx : Below w.heap.size w (w.alloc (.cells #[] 5)) := (Below.refl _ _).alloc (Nat.le_refl _) _
  have HBX := Lib.hid hbx
  have hsrc := Lib.hid (HR.out.src.below hbx)
  clear hbx
  go_wp2_with (at_builtin; refine append_bytes rfl _ _ rfl w.heap.size _ 0 [] rfl hown.out (some ⟨b, off, none⟩) n c l rfl HL.out hsrc.out (by have := HN.out; omega) (by simp) ?_)
  intro v' w2 hown2 hb2
  have HB2 := Lib.hid (HBX.out.trans hb2)
  obtain ⟨a2, cap2, rfl, hrw, hlen, hcap⟩ := Rw.of_own hown2 HR.out.1
  have HW := Lib.hid hown2
  have HR2 := Lib.hid hrw
  clear hown2 hb2 hrw hlen
  go_wp2
  go_ret
  refine ⟨?_, HB2.out⟩
  rcases HW.out.2 with ⟨h0, hn⟩ | ⟨g, cap, cur, h0, hg, _⟩
  · have := HN.out; omega
  · injection h0 with e1 e2 e3
    subst e1 e3
    exact ⟨g, cap2, rfl, hcap, hg, HR2.out⟩
end Go.Proofs.Ytnnpdlebgfjihaa
