/-
  Slices of ints that came in or were made: what they read as, how they are appended and held against one another. Nothing of one statement alone stands here.
-/
import Derived.Test.YtaohkakefdhecaaBlk
import Derived.Test.YtaohkakefdhecaaBytes
import Derived.Lib.Hide
import Derived.Outline
import Derived.Test.YtaohkakefdhecaaRoomMath
import Derived.Test.YtaohkakefdhecaaLater
import Derived.Laws.AppendOwnNone
import Derived.Deep.QuietTactic
import Derived.BigQuiet
import Derived.WalkMore
import Derived.Maps.AppendAt
namespace Roomm
theorem take_step' {α : Type} {l m : List α} {k : Nat} (h1 : k < l.length) (h2 : k < m.length) (h : l.take k = m.take k) (e : l[k] = m[k]) : l.take (k + 1) = m.take (k + 1) := by
  rw [List.take_succ_eq_append_getElem h1, List.take_succ_eq_append_getElem h2, h, e]
theorem take_getD {l : List Int} {k : Nat} (h : k < l.length) : l.take (k + 1) = l.take k ++ [l.getD k 0] := by
  rw [List.take_succ_eq_append_getElem h, List.getD_eq_getElem?_getD, List.getElem?_eq_getElem h]; rfl
end Roomm
namespace Go.Proofs.Ytaohkakefdhecaa
open Go.RowKit Crcm Tagm Inom Roomm Go.ChangeShapes

def I64 (n : Int) : Prop := -9223372036854775808 ≤ n ∧ n ≤ 9223372036854775807
theorem I64_wf {n : Int} (h : (Lit.int .i64 n).wf = true) : I64 n := by have := bounds_i64 h; unfold I64; omega
theorem I64_lit {n : Int} (h : I64 n) : (Lit.int .i64 n).wf = true := by unfold I64 at h; exact WalkArith.wf_i64 (by omega)

/-- what is told of a slice of ints that came in -/
def RowI (w : World) (a : Option Addr) (len cap : Nat) (zs : List Int) : Prop :=
  (a = none ∧ len = 0 ∧ cap = 0 ∧ zs = []) ∨
  ∃ x, a = some x ∧ len ≤ cap ∧ cap ≤ maxLen ∧ zs.length = cap ∧ (∀ i, i < zs.length → w.cell? (x.add i) = some (.int .i64 (zs.getD i 0))) ∧ ∀ n ∈ zs, (Lit.int .i64 n).wf = true

/-- ints that lie in memory -/
def Ri (w : World) (a : Option Addr) (l : List Int) : Prop :=
  (∀ n ∈ l, I64 n) ∧ l.length ≤ maxLen ∧ (l = [] ∨ ∃ b off, a = some ⟨b, off, none⟩ ∧ ∀ j, j < l.length → w.cell? ⟨b, off + j, none⟩ = some (.int .i64 (l.getD j 0)))

theorem RowI.ri {w : World} {a : Option Addr} {len cap : Nat} {zs : List Int} (h : RowI w a len cap zs) : ∃ l : List Int, l.length = len ∧ len ≤ cap ∧ Ri w a l ∧ (a = none → len = 0 ∧ cap = 0) := by
  rcases h with ⟨rfl, rfl, rfl, rfl⟩ | ⟨x, rfl, hl, hm, hz, hc, hw⟩
  · exact ⟨[], rfl, Nat.le_refl _, ⟨by simp, by simp, .inl rfl⟩, fun _ => ⟨rfl, rfl⟩⟩
  · refine ⟨zs.take len, by rw [List.length_take]; omega, hl, ⟨fun n hn => I64_wf (hw n (List.mem_of_mem_take hn)), by rw [List.length_take]; omega, ?_⟩, fun e => by cases e⟩
    by_cases h0 : len = 0
    · left; subst h0; rfl
    · right
      obtain ⟨b, off, spot⟩ := x
      have hc0 := hc 0 (by omega)
      have hspot : spot = none := by simpa [Addr.add] using World.cell?_spot hc0
      subst hspot
      refine ⟨b, off, rfl, fun i hi => ?_⟩
      have hi' : i < len := by rw [List.length_take] at hi; omega
      have := hc i (by omega)
      rw [show (⟨b, off, none⟩ : Addr).add i = ⟨b, off + i, none⟩ by simp [Addr.add]] at this
      rw [this]
      simp [List.getD_eq_getElem?_getD, hi']
theorem Ri.below {w w' : World} {a : Option Addr} {l : List Int} (h : Ri w a l) (hb : Below w.heap.size w w') : Ri w' a l := by
  obtain ⟨h1, h2, h3⟩ := h
  refine ⟨h1, h2, ?_⟩
  rcases h3 with h3 | ⟨b, off, rfl, h3⟩
  · exact .inl h3
  · exact .inr ⟨b, off, rfl, fun j hj => by have := h3 j hj; exact (hb.cell (p := ⟨b, off + j, none⟩) (block_lt_of_cell this)).trans this⟩
theorem Ri.nil {w : World} {a : Option Addr} : Ri w a [] := ⟨by simp, by simp, .inl rfl⟩
theorem Ri.take {w : World} {a : Option Addr} {l : List Int} (h : Ri w a l) (j : Nat) : Ri w a (l.take j) := by
  obtain ⟨h1, h2, h3⟩ := h
  refine ⟨fun n hn => h1 n (List.mem_of_mem_take hn), by rw [List.length_take]; omega, ?_⟩
  rcases h3 with rfl | ⟨b, off, rfl, h3⟩
  · left; simp
  · refine .inr ⟨b, off, rfl, fun i hi => ?_⟩
    rw [List.length_take] at hi
    rw [h3 i (by omega)]
    have hi' : i < j := by omega
    simp [List.getD_eq_getElem?_getD, hi']
theorem Ri.mv {w : World} {a : Option Addr} {l : List Int} (h : Ri w a l) (j cap : Nat) (hc : l.length ≤ cap) : Ri w (mv a cap j) (l.drop j) := by
  obtain ⟨h1, h2, h3⟩ := h
  refine ⟨fun n hn => h1 n (List.mem_of_mem_drop hn), by rw [List.length_drop]; omega, ?_⟩
  rcases h3 with rfl | ⟨b, off, rfl, h3⟩
  · left; simp
  · by_cases hj : j < l.length
    · refine .inr ⟨b, off + j, by unfold Ytaohkakefdhecaa.mv; rw [if_neg (by omega)]; simp [Addr.add], fun i hi => ?_⟩
      rw [List.length_drop] at hi
      rw [Nat.add_assoc, h3 (j + i) (by omega)]
      simp [List.getD_eq_getElem?_getD]
    · left; exact List.drop_of_length_le (by omega)
theorem Ri.at {w : World} {a : Option Addr} {l : List Int} (h : Ri w a l) {j : Nat} (hj : j < l.length) : ∃ b off, a = some ⟨b, off, none⟩ ∧ w.cell? ⟨b, off + j, none⟩ = some (.int .i64 (l.getD j 0)) := by
  rcases h.2.2 with rfl | ⟨b, off, rfl, h3⟩
  · simp at hj
  · exact ⟨b, off, rfl, h3 j hj⟩
theorem Ri.addr {w : World} {a : Option Addr} {l : List Int} (h : Ri w a l) (hl : 0 < l.length) : ∃ b off, a = some ⟨b, off, none⟩ := by
  obtain ⟨b, off, e, _⟩ := h.at hl; exact ⟨b, off, e⟩
theorem Ri.of_own {w : World} {base n : Nat} {v : Value} {zs : List Int} (h : w.ownsRow base 3 1 v n (zs.map (Value.int .i64))) (hz : ∀ m ∈ zs, I64 m) :
    ∃ a cap, v = .slice a n cap ∧ Ri w a zs ∧ zs.length = n ∧ n ≤ cap := by
  obtain ⟨hl, h⟩ := h
  have hl' : zs.length = n := by simpa using hl
  rcases h with ⟨rfl, rfl⟩ | ⟨g, cap, cur, rfl, _, hg, hn, hm, _, ht⟩
  · exact ⟨none, 0, rfl, ⟨hz, by omega, .inl (List.eq_nil_of_length_eq_zero hl')⟩, hl', Nat.le_refl _⟩
  · refine ⟨_, cap, rfl, ⟨hz, by omega, .inr ⟨g, 0, rfl, fun i hi => ?_⟩⟩, hl', hn⟩
    rw [Nat.zero_add, cell_of_row w g i cur _ _ hg]
    have h1 : (cur.toList.take (n * 1))[i]? = (zs.map (Value.int .i64))[i]? := by rw [ht]
    rw [List.getElem?_take, if_pos (by omega)] at h1
    rw [← Array.getElem?_toList, h1]
    simp [List.getD_eq_getElem?_getD, hi]
theorem latercell {w : World} (m : Later w) {p : Addr} {v : Value} (h : w.cell? p = some v) : m.to.cell? p = some v := (m.bel.cell (block_lt_of_cell h)).trans h

theorem Try.infoInt : (Try.prog.info? 3).map (fun i => (i.zero, i.size, i.bytes)) = some (some (.int .i64 0), 1, 8) := by kernel_rfl

set_option maxRecDepth 100000 in
/-- append of ints onto a row of the call's own: the source nil, empty or not; and where the row lies behind it -/
theorem append_ints {w : World} {ops : Array Oper} {rest : List Oper} {o : Oper} {a : Act} {Q : Exit → Act → World → Prop} (hgd : o.guard = none) (s x : Operand)
    (ho : o.op = .call { callee := .builtin .append, args := #[s, x], argTypes := #[58, 58] })
    (base : Nat) (v : Value) (n : Nat) (xs : List Int) (hs : a.eval s = v) (hown : w.ownsRow base 3 1 v n (xs.map (Value.int .i64)))
    (A : Option Addr) (m c : Nat) (l : List Int) (hx : a.eval x = .slice A m c) (hl : l.length = m) (hr : Ri w A l) (hA : A = none → c = 0) (h63 : n + m ≤ 1000000) (hbase : base ≤ w.heap.size)
    (h : ∀ v' w', w'.ownsRow base 3 1 v' (n + m) ((xs ++ l).map (Value.int .i64)) → Below base w w' → w.grownBy w' v.ownBlock → (v'.ownBlock = v.ownBlock ∨ v'.ownBlock = some w.heap.size) → wpList Try.prog ops Q rest (a.put o.dst v') w') : wpList Try.prog ops Q (o :: rest) a w := by
  obtain ⟨i0, hi, hz0, hz1, hz2⟩ := info_parts Try.infoInt
  rcases A with _ | ad
  · have hm : m = 0 := by
      rcases hr.2.2 with rfl | ⟨b, off, e, _⟩
      · simpa using hl.symm
      · cases e
    subst hm
    obtain rfl := List.eq_nil_of_length_eq_zero hl
    obtain rfl := hA rfl
    refine wpList_append_own_none hgd s x 58 ho base 3 i0 1 Try.underlying58 hi v n _ hs hown hx ?_
    exact h v w (by simpa using hown) (Below.refl _ _) ⟨rfl, rfl, rfl, Nat.le_refl _, fun _ _ _ => rfl⟩ (.inl rfl)
  · refine wpList_append_own_at w hgd s x 58 ho base 3 i0 (.int .i64 0) 1 8 Try.underlying58 hi hz0 hz1 hz2 rfl (by decide) v n _ hs hown ad m c (l.map (Value.int .i64)) hx (by simp [hl]) ?_ ?_ (by unfold maxLen; omega) (by omega) hbase ?_
    · intro j u hu
      rw [List.getElem?_map] at hu
      by_cases hj : j < l.length
      · obtain ⟨b, off, e, hc⟩ := hr.at hj
        injection e with e
        subst e
        rw [show (⟨b, off, none⟩ : Addr).add j = ⟨b, off + j, none⟩ by simp [Addr.add], hc]
        simpa [List.getD_eq_getElem?_getD, hj] using hu
      · simp [List.getElem?_eq_none (by omega : l.length ≤ j)] at hu
    · intro u hu; obtain ⟨n, -, rfl⟩ := List.mem_map.1 hu; rfl
    · intro v' w' h1 h2 _ h4
      rw [← List.map_append] at h1
      exact h v' w' h1 ((Below.refl _ _).grown h2 hbase (fun g hg => (hown.lt g hg).1)) h2 h4

theorem sbool' {a b : Bool} (h : a = b) : Ending.returned (.bool a) = .returned (.bool b) := by rw [h]

theorem ris_no {l : List Int} {k : Nat} (hk : k + 1 < l.length) (h : l.getD (k + 1) 0 ≤ l.getD k 0) : ¬ ris l := fun hr => by have := ris_at hr hk; omega
theorem ris_upto {l : List Int} (h : ∀ i, i + 1 < l.length → l.getD i 0 < l.getD (i + 1) 0) : ris l := fun i hi => h i (by omega)

end Go.Proofs.Ytaohkakefdhecaa
