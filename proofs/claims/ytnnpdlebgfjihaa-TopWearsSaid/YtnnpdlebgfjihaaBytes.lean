/-
  Slices of bytes that came in or were made: what they read as, how they are appended, made into strings and held against one another. Nothing of one statement alone stands here.
-/
import Derived.Test.YtnnpdlebgfjihaaCrcMore
import Derived.Test.YtnnpdlebgfjihaaLater
import Derived.OpenShut
import Derived.Laws.AppendOwnNone
import Derived.Laws.BytesArg
namespace Go.Proofs.Ytnnpdlebgfjihaa
open Go.RowKit Crcm Go.ChangeShapes

theorem U32_wf {n : Int} (h : (Lit.int .u32 n).wf = true) : U32 n := by have := bounds_u32 h; unfold U32; omega
theorem U8_wf {n : Int} (h : (Lit.int .u8 n).wf = true) : U8 n := by have := bounds_u8 h; unfold U8; omega
theorem ret_bool {a b : Bool} (h : a = b) : Ending.returned (.bool a) = .returned (.bool b) := by rw [h]
theorem ret_u64 {a b : Int} (h : a = b) : Ending.returned (.int .u64 a) = .returned (.int .u64 b) := by rw [h]
theorem ret_i64 {a b : Int} (h : a = b) : Ending.returned (.int .i64 a) = .returned (.int .i64 b) := by rw [h]

/-- what is told of a slice of bytes that came in -/
def Row8 (w : World) (a : Option Addr) (len cap : Nat) (zs : List Int) : Prop :=
  (a = none ∧ len = 0 ∧ cap = 0 ∧ zs = []) ∨
  ∃ x, a = some x ∧ len ≤ cap ∧ cap ≤ maxLen ∧ zs.length = cap ∧ (∀ i, i < zs.length → w.cell? (x.add i) = some (.int .u8 (zs.getD i 0))) ∧ ∀ n ∈ zs, (Lit.int .u8 n).wf = true

theorem Row8.rw {w : World} {a : Option Addr} {len cap : Nat} {zs : List Int} (h : Row8 w a len cap zs) : ∃ l : List Int, l.length = len ∧ len ≤ cap ∧ Rw w a l ∧ l = zs.take len := by
  rcases h with ⟨rfl, rfl, rfl, rfl⟩ | ⟨x, rfl, hl, hm, hz, hc, hw⟩
  · exact ⟨[], rfl, Nat.le_refl _, ⟨by simp, by simp, .inl rfl⟩, rfl⟩
  · refine ⟨zs.take len, by rw [List.length_take]; omega, hl, ⟨fun n hn => U8_wf (hw n (List.mem_of_mem_take hn)), by rw [List.length_take]; omega, ?_⟩, rfl⟩
    by_cases h0 : len = 0
    · left; subst h0; rfl
    · right
      obtain ⟨b, off, spot⟩ := x
      have hc0 := hc 0 (by omega)
      have hspot : spot = none := by simpa [Addr.add] using World.cell?_spot hc0
      subst hspot
      refine ⟨b, off, rfl, fun i hi => ?_⟩
      have hi' : i < len := by rw [List.length_take] at hi; omega
      have := hc i (by omega)
      rw [show (⟨b, off, none⟩ : Addr).add i = ⟨b, off + i, none⟩ by simp [Addr.add]] at this
      rw [this]
      simp [List.getD_eq_getElem?_getD, hi']

theorem Rw.keep {w w' : World} {a : Option Addr} {zs : List Int} (h : Rw w a zs) (hk : ∀ b o v, w.cell? ⟨b, o, none⟩ = some v → w'.cell? ⟨b, o, none⟩ = some v) : Rw w' a zs := by
  obtain ⟨h1, h2, h3⟩ := h
  refine ⟨h1, h2, ?_⟩
  rcases h3 with h3 | ⟨b, off, rfl, h3⟩
  · exact .inl h3
  · exact .inr ⟨b, off, rfl, fun i hi => hk _ _ _ (h3 i hi)⟩
theorem Rw.below {w w' : World} {a : Option Addr} {zs : List Int} (h : Rw w a zs) (hb : Below w.heap.size w w') : Rw w' a zs :=
  h.keep fun b o _ hc => (hb.cell (p := ⟨b, o, none⟩) (block_lt_of_cell hc)).trans hc
theorem Rw.nil {w : World} {a : Option Addr} : Rw w a [] := ⟨by simp, by simp, .inl rfl⟩
theorem Rw.take {w : World} {a : Option Addr} {l : List Int} (h : Rw w a l) (j : Nat) : Rw w a (l.take j) := by
  obtain ⟨h1, h2, h3⟩ := h
  refine ⟨fun n hn => h1 n (List.mem_of_mem_take hn), by rw [List.length_take]; omega, ?_⟩
  rcases h3 with rfl | ⟨b, off, rfl, h3⟩
  · left; simp
  · refine .inr ⟨b, off, rfl, fun i hi => ?_⟩
    rw [List.length_take] at hi
    rw [h3 i (by omega)]
    have hi' : i < j := by omega
    simp [List.getD_eq_getElem?_getD, hi']
theorem Rw.drop {w : World} {a : Option Addr} {l : List Int} (h : Rw w a l) (j : Nat) {a' : Option Addr} (ha : ∀ b off, a = some ⟨b, off, none⟩ → j < l.length → a' = some ⟨b, off + j, none⟩) : Rw w a' (l.drop j) := by
  obtain ⟨h1, h2, h3⟩ := h
  refine ⟨fun n hn => h1 n (List.mem_of_mem_drop hn), by rw [List.length_drop]; omega, ?_⟩
  rcases h3 with rfl | ⟨b, off, rfl, h3⟩
  · left; simp
  · by_cases hj : j < l.length
    · refine .inr ⟨b, off + j, ha b off rfl hj, fun i hi => ?_⟩
      rw [List.length_drop] at hi
      rw [Nat.add_assoc, h3 (j + i) (by omega)]
      simp [List.getD_eq_getElem?_getD]
    · left; exact List.drop_of_length_le (by omega)
/-- where a slice goes on from a place, as the model says it -/
def mv (a : Option Addr) (cap j : Nat) : Option Addr := if cap = j then a else a.map (·.add j)
theorem Rw.mv {w : World} {a : Option Addr} {l : List Int} (h : Rw w a l) (j cap : Nat) (hc : l.length ≤ cap) : Rw w (mv a cap j) (l.drop j) :=
  h.drop j fun b off he hj => by unfold Ytnnpdlebgfjihaa.mv; rw [if_neg (by omega), he]; simp [Addr.add]
theorem Rw.cut {w : World} {a : Option Addr} {l : List Int} (h : Rw w a l) (j k cap : Nat) (hc : l.length ≤ cap) : Rw w (Ytnnpdlebgfjihaa.mv a cap j) ((l.drop j).take k) := (h.mv j cap hc).take k

theorem Try.info8 : (Try.prog.info? 5).map (fun i => (i.zero, i.size, i.bytes)) = some (some (.int .u8 0), 1, 1) := by kernel_rfl

theorem Rw.of_own {w : World} {base n : Nat} {v : Value} {zs : List Int} (h : w.ownsRow base 5 1 v n (zs.map (Value.int .u8))) (hz : ∀ m ∈ zs, U8 m) :
    ∃ a cap, v = .slice a n cap ∧ Rw w a zs ∧ zs.length = n ∧ n ≤ cap := by
  obtain ⟨hl, h⟩ := h
  have hl' : zs.length = n := by simpa using hl
  rcases h with ⟨rfl, rfl⟩ | ⟨g, cap, cur, rfl, _, hg, hn, hm, _, ht⟩
  · exact ⟨none, 0, rfl, ⟨hz, by omega, .inl (List.eq_nil_of_length_eq_zero hl')⟩, hl', Nat.le_refl _⟩
  · refine ⟨_, cap, rfl, ⟨hz, by omega, .inr ⟨g, 0, rfl, fun i hi => ?_⟩⟩, hl', hn⟩
    rw [Nat.zero_add, cell_of_row w g i cur _ _ hg]
    have h1 : (cur.toList.take (n * 1))[i]? = (zs.map (Value.int .u8))[i]? := by rw [ht]
    rw [List.getElem?_take, if_pos (by omega)] at h1
    rw [← Array.getElem?_toList, h1]
    simp [List.getD_eq_getElem?_getD, hi]

/-- bytes that are to be appended: none, by no address; or from an address on -/
def Src (w : World) (A : Option Addr) (l : List Int) : Prop :=
  (A = none ∧ l = []) ∨ ∃ ad, A = some ad ∧ ∀ j, j < l.length → w.cell? (ad.add j) = some (.int .u8 (l.getD j 0))
theorem Src.below {w w' : World} {A : Option Addr} {l : List Int} (h : Src w A l) (hb : Below w.heap.size w w') : Src w' A l := by
  rcases h with h | ⟨ad, rfl, h⟩
  · exact .inl h
  · exact .inr ⟨ad, rfl, fun j hj => by rw [hb.cell (block_lt_of_cell (h j hj))]; exact h j hj⟩
theorem Rw.src {w : World} {a : Option Addr} {l : List Int} (h : Rw w a l) : Src w a l := by
  obtain ⟨h1, h2, h3⟩ := h
  rcases a with _ | ad
  · rcases h3 with rfl | ⟨b, off, h, _⟩
    · exact .inl ⟨rfl, rfl⟩
    · cases h
  · refine .inr ⟨ad, rfl, fun j hj => ?_⟩
    rcases h3 with rfl | ⟨b, off, h, h3⟩
    · simp at hj
    · injection h with h
      subst h
      rw [show (⟨b, off, none⟩ : Addr).add j = ⟨b, off + j, none⟩ by simp [Addr.add]]
      exact h3 j hj

theorem run_append_nothing {P : Program} {w : World} {base : Nat} {t ty e : TypeId} {i : TypeInfo} {size : Nat} (ht : P.underlying t = some (.slice e)) (hi : P.info? e = some i)
    {v : Value} {n : Nat} {xs : List Value} (hown : w.ownsRow base e size v n xs) (c : Nat) : (Builtin.append_ #[t, t] ty #[v, .slice none 0 c]).run P w = .ok v w := by
  rcases hown.2 with ⟨rfl, rfl⟩ | ⟨g, cap, cur, rfl, _, _, hnc, _⟩
  · simp [Builtin.append_, run_underlying ht, sizeOf, typeInfo, hi, Builtin.lenOf, Builtin.firstCells]
  · simp [Builtin.append_, run_underlying ht, sizeOf, typeInfo, hi, Builtin.lenOf, Builtin.firstCells, hnc, storeCells]

theorem wp_append_nothing {P : Program} {w : World} {o : Oper} {a : Act} {K : Act → World → Prop} {Q : Exit → Act → World → Prop} (s x : Operand) (t : TypeId)
    (ho : o.op = .call { callee := .builtin .append, args := #[s, x], argTypes := #[t, t] })
    (base : Nat) (e : TypeId) (i : TypeInfo) (size : Nat) (ht : P.underlying t = some (.slice e)) (hi : P.info? e = some i)
    (v : Value) (n : Nat) (xs : List Value) (hs : a.eval s = v) (hown : w.ownsRow base e size v n xs) (c : Nat) (hx : a.eval x = .slice none 0 c)
    (h : K (a.put o.dst v) w) : o.wp P a w K Q := by
  have hrun := run_append_nothing (ty := o.type) ht hi hown c
  unfold Oper.wp execOp
  simp only [ho, resolve, invoke, builtin, Sem.run_bind, Sem.run_pure, Result.andThen_ok, List.map_toArray, List.map_cons, List.map_nil, hs, hx, hrun]
  exact h

/-- append of bytes onto a row of the call's own: the source nil, empty or not -/
theorem append_bytes {w : World} {ops : Array Oper} {rest : List Oper} {o : Oper} {a : Act} {Q : Exit → Act → World → Prop} (hgd : o.guard = none) (s x : Operand)
    (ho : o.op = .call { callee := .builtin .append, args := #[s, x], argTypes := #[39, 39] })
    (base : Nat) (v : Value) (n : Nat) (xs : List Int) (hs : a.eval s = v) (hown : w.ownsRow base 5 1 v n (xs.map (Value.int .u8)))
    (A : Option Addr) (m c : Nat) (l : List Int) (hx : a.eval x = .slice A m c) (hl : l.length = m) (hsrc : Src w A l) (h63 : n + m ≤ 1000000) (hbase : base ≤ w.heap.size)
    (h : ∀ v' w', w'.ownsRow base 5 1 v' (n + m) ((xs ++ l).map (Value.int .u8)) → Below base w w' → wpList Try.prog ops Q rest (a.put o.dst v') w') : wpList Try.prog ops Q (o :: rest) a w := by
  obtain ⟨i0, hi, hz0, hz1, hz2⟩ := info_parts Try.info8
  rcases hsrc with ⟨rfl, rfl⟩ | ⟨ad, rfl, hc⟩
  · simp at hl
    subst hl
    exact wpList_plain hgd fun _ hK => wp_append_nothing s x 39 ho base 5 i0 1 Try.underlying39 hi v n _ hs hown c hx (hK _ _ (h v w (by simpa using hown) (Below.refl _ _)))
  · refine wpList_append_own w hgd s x 39 ho base 5 i0 (.int .u8 0) 1 1 Try.underlying39 hi hz0 hz1 hz2 rfl (by decide) v n _ hs hown ad m c (l.map (Value.int .u8)) hx (by simp [hl]) ?_ ?_ (by unfold maxLen; omega) (by omega) hbase ?_
    · intro j u hu
      rw [List.getElem?_map] at hu
      by_cases hj : j < l.length
      · rw [hc j hj]
        simpa [hj] using hu
      · simp [List.getElem?_eq_none (by omega : l.length ≤ j)] at hu
    · intro u hu; obtain ⟨n, -, rfl⟩ := List.mem_map.1 hu; rfl
    · intro v' w' h1 h2 _
      rw [← List.map_append] at h1
      exact h v' w' h1 ((Below.refl _ _).grown h2 hbase (fun g hg => (hown.lt g hg).1))

theorem sum_len {a : Option Addr} {cap len : Nat} {zs : List Int} {w : World} (hr : Rw w a zs) (hl : zs.length = len) :
    Calls Try.prog 100 #[.slice a len cap] w fun e w' => e = .returned (.int .u32 (mo 0 zs)) ∧ w = w' := by
  subst hl
  exact sum_any _ _ _ _ hr
theorem mo_cut (s : Int) (l m : List Int) : mo (mo s l) m = mo s (l ++ m) := by
  unfold mo
  rw [V_N, BitVec.not_not, List.map_append, F_append]

theorem text_none (w : World) (a : Option Addr) (c : Nat) : (convert 39 9 (.slice a 0 c)).run Try.prog w = .ok (.string (strOfNums [])) w := by
  rw [run_convert_bytes_string w 39 9 5 a 0 c Try.underlying39 Try.underlying5 Try.underlying9]
  rcases a with _ | ad
  · rfl
  · exact run_bytesToString w ad 0 c [] (run_loadCells_list (P := Try.prog) w ad [] (fun j v hj => by simp at hj))

/-- a slice of bytes made into a string -/
theorem Rw.text {w : World} {a : Option Addr} {l : List Int} (h : Rw w a l) (n c : Nat) (hn : l.length = n) :
    (convert 39 9 (.slice a n c)).run Try.prog w = .ok (.string (strOfNums l)) w := by
  subst hn
  rcases h.2.2 with rfl | ⟨b, off, rfl, hc⟩
  · exact text_none w a c
  · exact run_convert_bytes_arg (P := Try.prog) w 39 5 Try.underlying39 Try.underlying5 b off l.length c l rfl hc 9 Try.underlying9

end Go.Proofs.Ytnnpdlebgfjihaa
