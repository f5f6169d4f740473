/-
  The map in which pointer pages are counted: what a way reads as, how one more is counted. Nothing of one statement alone stands here.
-/
import Derived.Test.YtladgfonkolpmaaInts
import Derived.Test.YtladgfonkolpmaaRoomLook
import Derived.Maps.OwnSet
import Derived.Maps.OwnOps
import Derived.WideKeyEntry
import Derived.DeepKeys4
namespace Go.Proofs.Ytladgfonkolpmaa
open Go.RowKit Crcm Tagm Inom Roomm Go.ChangeShapes Go.Maps

theorem laidOutW : laidOutB Try.prog = true := by kernel_rfl
theorem wayLaw : WideMaps.KeyLaw Try.prog 59 := deep_law_laid laidOutW (m := 2) (by omega) (of_decide_eq_true (by kernel_rfl)) (by kernel_rfl) (by kernel_rfl)
theorem wayKeyed : Keyed Try.prog 59 := Keyed.of_law wayLaw
theorem wayType : Try.prog.keyType 59 = true := by kernel_rfl

/-- a way, as a value -/
def wv (a b c : Int) : Value := .agg #[.int .i64 a, .int .i64 b, .int .i64 c]
/-- what a way reads as, as a key -/
def kk (a b c : Int) : Lit := .string (keyBytes [.int .i64 a, .int .i64 b, .int .i64 c])

theorem lits_int {d : Nat} {a : Int} (ha : (Lit.int .i64 a).wf = true) : Try.prog.keyLits (d + 1) 3 [.int .i64 a] = some [.int .i64 a] := by
  unfold Program.keyLits
  rw [Try.underlying3]
  simp [ha]
set_option maxRecDepth 100000 in
theorem lits_way {d : Nat} {a b c : Int} (ha : (Lit.int .i64 a).wf = true) (hb : (Lit.int .i64 b).wf = true) (hc : (Lit.int .i64 c).wf = true) : Try.prog.keyLits (d + 2) 59 [.int .i64 a, .int .i64 b, .int .i64 c] = some [.int .i64 a, .int .i64 b, .int .i64 c] := by
  have e2 : Try.prog.cellsOf 59 = 3 := by kernel_rfl
  have e3 : Try.prog.cellsOf 3 = 1 := by kernel_rfl
  unfold Program.keyLits
  rw [Try.underlying59]
  simp [e2, e3, lits_int, ha, hb, hc]
theorem keyOf_way {a b c : Int} (ha : (Lit.int .i64 a).wf = true) (hb : (Lit.int .i64 b).wf = true) (hc : (Lit.int .i64 c).wf = true) : keyOf Try.prog 59 (wv a b c) = some (kk a b c) := by
  have e2 : Try.prog.cellsOf 59 = 3 := by kernel_rfl
  have hd : ∃ d, Try.prog.types.size + 1 = d + 2 := ⟨Try.prog.types.size - 1, by
    have : decide (1 ≤ Try.prog.types.size) = true := by kernel_rfl
    have := of_decide_eq_true this
    omega⟩
  obtain ⟨d, hd⟩ := hd
  unfold keyOf
  rw [Try.underlying59, wayType, hd]
  simp [wv, Value.formed, Try.underlying59, e2, Value.cells, lits_way ha hb hc, kk]

theorem kk_inj {a b c a' b' c' : Int} (h1 : (Lit.int .i64 a).wf = true) (h2 : (Lit.int .i64 b).wf = true) (h3 : (Lit.int .i64 c).wf = true) (h4 : (Lit.int .i64 a').wf = true) (h5 : (Lit.int .i64 b').wf = true) (h6 : (Lit.int .i64 c').wf = true)
    (h : kk a b c = kk a' b' c') : a = a' ∧ b = b' ∧ c = c' := by
  have := wayKeyed.inj (keyOf_way h1 h2 h3) (by rw [h]; exact keyOf_way h4 h5 h6)
  simpa [wv] using this

/-- what one more in the map does, whatever was in it -/
theorem incr_any {H : Type} {w : World} {b n : Nat} {D : DataW H} (h : w.ownsMap Try.prog 59 (plainElem Try.prog 3) b n D) (hn : n < maxLen) {a b' c : Int} (ha : (Lit.int .i64 a).wf = true) (hb' : (Lit.int .i64 b').wf = true) (hc : (Lit.int .i64 c).wf = true) :
    ∃ (x : Int) (v0 : Value) (st : Nat) (w1 w2 : World), (Instr.lookup 75 (.map (some b)) (wv a b' c) false).run Try.prog w = .ok (.int .i64 x) w ∧ (Instr.lookup 75 (.map (some b)) (wv a b' c) false).run Try.prog w1 = .ok (.int .i64 x) w1 ∧
      (Instr.mapEntry 75 (.map (some b)) (wv a b' c)).run Try.prog w = .ok (.tuple #[v0, .int .i64 st]) w1 ∧
      (Instr.entryStore 75 (.map (some b)) (.int .i64 st) (.int .i64 (IntKind.i64.wrap (x + 1)))).run Try.prog w1 = .ok () w2 ∧
      w2.ownsMap Try.prog 59 (plainElem Try.prog 3) b (n + 1) (D.put (kk a b' c) (.lit (.int .i64 (IntKind.i64.wrap (x + 1))))) ∧ w.grownBy w2 (some b) := by
  have hkey := keyOf_way ha hb' hc
  obtain ⟨x, hrun, _, -⟩ := h.lookup_int wayKeyed Try.underlying75 Try.underlying3 (by kernel_rfl) hkey
  obtain ⟨w', hup, hown, hg⟩ := h.update wayKeyed Try.underlying75 hn hkey (plainElem_int Try.underlying3 (wf_wrap .i64 (x + 1)))
  obtain ⟨es, clock, hb, F, hs, hD⟩ := h
  obtain ⟨v0, st, es1, clock1, hE, -, hS⟩ := WideElems.entry_then_store wayLaw Try.underlying75 (z := .int .i64 0) (fun u => by kernel_rfl) hb F hkey
  obtain ⟨es', clock', hst, hup'⟩ := hS (ChangeMaps.setBlock w b (.map es1 clock1)) (.int .i64 (IntKind.i64.wrap (x + 1))) (ChangeMaps.heap_setBlock_same hb _)
  have e : w' = ChangeMaps.setBlock w b (.map es' clock') := by
    rw [hup] at hup'
    injection hup'
  have e2 : ChangeMaps.setBlock (ChangeMaps.setBlock w b (.map es1 clock1)) b (.map es' clock') = w' := by
    rw [e]; simp [ChangeMaps.setBlock]
  rw [e2] at hst
  exact ⟨x, v0, st, _, w', hrun, look_after wayKeyed Try.underlying75 (z := .int .i64 0) (fun u => by kernel_rfl) hb F hkey hrun hE, hE, hst, hown, hg⟩

/-- the map behind so many pages of a row -/
def MapAt (w : World) (B : Nat) (s : Int) (l : List Int) (k : Nat) : Prop := ∃ D : DataW Unit, w.ownsMap Try.prog 59 (plainElem Try.prog 3) B k D ∧ Maps.size D = l1 s (l.take k) + k2 s (l.take k) ∧
  Maps.has D (kk 1 0 0) = decide (l1 s (l.take k) = 1) ∧ ∀ f : Nat, f < 256 → Maps.has D (kk 2 f 0) = at2 s (l.take k) f

theorem MapAt.below {w w' : World} {B k : Nat} {s : Int} {l : List Int} (h : MapAt w B s l k) (hb : Below w.heap.size w w') : MapAt w' B s l k := by
  obtain ⟨D, ⟨es, clock, hB, F, hs, hD⟩, h1, h2, h3⟩ := h
  exact ⟨D, ⟨es, clock, (hb.block B (Array.getElem?_eq_some_iff.1 hB).1).trans hB, F, hs, hD⟩, h1, h2, h3⟩
theorem at2_no {s : Int} {l : List Int} {n : Int} {f : Nat} (h : ¬ (lv s n = 2 ∧ fi s n = (f : Int))) : at2 s (l ++ [n]) f = at2 s l f := by rw [at2_snoc, decide_eq_false h, Bool.or_false]
theorem at2_yes {s : Int} {l : List Int} {n : Int} {f : Nat} (h : lv s n = 2 ∧ fi s n = (f : Int)) : at2 s (l ++ [n]) f = true := by rw [at2_snoc, decide_eq_true h, Bool.or_true]
theorem k2_nil (s : Int) : k2 s [] = 0 := by
  unfold k2
  rw [List.filter_eq_nil_iff.2 (fun f _ => by simp [at2])]; rfl
theorem MapAt.new (w : World) (s : Int) (l : List Int) : MapAt (w.alloc (.map #[] 0)) w.heap.size s l 0 :=
  ⟨.map [], World.ownsMap_made _ _ _ _, by rw [List.take_zero, k2_nil]; simp [Maps.size, l1], by simp [Maps.has, l1], fun f _ => by simp [Maps.has, at2]⟩
theorem MapAt.lt {w : World} {B k : Nat} {s : Int} {l : List Int} (h : MapAt w B s l k) : B < w.heap.size := by obtain ⟨D, h, _⟩ := h; exact h.lt

theorem wf0 : (Lit.int .i64 0).wf = true := by decide
theorem wf1 : (Lit.int .i64 1).wf = true := by decide
theorem wf2 : (Lit.int .i64 2).wf = true := by decide
theorem wfn {f : Nat} (h : f < 256) : (Lit.int .i64 f).wf = true := WalkArith.wf_i64 (by omega)

theorem MapAt.skip {w : World} {B k : Nat} {s : Int} {l : List Int} (h : MapAt w B s l k) (hk : k < l.length) (hn : lv s (l.getD k 0) = 0) : MapAt w B s l (k + 1) := by
  obtain ⟨D, ho, h1, h2, h3⟩ := h
  refine ⟨D, ho.mono (Nat.le_succ _), ?_, ?_, fun f hf => ?_⟩
  · rw [take_getD hk, l1_snoc, k2_snoc_other _ (by omega), if_neg (by omega)]; exact h1
  · rw [take_getD hk, l1_snoc, if_neg (by omega)]; exact h2
  · rw [take_getD hk, at2_no (by omega)]; exact h3 f hf

theorem MapAt.one {w : World} {B k : Nat} {s : Int} {l : List Int} (h : MapAt w B s l k) (hk : k < l.length) (hm : k < maxLen) (hn : lv s (l.getD k 0) = 1) :
    ∃ (x : Int) (v0 : Value) (st : Nat) (w1 w2 : World), (Instr.lookup 75 (.map (some B)) (wv 1 0 0) false).run Try.prog w = .ok (.int .i64 x) w ∧ (Instr.lookup 75 (.map (some B)) (wv 1 0 0) false).run Try.prog w1 = .ok (.int .i64 x) w1 ∧
      (Instr.mapEntry 75 (.map (some B)) (wv 1 0 0)).run Try.prog w = .ok (.tuple #[v0, .int .i64 st]) w1 ∧
      (Instr.entryStore 75 (.map (some B)) (.int .i64 st) (.int .i64 (IntKind.i64.wrap (x + 1)))).run Try.prog w1 = .ok () w2 ∧
      MapAt w2 B s l (k + 1) ∧ w.grownBy w2 (some B) := by
  obtain ⟨D, ho, h1, h2, h3⟩ := h
  obtain ⟨x, v0, st, w1, w2, q1, q1', q2, q3, q4, q5⟩ := incr_any ho hm wf1 wf0 wf0
  refine ⟨x, v0, st, w1, w2, q1, q1', q2, q3, ⟨_, q4, ?_, ?_, fun f hf => ?_⟩, q5⟩
  · rw [take_getD hk, l1_snoc, k2_snoc_other _ (by omega), if_pos hn, Maps.size_put (ho.tidy wayKeyed), h1, h2]
    have := l1_le s (l.take k)
    by_cases e : l1 s (l.take k) = 1
    · rw [e]; simp
    · have e : l1 s (l.take k) = 0 := by omega
      rw [e]; simp; omega
  · rw [take_getD hk, l1_snoc, if_pos hn, Maps.has_put_same ho.isMap (wayKeyed.key (keyOf_way wf1 wf0 wf0))]; rfl
  · rw [take_getD hk, at2_no (by omega), Maps.has_put_other (fun e => by have := (kk_inj wf2 (wfn hf) wf0 wf1 wf0 wf0 e).1; omega), h3 f hf]

theorem MapAt.two {w : World} {B k : Nat} {s : Int} {l : List Int} (h : MapAt w B s l k) (hk : k < l.length) (hm : k < maxLen) {g : Nat} (hn : lv s (l.getD k 0) = 2) (hg : fi s (l.getD k 0) = (g : Int)) (h256 : g < 256) :
    ∃ (x : Int) (v0 : Value) (st : Nat) (w1 w2 : World), (Instr.lookup 75 (.map (some B)) (wv 2 g 0) false).run Try.prog w = .ok (.int .i64 x) w ∧ (Instr.lookup 75 (.map (some B)) (wv 2 g 0) false).run Try.prog w1 = .ok (.int .i64 x) w1 ∧
      (Instr.mapEntry 75 (.map (some B)) (wv 2 g 0)).run Try.prog w = .ok (.tuple #[v0, .int .i64 st]) w1 ∧
      (Instr.entryStore 75 (.map (some B)) (.int .i64 st) (.int .i64 (IntKind.i64.wrap (x + 1)))).run Try.prog w1 = .ok () w2 ∧
      MapAt w2 B s l (k + 1) ∧ w.grownBy w2 (some B) := by
  obtain ⟨D, ho, h1, h2, h3⟩ := h
  obtain ⟨x, v0, st, w1, w2, q1, q1', q2, q3, q4, q5⟩ := incr_any ho hm wf2 (wfn h256) wf0
  refine ⟨x, v0, st, w1, w2, q1, q1', q2, q3, ⟨_, q4, ?_, ?_, fun f hf => ?_⟩, q5⟩
  · rw [take_getD hk, l1_snoc, k2_snoc _ hn hg h256, if_neg (by omega), Maps.size_put (ho.tidy wayKeyed), h1, h3 g h256]
    cases at2 s (l.take k) g <;> simp <;> omega
  · rw [take_getD hk, l1_snoc, if_neg (by omega), Maps.has_put_other (fun e => by have := (kk_inj wf1 wf0 wf0 wf2 (wfn h256) wf0 e).1; omega)]; exact h2
  · rw [take_getD hk]
    by_cases e : f = g
    · subst e
      rw [Maps.has_put_same ho.isMap (wayKeyed.key (keyOf_way wf2 (wfn h256) wf0)), at2_yes ⟨hn, hg⟩]
    · rw [Maps.has_put_other (fun e' => by have := (kk_inj wf2 (wfn hf) wf0 wf2 (wfn h256) wf0 e').2.1; omega), h3 f hf, at2_no (by omega)]
end Go.Proofs.Ytladgfonkolpmaa
