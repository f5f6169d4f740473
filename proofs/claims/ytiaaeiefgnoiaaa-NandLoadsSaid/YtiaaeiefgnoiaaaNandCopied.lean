/-
  Pages copied: the program's call copied, and what its row then holds. Nothing of one statement alone stands here.
-/
import Derived.Test.YtiaaeiefgnoiaaaNandPages
import Derived.Test.YtiaaeiefgnoiaaaNandKept
import Derived.Test.YtiaaeiefgnoiaaaRowLB
namespace Go.Proofs.Ytiaaeiefgnoiaaa
open Go.RowKit Crcm Go.ChangeShapes

/-- a copied page: nothing, or bytes in a block from B on -/
def PgN (w : World) (B : Nat) (v : Value) (l : List Int) : Prop :=
  (l = [] ∧ v = .slice none 0 0) ∨ (l ≠ [] ∧ ∃ b off c, v = .slice (some ⟨b, off, none⟩) l.length c ∧ l.length ≤ c ∧ B ≤ b ∧ Rw w (some ⟨b, off, none⟩) l)
theorem PgN.kp {F : Nat → Prop} {w w' : World} {B : Nat} {v : Value} {l : List Int} (h : PgN w B v l) (hk : Kp F w w') (hf : ∀ b, F b → b < B) : PgN w' B v l := by
  rcases h with h | ⟨h1, b, off, c, h2, h3, h4, h5⟩
  · exact .inl h
  · refine .inr ⟨h1, b, off, c, h2, h3, h4, ?_⟩
    exact (RwX.kp (F := F) (X := fun b => b < B) ⟨h5, fun b' off' s e _ g => by injection e with e; injection e with e1; omega⟩ hk hf).1
theorem PgN.below {w w' : World} {B : Nat} {v : Value} {l : List Int} (h : PgN w B v l) (hb : Below w.heap.size w w') : PgN w' B v l := h.kp (F := fun _ => False) (Kp.of_below hb) (fun _ g => g.elim)
theorem PgN.mono {w : World} {B B' : Nat} {v : Value} {l : List Int} (h : PgN w B v l) (hb : B' ≤ B) : PgN w B' v l := by
  rcases h with h | ⟨h1, b, off, c, h2, h3, h4, h5⟩
  · exact .inl h
  · exact .inr ⟨h1, b, off, c, h2, h3, by omega, h5⟩
theorem PgN.one {w : World} {B : Nat} {v : Value} {l : List Int} (h : PgN w B v l) : v.oneCell' = true := by
  rcases h with ⟨-, rfl⟩ | ⟨-, b, off, c, rfl, -⟩ <;> rfl
theorem PgN.sl {w : World} {B : Nat} {v : Value} {l : List Int} (h : PgN w B v l) : ∃ A c, v = .slice A l.length c ∧ l.length ≤ c ∧ Rw w A l := by
  rcases h with ⟨rfl, rfl⟩ | ⟨h1, b, off, c, h2, h3, h4, h5⟩
  · exact ⟨none, 0, rfl, Nat.le_refl _, Rw.nil⟩
  · exact ⟨_, c, h2, h3, h5⟩
/-- a row of so many copied pages, the others nothing -/
def Rn (w : World) (B g k : Nat) (ls : List (List Int)) : Prop :=
  ∃ cs, Blk w g 27 cs ∧ cs.size = ls.length ∧ ∀ i, i < ls.length → ∃ v, cs[i]? = some v ∧ PgN w B v (if i < k then ls[i]! else [])
theorem Rn.kp {F : Nat → Prop} {w w' : World} {B g k : Nat} {ls : List (List Int)} (h : Rn w B g k ls) (hk : Kp F w w') (hf : ∀ b, F b → b < B) (hg : ¬ F g) : Rn w' B g k ls := by
  obtain ⟨cs, h1, h2, h3⟩ := h
  refine ⟨cs, h1.kp hk hg, h2, fun i hi => ?_⟩
  obtain ⟨v, h4, h5⟩ := h3 i hi
  exact ⟨v, h4, h5.kp hk hf⟩
theorem Rn.below {w w' : World} {B g k : Nat} {ls : List (List Int)} (h : Rn w B g k ls) (hb : Below w.heap.size w w') : Rn w' B g k ls := h.kp (F := fun _ => False) (Kp.of_below hb) (fun _ g => g.elim) (fun g => g)
theorem Rn.lt {w : World} {B g k : Nat} {ls : List (List Int)} (h : Rn w B g k ls) : g < w.heap.size := by obtain ⟨cs, h1, -⟩ := h; exact h1.lt
theorem Rn.cell {w : World} {B g k : Nat} {ls : List (List Int)} (h : Rn w B g k ls) {i : Nat} (hi : i < ls.length) : ∃ v, w.cell? ⟨g, i, none⟩ = some v ∧ PgN w B v (if i < k then ls[i]! else []) := by
  obtain ⟨cs, h1, -, h3⟩ := h
  obtain ⟨v, h4, h5⟩ := h3 i hi
  exact ⟨v, (h1.cell i).trans h4, h5⟩
theorem Rn.froz {w : World} {B g k : Nat} {ls : List (List Int)} (h : Rn w B g k ls) (i : Nat) : w.frozen? ⟨g, i, none⟩ = false := by obtain ⟨cs, h1, -⟩ := h; exact h1.frozen i
theorem Rn.put {w : World} {B g k : Nat} {ls : List (List Int)} (h : Rn w B g k ls) (hg : g < B) (hk : k < ls.length) {v : Value} (hv : PgN w B v ls[k]!) : Rn (w.setCell ⟨g, k, none⟩ v) B g (k + 1) ls := by
  have hK : Kp (fun b => b = g) w (w.setCell ⟨g, k, none⟩ v) := (Kp.refl (fun b => b = g) w).setCell (p := ⟨g, k, none⟩) (.inl rfl) v
  obtain ⟨cs, h1, h2, h3⟩ := h
  refine ⟨_, h1.put k v, by rw [Array.size_setIfInBounds]; exact h2, fun i hi => ?_⟩
  rw [Array.getElem?_setIfInBounds]
  by_cases e : k = i
  · subst e
    rw [if_pos rfl, if_pos (by omega), if_pos (Nat.lt_succ_self _)]
    exact ⟨v, rfl, hv.kp hK (fun b e => e ▸ hg)⟩
  · rw [if_neg e]
    obtain ⟨u, h4, h5⟩ := h3 i hi
    refine ⟨u, h4, ?_⟩
    have e2 : (if i < k + 1 then ls[i]! else []) = (if i < k then ls[i]! else []) := by
      by_cases h : i < k
      · rw [if_pos h, if_pos (by omega)]
      · rw [if_neg h, if_neg (by omega)]
    rw [e2]
    exact h5.kp hK (fun b e => e ▸ hg)
theorem Rn.skip {w : World} {B g k : Nat} {ls : List (List Int)} (h : Rn w B g k ls) (hv : ls[k]! = []) : Rn w B g (k + 1) ls := by
  obtain ⟨cs, h1, h2, h3⟩ := h
  refine ⟨cs, h1, h2, fun i hi => ?_⟩
  obtain ⟨u, h4, h5⟩ := h3 i hi
  refine ⟨u, h4, ?_⟩
  by_cases e : i = k
  · subst e
    rw [if_neg (Nat.lt_irrefl _)] at h5
    rw [if_pos (Nat.lt_succ_self _), hv]
    exact h5
  · have e2 : (if i < k + 1 then ls[i]! else []) = (if i < k then ls[i]! else []) := by
      by_cases h : i < k
      · rw [if_pos h, if_pos (by omega)]
      · rw [if_neg h, if_neg (by omega)]
    rw [e2]
    exact h5
theorem Rn.all {w : World} {B g k : Nat} {ls : List (List Int)} (h : Rn w B g k ls) (hk : k = ls.length) : ∃ cs, Blk w g 27 cs ∧ cs.size = ls.length ∧ ∀ i, i < ls.length → ∃ v, cs[i]? = some v ∧ PgN w B v ls[i]! := by
  obtain ⟨cs, h1, h2, h3⟩ := h
  refine ⟨cs, h1, h2, fun i hi => ?_⟩
  obtain ⟨v, h4, h5⟩ := h3 i hi
  rw [if_pos (by omega)] at h5
  exact ⟨v, h4, h5⟩

set_option maxRecDepth 100000 in
set_option maxHeartbeats 2000000 in
theorem copied_any (a : Option Addr) (n c : Nat) (ls : List (List Int)) (w : World) (h : Rl w a ls) (hn : ls.length = n) (hn2 : n ≤ 100) (hl : ∀ l ∈ ls, l.length ≤ 100000) :
    Calls Try.prog 33 #[.slice a n c] w fun e w' => e = .returned (.slice (some ⟨w.heap.size, 0, none⟩) n n) ∧ Rn w' (w.heap.size + 1) w.heap.size n ls ∧ Below w.heap.size w w' := by
  obtain ⟨i0, hi, hz0, hz1, hz2⟩ := info_parts Try.infoPg
  have H := Lib.hid h
  have HN := Lib.hid hn
  have HL := Lib.hid hl
  have n1 : n ≤ 9223372036854775807 := by omega
  clear h hn hl
  go_enter Try.func33, Try.ntmps33
  go_wp2_with (at_make; refine wpList_make_blk _ rfl _ _ 24 rfl 27 i0 _ 1 Try.underlying24 hi hz0 hz1 .i64 .i64 _ _ n rfl rfl rfl rfl (by rw [hz2]; omega) (by unfold maxLen; omega) ?_)
  intro w1 hBk hB1 hS1
  have HI0 : Hid (Rn w1 (w.heap.size + 1) w.heap.size 0 ls) := Lib.hid ⟨_, hBk.out, by rw [size_madeCells, HN.out], fun i hi => ⟨.slice none 0 0, made_get (by have := HN.out; omega), .inl ⟨rfl, rfl⟩⟩⟩
  have HB1 := Lib.hid hB1.out
  generalize hg : w.heap.size = g at HI0 ⊢
  have HG := Lib.hid hg
  clear hBk hS1 hB1 hi hz0 hz1 hz2 hg
  go_wp2_with fail
  go_loopw [11] (fun i wr => ∃ k : Nat, k ≤ n ∧ i = .int .i64 k ∧ Hid (Rn wr (g + 1) g k ls) ∧ Hid (Below w.heap.size w wr)) (fun i _ => n - (intOf i).toNat)
  case atStart => exact ⟨0, Nat.zero_le _, rfl, HI0, HB1⟩
  case round =>
    obtain ⟨k, hkn, rfl, hI, hB⟩ := hrel
    by_cases hlt : k < n
    · have hlt' : (k : Int) < (n : Int) := by omega
      have hkl : k < ls.length := by rw [HN.out]; exact hlt
      obtain ⟨b, off, A, cc, rfl, hc, hcc, hr⟩ := (H.out.below hB.out).at hkl
      have hml : ls[k]!.length ≤ 100000 := HL.out _ (by rw [getElem!_pos ls k hkl]; exact List.getElem_mem hkl)
      have HPut := Lib.hid (fun (W : World) (hR : Rn W (g + 1) g k ls) (v : Value) (hv : PgN W (g + 1) v ls[k]!) => hR.put (Nat.lt_succ_self _) hkl hv)
      have HSk := Lib.hid (fun (hv : ls[k]! = []) => hI.out.skip hv)
      obtain ⟨v0, s0, -⟩ := hI.out.cell hkl
      have z0 := hI.out.froz k
      generalize ls[k]! = l at hc hcc hr hml HPut HSk
      obtain ⟨m, hm⟩ : ∃ m, l.length = m := ⟨_, rfl⟩
      rw [hm] at hc hcc hml
      have HM := Lib.hid hm
      by_cases h0 : m = 0
      · have hl0 : l = [] := List.eq_nil_of_length_eq_zero (by omega)
        have HS := Lib.hid (HSk.out hl0)
        subst h0
        clear hm hl0 HSk HPut hr hml s0 z0 hI
        go_wp2
        go_roundw
        case rel => exact ⟨k + 1, by omega, by go_num, HS, hB⟩
        case measure => simp [intOf]; omega
      · have hm0 : (0 : Int) < (m : Int) := by omega
        have hne : l ≠ [] := fun e => h0 (by rw [← hm, e]; rfl)
        have HNe := Lib.hid hne
        have HCl := Lib.hid (clone_all A m cc l wr hr hm hml)
        have m9 : m ≤ 9223372036854775807 := by omega
        clear hm hne h0 HSk hml hr
        go_wp2_with fail
        refine HCl.out.mono ?_
        rintro e w2 ⟨⟨a', c2, rfl, hc2, ha', hr'⟩, hb2⟩
        have hR2 := hI.out.below hb2
        obtain ⟨v1, s1, -⟩ := hR2.cell hkl
        have z1 := hR2.froz k
        have hgw : g < wr.heap.size := hI.out.lt
        have hPg : PgN w2 (g + 1) (.slice a' m c2) l := by
          obtain ⟨h1, h2, h3⟩ := hr'
          rcases h3 with h3 | ⟨b', off', rfl, h3⟩
          · exact absurd h3 HNe.out
          · exact .inr ⟨HNe.out, b', off', c2, by rw [HM.out], by rw [HM.out]; exact hc2, by have := ha' b' off' none rfl; omega, h1, h2, .inr ⟨b', off', rfl, h3⟩⟩
        have HP := Lib.hid (HPut.out w2 hR2 _ hPg)
        have HB2 := Lib.hid ((hB.out.trans (hb2.mono hB.out.size)).setCell (p := ⟨g, k, none⟩) (by show w.heap.size ≤ g; have := HG.out; omega) (.slice a' m c2))
        clear hR2 hPg hr' ha' hb2 s0 z0 hI HCl HPut
        go_wp2
        go_roundw
        case rel => exact ⟨k + 1, by omega, by go_num, HP, HB2⟩
        case measure => simp [intOf]; omega
    · have hkn2 : k = n := by omega
      have hlt' : ¬ (k : Int) < (n : Int) := by omega
      subst hkn2
      go_wp2
      go_ret
      have e := HG.out
      subst e
      exact ⟨rfl, hI.out, hB.out⟩

end Go.Proofs.Ytiaaeiefgnoiaaa
