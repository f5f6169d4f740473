/-
  Slices of ints that came in or were made: what they read as, how they are appended and held against one another. Nothing of one statement alone stands here.
-/
import Derived.Test.YtladgfonkolpmaaBlk
import Derived.Test.YtladgfonkolpmaaBytes
import Derived.Lib.Hide
import Derived.Outline
import Derived.Test.YtladgfonkolpmaaRoomMath
import Derived.Test.YtladgfonkolpmaaLater
import Derived.Laws.AppendOwnNone
import Derived.Deep.QuietTactic
import Derived.BigQuiet
import Derived.WalkMore
import Derived.Maps.AppendAt
namespace Roomm
theorem take_step' {α : Type} {l m : List α} {k : Nat} (h1 : k < l.length) (h2 : k < m.length) (h : l.take k = m.take k) (e : l[k] = m[k]) : l.take (k + 1) = m.take (k + 1) := by
  rw [List.take_succ_eq_append_getElem h1, List.take_succ_eq_append_getElem h2, h, e]
theorem take_getD {l : List Int} {k : Nat} (h : k < l.length) : l.take (k + 1) = l.take k ++ [l.getD k 0] := by
  rw [List.take_succ_eq_append_getElem h, List.getD_eq_getElem?_getD, List.getElem?_eq_getElem h]; rfl
end Roomm
namespace Go.Proofs.Ytladgfonkolpmaa
open Go.RowKit Crcm Tagm Inom Roomm Go.ChangeShapes

def I64 (n : Int) : Prop := -9223372036854775808 ≤ n ∧ n ≤ 9223372036854775807
theorem I64_wf {n : Int} (h : (Lit.int .i64 n).wf = true) : I64 n := by have := bounds_i64 h; unfold I64; omega
theorem I64_lit {n : Int} (h : I64 n) : (Lit.int .i64 n).wf = true := by unfold I64 at h; exact WalkArith.wf_i64 (by omega)

/-- what is told of a slice of ints that came in -/
def RowI (w : World) (a : Option Addr) (len cap : Nat) (zs : List Int) : Prop :=
  (a = none ∧ len = 0 ∧ cap = 0 ∧ zs = []) ∨
  ∃ x, a = some x ∧ len ≤ cap ∧ cap ≤ maxLen ∧ zs.length = cap ∧ (∀ i, i < zs.length → w.cell? (x.add i) = some (.int .i64 (zs.getD i 0))) ∧ ∀ n ∈ zs, (Lit.int .i64 n).wf = true

/-- ints that lie in memory -/
def Ri (w : World) (a : Option Addr) (l : List Int) : Prop :=
  (∀ n ∈ l, I64 n) ∧ l.length ≤ maxLen ∧ (l = [] ∨ ∃ b off, a = some ⟨b, off, none⟩ ∧ ∀ j, j < l.length → w.cell? ⟨b, off + j, none⟩ = some (.int .i64 (l.getD j 0)))

theorem RowI.ri {w : World} {a : Option Addr} {len cap : Nat} {zs : List Int} (h : RowI w a len cap zs) : ∃ l : List Int, l.length = len ∧ len ≤ cap ∧ Ri w a l ∧ (a = none → len = 0 ∧ cap = 0) := by
  rcases h with ⟨rfl, rfl, rfl, rfl⟩ | ⟨x, rfl, hl, hm, hz, hc, hw⟩
  · exact ⟨[], rfl, Nat.le_refl _, ⟨by simp, by simp, .inl rfl⟩, fun _ => ⟨rfl, rfl⟩⟩
  · refine ⟨zs.take len, by rw [List.length_take]; omega, hl, ⟨fun n hn => I64_wf (hw n (List.mem_of_mem_take hn)), by rw [List.length_take]; omega, ?_⟩, fun e => by cases e⟩
    by_cases h0 : len = 0
    · left; subst h0; rfl
    · right
      obtain ⟨b, off, spot⟩ := x
      have hc0 := hc 0 (by omega)
      have hspot : spot = none := by simpa [Addr.add] using World.cell?_spot hc0
      subst hspot
      refine ⟨b, off, rfl, fun i hi => ?_⟩
      have hi' : i < len := by rw [List.length_take] at hi; omega
      have := hc i (by omega)
      rw [show (⟨b, off, none⟩ : Addr).add i = ⟨b, off + i, none⟩ by simp [Addr.add]] at this
      rw [this]
      simp [List.getD_eq_getElem?_getD, hi']
theorem Ri.below {w w' : World} {a : Option Addr} {l : List Int} (h : Ri w a l) (hb : Below w.heap.size w w') : Ri w' a l := by
  obtain ⟨h1, h2, h3⟩ := h
  refine ⟨h1, h2, ?_⟩
  rcases h3 with h3 | ⟨b, off, rfl, h3⟩
  · exact .inl h3
  · exact .inr ⟨b, off, rfl, fun j hj => by have := h3 j hj; exact (hb.cell (p := ⟨b, off + j, none⟩) (block_lt_of_cell this)).trans this⟩
theorem Ri.nil {w : World} {a : Option Addr} : Ri w a [] := ⟨by simp, by simp, .inl rfl⟩
theorem Ri.take {w : World} {a : Option Addr} {l : List Int} (h : Ri w a l) (j : Nat) : Ri w a (l.take j) := by
  obtain ⟨h1, h2, h3⟩ := h
  refine ⟨fun n hn => h1 n (List.mem_of_mem_take hn), by rw [List.length_take]; omega, ?_⟩
  rcases h3 with rfl | ⟨b, off, rfl, h3⟩
  · left; simp
  · refine .inr ⟨b, off, rfl, fun i hi => ?_⟩
    rw [List.length_take] at hi
    rw [h3 i (by omega)]
    have hi' : i < j := by omega
    simp [List.getD_eq_getElem?_getD, hi']
theorem Ri.mv {w : World} {a : Option Addr} {l : List Int} (h : Ri w a l) (j cap : Nat) (hc : l.length ≤ cap) : Ri w (mv a cap j) (l.drop j) := by
  obtain ⟨h1, h2, h3⟩ := h
  refine ⟨fun n hn => h1 n (List.mem_of_mem_drop hn), by rw [List.length_drop]; omega, ?_⟩
  rcases h3 with rfl | ⟨b, off, rfl, h3⟩
  · left; simp
  · by_cases hj : j < l.length
    · refine .inr ⟨b, off + j, by unfold Ytladgfonkolpmaa.mv; rw [if_neg (by omega)]; simp [Addr.add], fun i hi => ?_⟩
      rw [List.length_drop] at hi
      rw [Nat.add_assoc, h3 (j + i) (by omega)]
      simp [List.getD_eq_getElem?_getD]
    · left; exact List.drop_of_length_le (by omega)
theorem Ri.at {w : World} {a : Option Addr} {l : List Int} (h : Ri w a l) {j : Nat} (hj : j < l.length) : ∃ b off, a = some ⟨b, off, none⟩ ∧ w.cell? ⟨b, off + j, none⟩ = some (.int .i64 (l.getD j 0)) := by
  rcases h.2.2 with rfl | ⟨b, off, rfl, h3⟩
  · simp at hj
  · exact ⟨b, off, rfl, h3 j hj⟩
theorem Ri.addr {w : World} {a : Option Addr} {l : List Int} (h : Ri w a l) (hl : 0 < l.length) : ∃ b off, a = some ⟨b, off, none⟩ := by
  obtain ⟨b, off, e, _⟩ := h.at hl; exact ⟨b, off, e⟩
theorem Ri.of_own {w : World} {base n : Nat} {v : Value} {zs : List Int} (h : w.ownsRow base 3 1 v n (zs.map (Value.int .i64))) (hz : ∀ m ∈ zs, I64 m) :
    ∃ a cap, v = .slice a n cap ∧ Ri w a zs ∧ zs.length = n ∧ n ≤ cap := by
  obtain ⟨hl, h⟩ := h
  have hl' : zs.length = n := by simpa using hl
  rcases h with ⟨rfl, rfl⟩ | ⟨g, cap, cur, rfl, _, hg, hn, hm, _, ht⟩
  · exact ⟨none, 0, rfl, ⟨hz, by omega, .inl (List.eq_nil_of_length_eq_zero hl')⟩, hl', Nat.le_refl _⟩
  · refine ⟨_, cap, rfl, ⟨hz, by omega, .inr ⟨g, 0, rfl, fun i hi => ?_⟩⟩, hl', hn⟩
    rw [Nat.zero_add, cell_of_row w g i cur _ _ hg]
    have h1 : (cur.toList.take (n * 1))[i]? = (zs.map (Value.int .i64))[i]? := by rw [ht]
    rw [List.getElem?_take, if_pos (by omega)] at h1
    rw [← Array.getElem?_toList, h1]
    simp [List.getD_eq_getElem?_getD, hi]
theorem latercell {w : World} (m : Later w) {p : Addr} {v : Value} (h : w.cell? p = some v) : m.to.cell? p = some v := (m.bel.cell (block_lt_of_cell h)).trans h

theorem Try.infoInt : (Try.prog.info? 3).map (fun i => (i.zero, i.size, i.bytes)) = some (some (.int .i64 0), 1, 8) := by kernel_rfl

set_option maxRecDepth 100000 in
/-- append of ints onto a row of the call's own: the source nil, empty or not; and where the row lies behind it -/
theorem append_ints {w : World} {ops : Array Oper} {rest : List Oper} {o : Oper} {a : Act} {Q : Exit → Act → World → Prop} (hgd : o.guard = none) (s x : Operand)
    (ho : o.op = .call { callee := .builtin .append, args := #[s, x], argTypes := #[31, 31] })
    (base : Nat) (v : Value) (n : Nat) (xs : List Int) (hs : a.eval s = v) (hown : w.ownsRow base 3 1 v n (xs.map (Value.int .i64)))
    (A : Option Addr) (m c : Nat) (l : List Int) (hx : a.eval x = .slice A m c) (hl : l.length = m) (hr : Ri w A l) (hA : A = none → c = 0) (h63 : n + m ≤ 1000000) (hbase : base ≤ w.heap.size)
    (h : ∀ v' w', w'.ownsRow base 3 1 v' (n + m) ((xs ++ l).map (Value.int .i64)) → Below base w w' → w.grownBy w' v.ownBlock → (v'.ownBlock = v.ownBlock ∨ v'.ownBlock = some w.heap.size) → wpList Try.prog ops Q rest (a.put o.dst v') w') : wpList Try.prog ops Q (o :: rest) a w := by
  obtain ⟨i0, hi, hz0, hz1, hz2⟩ := info_parts Try.infoInt
  rcases A with _ | ad
  · have hm : m = 0 := by
      rcases hr.2.2 with rfl | ⟨b, off, e, _⟩
      · simpa using hl.symm
      · cases e
    subst hm
    obtain rfl := List.eq_nil_of_length_eq_zero hl
    obtain rfl := hA rfl
    refine wpList_append_own_none hgd s x 31 ho base 3 i0 1 Try.underlying31 hi v n _ hs hown hx ?_
    exact h v w (by simpa using hown) (Below.refl _ _) ⟨rfl, rfl, rfl, Nat.le_refl _, fun _ _ _ => rfl⟩ (.inl rfl)
  · refine wpList_append_own_at w hgd s x 31 ho base 3 i0 (.int .i64 0) 1 8 Try.underlying31 hi hz0 hz1 hz2 rfl (by decide) v n _ hs hown ad m c (l.map (Value.int .i64)) hx (by simp [hl]) ?_ ?_ (by unfold maxLen; omega) (by omega) hbase ?_
    · intro j u hu
      rw [List.getElem?_map] at hu
      by_cases hj : j < l.length
      · obtain ⟨b, off, e, hc⟩ := hr.at hj
        injection e with e
        subst e
        rw [show (⟨b, off, none⟩ : Addr).add j = ⟨b, off + j, none⟩ by simp [Addr.add], hc]
        simpa [List.getD_eq_getElem?_getD, hj] using hu
      · simp [List.getElem?_eq_none (by omega : l.length ≤ j)] at hu
    · intro u hu; obtain ⟨n, -, rfl⟩ := List.mem_map.1 hu; rfl
    · intro v' w' h1 h2 _ h4
      rw [← List.map_append] at h1
      exact h v' w' h1 ((Below.refl _ _).grown h2 hbase (fun g hg => (hown.lt g hg).1)) h2 h4

theorem sbool' {a b : Bool} (h : a = b) : Ending.returned (.bool a) = .returned (.bool b) := by rw [h]

set_option maxRecDepth 100000 in
set_option maxHeartbeats 1000000 in
theorem sameI_any (l m : List Int) (a b : Option Addr) (c1 c2 n q : Nat) (w : World) (ha : Ri w a l) (hb : Ri w b m) (hl : l.length = n) (hm : m.length = q) :
    Calls Try.prog 31 #[.slice a n c1, .slice b q c2] w fun e w' => e = .returned (.bool (decide (l = m))) ∧ Below w.heap.size w w' := by
  have hm1 := ha.2.1
  have hm2 := hb.2.1
  unfold maxLen at hm1 hm2
  have n1 : n ≤ 9223372036854775807 := by omega
  have n2 : q ≤ 9223372036854775807 := by omega
  have HA := Lib.hid ha
  have HB := Lib.hid hb
  have HL := Lib.hid hl
  have HM := Lib.hid hm
  clear ha hb hl hm hm1 hm2
  by_cases hnq : n = q
  · subst hnq
    go_enter Try.func31, Try.ntmps31
    go_wp2_with fail
    go_loopw [5] (fun i wr => ∃ k : Nat, k ≤ n ∧ i = .int .i64 k ∧ Hid (Below w.heap.size w wr) ∧ Hid (l.take k = m.take k)) (fun i _ => n - (intOf i).toNat)
    case atStart => exact ⟨0, by omega, rfl, Lib.hid (Below.refl _ _), Lib.hid rfl⟩
    case round =>
      obtain ⟨k, hk, rfl, hbel, hE⟩ := hrel
      by_cases hlt : k < n
      · have hkl : k < l.length := by have := HL.out; omega
        have hkm : k < m.length := by have := HM.out; omega
        obtain ⟨b1, o1, rfl, h1⟩ := (HA.out.below hbel.out).at hkl
        obtain ⟨b2, o2, rfl, h2⟩ := (HB.out.below hbel.out).at hkm
        have HS := Lib.hid (fun g => take_step' hkl hkm hE.out g)
        have e1 : l.getD k 0 = l[k] := by rw [List.getD_eq_getElem?_getD, List.getElem?_eq_getElem hkl]; rfl
        have e2 : m.getD k 0 = m[k] := by rw [List.getD_eq_getElem?_getD, List.getElem?_eq_getElem hkm]; rfl
        have HN : Hid (l[k] ≠ m[k] → l ≠ m) := Lib.hid (fun g h => g (by subst h; rfl))
        rw [e1] at h1
        rw [e2] at h2
        clear e1 e2
        generalize l[k] = x at h1 HS HN
        generalize m[k] = y at h2 HS HN
        have e1 := fun mm : Later wr => latercell mm h1
        have e2 := fun mm : Later wr => latercell mm h2
        have kl : (k : Int) < (n : Int) := by have := HL.out; omega
        clear h1 h2 hkl hkm
        by_cases hxy : x = y
        · have HS' := Lib.hid (HS.out hxy)
          have t : ((x : Int) != y) = false := by simp [hxy]
          clear HS HN hxy
          go_wp2_with fail
          refine wp_region_later (by kernel_rfl) (by kernel_rfl) ?_
          repeat (go_big_quiet_step (fail))
          refine wpQuiet_nil ?_
          rintro _ ⟨mm, rfl⟩
          go_wp2
          go_roundw
          case rel => exact ⟨k + 1, by omega, by go_num, Lib.hid (hbel.out.trans (mm.bel.mono hbel.out.size)), HS'⟩
          case measure => simp [intOf]; omega
        · have HN' := Lib.hid (HN.out hxy)
          have t : ((x : Int) != y) = true := by simp [hxy]
          clear HS HN hxy
          go_wp2_with fail
          refine wp_region_later (by kernel_rfl) (by kernel_rfl) ?_
          repeat (go_big_quiet_step (fail))
          refine wpQuiet_nil ?_
          rintro _ ⟨mm, rfl⟩
          go_wp2
          go_ret
          exact ⟨sbool' (decide_eq_false HN'.out).symm, hbel.out.trans (mm.bel.mono hbel.out.size)⟩
      · have hkn : k = n := by omega
        subst hkn
        go_wp2
        go_ret
        refine ⟨sbool' (decide_eq_true ?_).symm, hbel.out⟩
        have h := hE.out
        rw [List.take_of_length_le (by have := HL.out; omega), List.take_of_length_le (by have := HM.out; omega)] at h
        exact h
  · have t0 : ((n : Int) != (q : Int)) = true := by simp; omega
    have HN := Lib.hid (show ¬ l = m from fun h => hnq (by rw [← HL.out, ← HM.out, h]))
    clear hnq HA HB HL HM
    go_enter Try.func31, Try.ntmps31
    go_wp2
    go_ret
    exact ⟨sbool' (decide_eq_false HN.out).symm, Below.refl _ _⟩

theorem ris_no {l : List Int} {k : Nat} (hk : k + 1 < l.length) (h : l.getD (k + 1) 0 ≤ l.getD k 0) : ¬ ris l := fun hr => by have := ris_at hr hk; omega
theorem ris_upto {l : List Int} (h : ∀ i, i + 1 < l.length → l.getD i 0 < l.getD (i + 1) 0) : ris l := fun i hi => h i (by omega)

set_option maxRecDepth 100000 in
set_option maxHeartbeats 1000000 in
theorem rises_any (l : List Int) (a : Option Addr) (c n : Nat) (w : World) (ha : Ri w a l) (hl : l.length = n) :
    Calls Try.prog 50 #[.slice a n c] w fun e w' => e = .returned (.bool (decide (ris l))) ∧ Below w.heap.size w w' := by
  have hm1 := ha.2.1
  unfold maxLen at hm1
  have n1 : n ≤ 9223372036854775807 := by omega
  have HA := Lib.hid ha
  have HL := Lib.hid hl
  clear ha hl hm1
  go_enter Try.func50, Try.ntmps50
  go_wp2_with fail
  go_step3
  go_wp2_with fail
  go_step3
  go_wp2_with fail
  go_loopw [3, 4] (fun t i wr => ∃ k : Nat, (k ≤ n ∨ k = 1) ∧ 1 ≤ k ∧ t = .bool true ∧ i = .int .i64 k ∧ Hid (Below w.heap.size w wr) ∧ Hid (∀ i, i + 1 < k → l.getD i 0 < l.getD (i + 1) 0)) (fun _ i _ => n - (intOf i).toNat)
  case atStart => exact ⟨1, by omega, by omega, rfl, rfl, Lib.hid (Below.refl _ _), Lib.hid (fun i hi => by omega)⟩
  case round =>
    obtain ⟨k, hk, hk1, rfl, rfl, hbel, hE⟩ := hrel
    by_cases hlt : k < n
    · have hkl : k < l.length := by have := HL.out; omega
      obtain ⟨b1, o1, rfl, h1⟩ := (HA.out.below hbel.out).at hkl
      obtain ⟨b2, o2, e2, h2⟩ := (HA.out.below hbel.out).at (j := k - 1) (by omega)
      injection e2 with e2
      injection e2 with e3 e4
      subst e3 e4
      have HY : Hid (l.getD (k - 1) 0 < l.getD k 0 → ∀ i, i + 1 < k + 1 → l.getD i 0 < l.getD (i + 1) 0) := Lib.hid (fun g i hi => by
        by_cases e : i + 1 < k
        · exact hE.out i e
        · have e : i = k - 1 := by omega
          subst e
          rwa [show k - 1 + 1 = k by omega])
      have HN : Hid (¬ l.getD (k - 1) 0 < l.getD k 0 → ¬ ris l) := Lib.hid (fun g => ris_no (k := k - 1) (by omega) (by rw [show k - 1 + 1 = k by omega]; omega))
      generalize l.getD k 0 = x at h1 HY HN
      generalize l.getD (k - 1) 0 = y at h2 HY HN
      have e1 := fun mm : Later wr => latercell mm h1
      have e2 := fun mm : Later wr => latercell mm h2
      have kl : (k : Int) < (n : Int) := by omega
      have k0 : (0 : Int) ≤ (k : Int) - 1 := by omega
      have kl' : (k : Int) - 1 < (n : Int) := by omega
      have kt : ((k : Int) - 1).toNat = k - 1 := by omega
      clear h1 h2 hkl
      by_cases hxy : y < x
      · have HY' := Lib.hid (HY.out hxy)
        have t : ¬ x ≤ y := by omega
        clear HY HN hxy
        go_wp2_with fail
        refine wp_region_later (by kernel_rfl) (by kernel_rfl) ?_
        repeat (go_big_quiet_step (fail))
        refine wpQuiet_nil ?_
        rintro _ ⟨mm, rfl⟩
        go_wp2
        go_roundw
        case rel => exact ⟨k + 1, by omega, by omega, rfl, by go_num, Lib.hid (hbel.out.trans (mm.bel.mono hbel.out.size)), HY'⟩
        case measure => simp [intOf]; omega
      · have HN' := Lib.hid (HN.out hxy)
        have t : x ≤ y := by omega
        clear HY HN hxy
        go_wp2_with fail
        refine wp_region_later (by kernel_rfl) (by kernel_rfl) ?_
        repeat (go_big_quiet_step (fail))
        refine wpQuiet_nil ?_
        rintro _ ⟨mm, rfl⟩
        go_wp2
        rw [Exit.noGoto_ret]
        go_ret
        exact ⟨sbool' (decide_eq_false HN'.out).symm, hbel.out.trans (mm.bel.mono hbel.out.size)⟩
    · go_wp2
      rw [Exit.noGoto_ret]
      go_ret
      exact ⟨sbool' (decide_eq_true (ris_upto (fun i hi => hE.out i (by have := HL.out; omega)))).symm, hbel.out⟩

end Go.Proofs.Ytladgfonkolpmaa
