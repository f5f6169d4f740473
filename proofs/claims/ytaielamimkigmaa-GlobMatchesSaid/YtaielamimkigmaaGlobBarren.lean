/-
  Parts that stand for nothing: the program's ContainsFunc over barren, May.
-/
import Derived.Test.YtaielamimkigmaaGlobMay
namespace Go.Proofs.Ytaielamimkigmaa
open Go.RowKit Go.ChangeShapes Globm Go.ChangeMaps

theorem any_hit {α : Type} {l : List α} {p : α → Bool} {k : Nat} {x : α} (hx : l[k]? = some x) (h : p x = true) : l.any p = true := List.any_eq_true.2 ⟨x, List.mem_of_getElem? hx, h⟩
theorem any_miss {α : Type} {l : List α} {p : α → Bool} (h : ∀ (j : Nat) (x : α), l[j]? = some x → p x = false) : l.any p = false := by
  rw [List.any_eq_false]
  intro x hx
  obtain ⟨j, hj⟩ := List.getElem?_of_mem hx
  rw [h j x hj]; simp

set_option maxRecDepth 100000 in
set_option maxHeartbeats 1000000 in
theorem pindex_any (A : Option Addr) (n c : Nat) (m : List (Mk Nat)) (w : World) (hr : Rp w A m) (hn : m.length = n) :
    Calls Try.prog 62 #[.slice A n c, .func (.func 56) #[] #[]] w fun e w' => (∃ r : Int, e = .returned (.int .i64 r) ∧ Hid (decide (0 ≤ r) = m.any bz)) ∧ Below w.heap.size w w' := by
  have HR := Lib.hid hr
  have HN := Lib.hid hn
  have HP := Lib.hid (fun x w => pbarren_any x w)
  have hc := enters_go (f := 56) rfl rfl rfl
  have hn1 : (n : Int) ≤ 100000 := by have := hr.1; omega
  clear hr hn
  go_enter Try.func62, Try.ntmps62
  go_wp2_with fail
  go_loopw [8] (fun i wr => ∃ k : Nat, i = .int .i64 k ∧ k ≤ n ∧ Hid (∀ j x, j < k → m[j]? = some x → bz x = false) ∧ Hid (Below w.heap.size w wr)) (fun i _ => n - (intOf i).toNat)
  case atStart => exact ⟨0, rfl, by omega, Lib.hid (fun j x h => absurd h (Nat.not_lt_zero _)), Lib.hid (Below.refl _ _)⟩
  case round =>
    obtain ⟨k, rfl, hkn, hno, hB⟩ := hrel
    by_cases hlt : k < n
    · have hkm : k < m.length := by have := HN.out; omega
      have hx : m[k]? = some m[k] := List.getElem?_eq_getElem hkm
      obtain ⟨x, hxe⟩ : ∃ x, m[k] = x := ⟨_, rfl⟩
      rw [hxe] at hx
      have hRw := HR.out.below hB.out
      rcases hRw.2 with h0 | ⟨b, off, rfl, hcl⟩
      · rw [h0] at hkm; simp at hkm
      obtain ⟨q0, q1, q2, q3, q4⟩ := hcl k x hx
      have hltI : (k : Int) < (n : Int) := by omega
      have HPx := Lib.hid (HP.out x wr)
      unfold gpc at HPx
      have HX := Lib.hid hx
      cases hb : bz x with
      | true =>
        rw [hb] at HPx
        have HA : Hid (m.any bz = true) := Lib.hid (any_hit hx hb)
        unfold sw at q1 q2 q3 q4 HPx
        clear hb hx hkm hxe hRw hcl hkn
        generalize x.run = r at *
        generalize (wj (ps x) 0 : Nat) = A0 at *
        generalize (wj (ps x) 1 : Nat) = A1 at *
        generalize (wj (ps x) 2 : Nat) = A2 at *
        generalize (wj (ps x) 3 : Nat) = A3 at *
        go_wp2_with fail
        refine HPx.out.mono ?_
        rintro e w2 ⟨rfl, hb2⟩
        have HB2 := Lib.hid (hB.out.trans (hb2.mono hB.out.size))
        clear hb2
        go_wp2
        go_ret
        exact ⟨⟨_, rfl, Lib.hid (by simp [HA.out])⟩, HB2.out⟩
      | false =>
        rw [hb] at HPx
        have HNx : Hid (∀ j y, j < k + 1 → m[j]? = some y → bz y = false) := Lib.hid (fun j y hj hy => by
          rcases Nat.lt_succ_iff_lt_or_eq.1 hj with h | rfl
          · exact hno.out j y h hy
          · rw [HX.out] at hy; injection hy with hy; subst hy; exact hb)
        unfold sw at q1 q2 q3 q4 HPx
        clear hb hx hkm hxe hRw hcl
        generalize x.run = r at *
        generalize (wj (ps x) 0 : Nat) = A0 at *
        generalize (wj (ps x) 1 : Nat) = A1 at *
        generalize (wj (ps x) 2 : Nat) = A2 at *
        generalize (wj (ps x) 3 : Nat) = A3 at *
        go_wp2_with fail
        refine HPx.out.mono ?_
        rintro e w2 ⟨rfl, hb2⟩
        have HB2 := Lib.hid (hB.out.trans (hb2.mono hB.out.size))
        clear hb2
        go_wp2
        go_roundw
        case rel => exact ⟨k + 1, by go_num, by omega, HNx, HB2⟩
        case measure => simp [intOf]; omega
    · have hk : k = n := by omega
      have HA : Hid (m.any bz = false) := Lib.hid (any_miss (fun j x hj => hno.out j x (by have := (List.getElem?_eq_some_iff.1 hj).1; have := HN.out; omega) hj))
      subst hk
      have hnI : ¬ (k : Int) < (k : Int) := by omega
      clear hlt hno
      go_wp2
      go_ret
      exact ⟨⟨_, rfl, Lib.hid (by simp [HA.out])⟩, hB.out⟩

set_option maxRecDepth 100000 in
theorem pcontains_any (A : Option Addr) (n c : Nat) (m : List (Mk Nat)) (w : World) (hr : Rp w A m) (hn : m.length = n) :
    Calls Try.prog 55 #[.slice A n c, .func (.func 56) #[] #[]] w fun e w' => e = .returned (.bool (m.any bz)) ∧ Below w.heap.size w w' := by
  have H := Lib.hid (pindex_any A n c m w hr hn)
  clear hr hn
  generalize m.any bz = q at H ⊢
  go_enter Try.func55, Try.ntmps55
  go_wp2_with fail
  refine H.out.mono ?_
  rintro e w2 ⟨⟨r, rfl, hq⟩, hb⟩
  have h2 := hq.out
  clear hq
  go_wp2
  go_ret
  exact ⟨rfl, hb⟩

/-- is there something in a part that stands for nothing? -/
def barT (t : ByteArray) : Bool := match marks (by8 t) with
  | some m => m.any bz
  | none => false
set_option maxRecDepth 100000 in
theorem tbarren_any (b : Bool) (A : Option Addr) (n c : Nat) (m : List (Mk Nat)) (w : World) (hr : Rp w A m) (hn : m.length = n) :
    Calls Try.prog 37 #[.agg #[.bool b, .slice A n c]] w fun e w' => e = .returned (.bool (m.any bz)) ∧ Below w.heap.size w w' := by
  obtain ⟨W, hW⟩ : ∃ W, w.alloc (.cells #[.bool b, .slice A n c] 57) = W := ⟨_, rfl⟩
  have hB : Below w.heap.size w W := by rw [← hW]; exact (Below.refl _ w).alloc (Nat.le_refl _) _
  have z : Blk W w.heap.size 57 #[.bool b, .slice A n c] := by rw [← hW]; exact Blk.new _ _ _
  have H := Lib.hid (pcontains_any A n c m W (hr.below hB) hn)
  have c1 := z.cell 1
  have HB := Lib.hid hB
  have HW := Lib.hid hW
  clear hr hn hB z hW
  generalize m.any bz = q at H ⊢
  go_enter Try.func37, Try.ntmps37
  go_wp2_with fail
  rw [HW.out]
  go_wp2_with fail
  refine H.out.mono ?_
  rintro e w2 ⟨rfl, hb⟩
  go_wp2
  go_ret
  exact ⟨rfl, HB.out.trans (hb.mono HB.out.size)⟩

/-- a part's cells -/
def PtAt (w : World) (b o : Nat) (t : ByteArray) : Prop := ∃ m A' c', marks (by8 t) = some m ∧ w.cell? ⟨b, o, none⟩ = some (.bool (isAny t)) ∧ w.cell? ⟨b, o + 1, none⟩ = some (.slice A' m.length c') ∧ Rp w A' m
/-- a row of parts where a slice says that it is -/
def Rq (w : World) (a : Option Addr) (L : List ByteArray) : Prop := L = [] ∨ ∃ b off, a = some ⟨b, off, none⟩ ∧ ∀ i t, L[i]? = some t → PtAt w b (off + i * 2) t
theorem Rq.below {w w' : World} {a : Option Addr} {L : List ByteArray} (h : Rq w a L) (hb : Below w.heap.size w w') : Rq w' a L := by
  rcases h with h | ⟨b, off, e, h⟩
  · exact .inl h
  · refine .inr ⟨b, off, e, fun i t ht => ?_⟩
    obtain ⟨m, A', c', h1, h2, h3, h4⟩ := h i t ht
    exact ⟨m, A', c', h1, (hb.cell (p := ⟨b, off + i * 2, none⟩) (block_lt_of_cell h2)).trans h2, (hb.cell (p := ⟨b, off + i * 2 + 1, none⟩) (block_lt_of_cell h3)).trans h3, h4.below hb⟩

set_option maxRecDepth 100000 in
set_option maxHeartbeats 1000000 in
theorem tindex_any (A : Option Addr) (n c : Nat) (L : List ByteArray) (w : World) (hr : Rq w A L) (hn : L.length = n) (hn1 : n ≤ 100000) :
    Calls Try.prog 54 #[.slice A n c, .func (.func 37) #[] #[]] w fun e w' => (∃ r : Int, e = .returned (.int .i64 r) ∧ Hid (decide (0 ≤ r) = L.any barT)) ∧ Below w.heap.size w w' := by
  have HR := Lib.hid hr
  have HN := Lib.hid hn
  have HP := Lib.hid (fun b A n c m w h1 h2 => tbarren_any b A n c m w h1 h2)
  have hc := enters_go (f := 37) rfl rfl rfl
  have hnI : (n : Int) ≤ 100000 := by omega
  clear hr hn hn1
  go_enter Try.func54, Try.ntmps54
  go_wp2_with fail
  go_loopw [8] (fun i wr => ∃ k : Nat, i = .int .i64 k ∧ k ≤ n ∧ Hid (∀ j x, j < k → L[j]? = some x → barT x = false) ∧ Hid (Below w.heap.size w wr)) (fun i _ => n - (intOf i).toNat)
  case atStart => exact ⟨0, rfl, by omega, Lib.hid (fun j x h => absurd h (Nat.not_lt_zero _)), Lib.hid (Below.refl _ _)⟩
  case round =>
    obtain ⟨k, rfl, hkn, hno, hB⟩ := hrel
    by_cases hlt : k < n
    · have hkm : k < L.length := by have := HN.out; omega
      have hx : L[k]? = some L[k] := List.getElem?_eq_getElem hkm
      obtain ⟨x, hxe⟩ : ∃ x, L[k] = x := ⟨_, rfl⟩
      rw [hxe] at hx
      have hRw := HR.out.below hB.out
      rcases hRw with h0 | ⟨b, off, rfl, hcl⟩
      · rw [h0] at hkm; simp at hkm
      obtain ⟨m, A', c', q0, q1, q2, q3⟩ := hcl k x hx
      have hltI : (k : Int) < (n : Int) := by omega
      have hbt : barT x = m.any bz := by unfold barT; rw [q0]
      obtain ⟨N, hN⟩ : ∃ N, m.length = N := ⟨_, rfl⟩
      rw [hN] at q2
      have HPx := Lib.hid (HP.out (isAny x) A' N c' m wr q3 hN)
      rw [← hbt] at HPx
      have HX := Lib.hid hx
      cases hb : barT x with
      | true =>
        rw [hb] at HPx
        have HA : Hid (L.any barT = true) := Lib.hid (any_hit hx hb)
        clear hb hx hkm hxe hcl hkn q0 q3 hbt hN
        generalize isAny x = r at *
        go_wp2_with fail
        refine HPx.out.mono ?_
        rintro e w2 ⟨rfl, hb2⟩
        have HB2 := Lib.hid (hB.out.trans (hb2.mono hB.out.size))
        clear hb2
        go_wp2
        go_ret
        exact ⟨⟨_, rfl, Lib.hid (by simp [HA.out])⟩, HB2.out⟩
      | false =>
        rw [hb] at HPx
        have HNx : Hid (∀ j y, j < k + 1 → L[j]? = some y → barT y = false) := Lib.hid (fun j y hj hy => by
          rcases Nat.lt_succ_iff_lt_or_eq.1 hj with h | rfl
          · exact hno.out j y h hy
          · rw [HX.out] at hy; injection hy with hy; subst hy; exact hb)
        clear hb hx hkm hxe hcl q0 q3 hbt hN
        generalize isAny x = r at *
        go_wp2_with fail
        refine HPx.out.mono ?_
        rintro e w2 ⟨rfl, hb2⟩
        have HB2 := Lib.hid (hB.out.trans (hb2.mono hB.out.size))
        clear hb2
        go_wp2
        go_roundw
        case rel => exact ⟨k + 1, by go_num, by omega, HNx, HB2⟩
        case measure => simp [intOf]; omega
    · have hk : k = n := by omega
      have HA : Hid (L.any barT = false) := Lib.hid (any_miss (fun j x hj => hno.out j x (by have := (List.getElem?_eq_some_iff.1 hj).1; have := HN.out; omega) hj))
      subst hk
      have hnI2 : ¬ (k : Int) < (k : Int) := by omega
      clear hlt hno
      go_wp2
      go_ret
      exact ⟨⟨_, rfl, Lib.hid (by simp [HA.out])⟩, hB.out⟩
set_option maxRecDepth 100000 in
theorem tcontains_any (A : Option Addr) (n c : Nat) (L : List ByteArray) (w : World) (hr : Rq w A L) (hn : L.length = n) (hn1 : n ≤ 100000) :
    Calls Try.prog 36 #[.slice A n c, .func (.func 37) #[] #[]] w fun e w' => e = .returned (.bool (L.any barT)) ∧ Below w.heap.size w w' := by
  have H := Lib.hid (tindex_any A n c L w hr hn hn1)
  clear hr hn hn1
  generalize L.any barT = q at H ⊢
  go_enter Try.func36, Try.ntmps36
  go_wp2_with fail
  refine H.out.mono ?_
  rintro e w2 ⟨⟨r, rfl, hq⟩, hb⟩
  have h2 := hq.out
  clear hq
  go_wp2
  go_ret
  exact ⟨rfl, hb⟩

/-- may the parts from a number on stand for names behind? -/
def beyT (L : List ByteArray) (i : Nat) : Bool := !(L.drop i).any barT
set_option maxRecDepth 100000 in
theorem may1_any (v : Value) (L : List ByteArray) (B i : Nat) (w : World) (hp : Pt w v L) (hL : L.length ≤ 100000) (hB : w.cell? ⟨B, 0, none⟩ = some v) (hi : i < L.length) :
    Calls Try.prog 35 #[.int .i64 i, .pointer (some ⟨B, 0, none⟩)] w fun e w' => e = .returned (.bool (beyT L i)) ∧ Below w.heap.size w w' := by
  obtain ⟨g, A, k, c, rfl, hc, hk, hkc, hc63, hL2⟩ := hp
  rcases hL2 with hL0 | ⟨b, rfl, hL2⟩
  · rw [hL0] at hi; simp at hi
  have hq : Rq w (some ⟨b, i * 2, none⟩) (L.drop i) := .inr ⟨b, i * 2, rfl, fun j t ht => by
    rw [List.getElem?_drop] at ht
    obtain ⟨m, A', c', h1, h2, h3, h4, h5, h6⟩ := hL2 (i + j) t ht
    rw [Nat.add_mul] at h4 h5
    exact ⟨m, A', c', h1, h4, h5, h6⟩⟩
  have H := Lib.hid (tcontains_any (some ⟨b, i * 2, none⟩) (k - i) (c - i) (L.drop i) w hq (by rw [List.length_drop, hk]) (by omega))
  unfold beyT
  have hik : i < k := by omega
  have hic : i < c := by omega
  have hne : ¬ c = i := by omega
  clear hq hL2 hi hk
  generalize (L.drop i).any barT = r at H ⊢
  go_enter Try.func35, Try.ntmps35
  go_wp2_with fail
  refine H.out.mono ?_
  rintro e w2 ⟨rfl, hb⟩
  go_wp2
  go_ret
  exact ⟨rfl, hb⟩

set_option maxRecDepth 100000 in
set_option maxHeartbeats 1000000 in
theorem may_any (v : Value) (L : List ByteArray) (a : Option Addr) (n cap : Nat) (names : List ByteArray) (w : World) (hp : Pt w v L) (hL : L.length ≤ 100000)
    (hR : Rs w a names) (hn : names.length = n) (hn2 : n ≤ 100000) (hz : ∀ x ∈ names, x.size ≤ 100000) :
    Calls Try.prog 19 #[v, .slice a n cap] w fun e w' => e = .returned (.bool (cv (L.map pk) names (beyT L) 0 0)) ∧ Below w.heap.size w w' := by
  obtain ⟨W, hW⟩ : ∃ W, w.alloc (.cells #[v] 30) = W := ⟨_, rfl⟩
  have hB : Below w.heap.size w W := by rw [← hW]; exact (Below.refl _ w).alloc (Nat.le_refl _) _
  have z : Blk W w.heap.size 30 #[v] := by rw [← hW]; exact Blk.new _ _ _
  have hpW := hp.below hB
  have c0 : W.cell? ⟨w.heap.size, 0, none⟩ = some v := z.cell 0
  have HO := Lib.hid (over_any 35 #[.pointer (some ⟨w.heap.size, 0, none⟩)] (beyT L) v L a n cap names W hpW hL (hR.below hB) hn hn2 hz (fun W' i S h hb => may1_any v L w.heap.size i W' (hpW.below hb) hL ((hb.cell (p := ⟨w.heap.size, 0, none⟩) (block_lt_of_cell c0)).trans c0) (by have := (List.getElem?_eq_some_iff.1 h).1; rwa [List.length_map] at this)) (enters_go rfl rfl rfl))
  obtain ⟨g, A, k, c, rfl, -⟩ := hp
  have HB := Lib.hid hB
  have HW := Lib.hid hW
  clear hR hn hn2 hz hL hB z hW hpW
  generalize cv (L.map pk) names (beyT L) 0 0 = r at HO ⊢
  go_enter Try.func19, Try.ntmps19
  go_wp2_with fail
  rw [HW.out]
  go_wp2_with fail
  refine HO.out.mono ?_
  rintro e w2 ⟨rfl, hb⟩
  go_wp2
  go_ret
  exact ⟨rfl, HB.out.trans (hb.mono HB.out.size)⟩
set_option maxRecDepth 100000 in
theorem may_nil (x : Value) (w : World) : Calls Try.prog 19 #[.pointer none, x] w fun e w' => e = .returned (.bool false) ∧ Below w.heap.size w w' := by
  have c0 := (Blk.new w 30 #[.pointer none]).cell 0
  have HB : Hid (Below w.heap.size w (w.alloc (.cells #[.pointer none] 30))) := Lib.hid ((Below.refl _ w).alloc (Nat.le_refl _) _)
  go_enter Try.func19, Try.ntmps19
  go_wp2
  go_ret
  exact ⟨rfl, HB.out⟩
end Go.Proofs.Ytaielamimkigmaa
