/-
  A row made greater: the document's answer. Nothing of one statement alone stands here.
-/
import Derived.Test.YtladgfonkolpmaaRoomWith
import Derived.Deep.RegionLaw
namespace Go.Proofs.Ytladgfonkolpmaa
open Go.RowKit Crcm Tagm Inom Roomm Go.ChangeShapes

set_option maxRecDepth 100000 in
theorem wp_append_ints {w : World} {o : Oper} {a : Act} {K : Act → World → Prop} {Q : Exit → Act → World → Prop} (s x : Operand)
    (ho : o.op = .call { callee := .builtin .append, args := #[s, x], argTypes := #[31, 31] })
    (base : Nat) (v : Value) (n : Nat) (xs : List Int) (hs : a.eval s = v) (hown : w.ownsRow base 3 1 v n (xs.map (Value.int .i64)))
    (A : Option Addr) (m c : Nat) (l : List Int) (hx : a.eval x = .slice A m c) (hl : l.length = m) (hr : Ri w A l) (hA : A = none → c = 0) (h63 : n + m ≤ 1000000) (hbase : base ≤ w.heap.size)
    (h : ∀ v' w', w'.ownsRow base 3 1 v' (n + m) ((xs ++ l).map (Value.int .i64)) → Below base w w' → K (a.put o.dst v') w') : o.wp Try.prog a w K Q := by
  obtain ⟨i0, hi, hz0, hz1, hz2⟩ := info_parts Try.infoInt
  rcases A with _ | ad
  · have hm : m = 0 := by
      rcases hr.2.2 with rfl | ⟨b, off, e, _⟩
      · simpa using hl.symm
      · cases e
    subst hm
    obtain rfl := List.eq_nil_of_length_eq_zero hl
    obtain rfl := hA rfl
    exact wp_append_nothing s x 31 ho base 3 i0 1 Try.underlying31 hi v n _ hs hown 0 hx (h v w (by simpa using hown) (Below.refl _ _))
  · refine wp_append_own w s x 31 ho base 3 i0 (.int .i64 0) 1 8 Try.underlying31 hi hz0 hz1 hz2 rfl (by decide) v n _ hs hown ad m c (l.map (Value.int .i64)) hx (by simp [hl]) ?_ ?_ (by unfold maxLen; omega) (by omega) hbase ?_
    · intro j u hu
      rw [List.getElem?_map] at hu
      by_cases hj : j < l.length
      · obtain ⟨b, off, e, hc⟩ := hr.at hj
        injection e with e
        subst e
        rw [show (⟨b, off, none⟩ : Addr).add j = ⟨b, off + j, none⟩ by simp [Addr.add], hc]
        simpa [List.getD_eq_getElem?_getD, hj] using hu
      · simp [List.getElem?_eq_none (by omega : l.length ≤ j)] at hu
    · intro u hu; obtain ⟨n, -, rfl⟩ := List.mem_map.1 hu; rfl
    · intro v' w' h1 h2 _
      rw [← List.map_append] at h1
      exact h v' w' h1 ((Below.refl _ _).grown h2 hbase (fun g hg => (hown.lt g hg).1))

/-- an append of ints onto a row of the call's own, as one step of a region that draws -/
theorem step_ints {ops : Array Oper} {o : Oper} {a : Act} {w : World} {K : Act → World → Prop} {Q : Exit → Act → World → Prop} {E : Prop}
    (hg : o.guard = none) (s x : Operand) (hop : o.op = Op.call { callee := Callee.builtin Builtin.append, args := #[s, x], argTypes := #[31, 31] })
    (base : Nat) (v : Value) (n : Nat) (xs : List Int) (hs : a.eval s = v) (hown : w.ownsRow base 3 1 v n (xs.map (Value.int .i64)))
    (A : Option Addr) (m c : Nat) (l : List Int) (hx : a.eval x = .slice A m c) (hl : l.length = m) (hr : Ri w A l) (hA : A = none → c = 0) (h63 : n + m ≤ 1000000) (hbase : base ≤ w.heap.size)
    (hK : ∀ v' w', w'.ownsRow base 3 1 v' (n + m) ((xs ++ l).map (Value.int .i64)) → Below base w w' → K (a.put o.dst v') w') :
    if Region.wanted o (yielded ops a.tmps) = true then Oper.wp Try.prog o a w K Q else E := by
  have hw : Region.wanted o (yielded ops a.tmps) = true := by simp [Region.wanted, hg]
  rw [if_pos hw]
  exact wp_append_ints s x hop base v n xs hs hown A m c l hx hl hr hA h63 hbase hK

/-- a slice of the call's own: none, or from a block's beginning on -/
def Pl (A : Option Addr) (c : Nat) : Prop := (A = none ∧ c = 0) ∨ ∃ b, A = some ⟨b, 0, none⟩
theorem Pl.nil {A : Option Addr} {c : Nat} (h : Pl A c) : A = none → c = 0 := fun e => by
  rcases h with h | ⟨b, h⟩
  · exact h.2
  · rw [h] at e; cases e
theorem own_plain {w : World} {base k : Nat} {v : Value} {xs : List Value} {e : TypeId} (h : w.ownsRow base e 1 v k xs) : ∃ a c, v = .slice a k c ∧ Pl a c ∧ k ≤ c ∧ c ≤ 9223372036854775807 := by
  rcases h.2 with ⟨rfl, hx⟩ | ⟨g, cap, cur, rfl, _, _, h1, h2, _⟩
  · subst hx; exact ⟨none, 0, rfl, .inl ⟨rfl, rfl⟩, by omega, by omega⟩
  · exact ⟨_, cap, rfl, .inr ⟨g, rfl⟩, h1, by unfold maxLen at h2; omega⟩
theorem own_base {w : World} {B B' k : Nat} {v : Value} {xs : List Value} {e : TypeId} (h : w.ownsRow B e 1 v k xs) (hb : B' ≤ B) : w.ownsRow B' e 1 v k xs := by
  obtain ⟨h1, h2⟩ := h
  refine ⟨h1, ?_⟩
  rcases h2 with h2 | ⟨g, cap, cur, e, hg, r⟩
  · exact .inl h2
  · exact .inr ⟨g, cap, cur, e, Nat.le_trans hb hg, r⟩
theorem mv_none {A : Option Addr} {c t : Nat} (h : Pl A c) : mv A c t = none → c - t = 0 := fun e => by
  rcases h with ⟨rfl, rfl⟩ | ⟨b, rfl⟩
  · omega
  · unfold mv at e; split at e <;> simp at e
theorem elemInts : Try.prog.elem 31 = 3 := by simp [Program.elem, Try.underlying31]
theorem restI (A : Option Addr) (n c x : Nat) (hp : Pl A c) (h1 : x ≤ n) (h2 : n ≤ c) (h3 : c ≤ 9223372036854775807) (W : World) :
    (Instr.slice 31 (.slice A n c) (some (.int .i64 (x : Int))) none none).run Try.prog W = .ok (.slice (mv A c x) (n - x) (c - x)) W := by
  have he : Try.prog.underlying 31 = some (.slice (Try.prog.elem 31)) := by rw [elemInts, Try.underlying31]
  rcases hp with ⟨rfl, rfl⟩ | ⟨b, rfl⟩
  · have hn : n = 0 := by omega
    subst hn
    have hx : x = 0 := by omega
    subst hx
    rw [run_slice_l W _ _ _ _ he .i64 _ (by omega) (by omega), elemInts, Try.sizeOf3]
    simp [Result.andThen, sliced, mv]
  · rw [run_slice_l W _ _ _ _ he .i64 _ (by omega) (by omega), elemInts, Try.sizeOf3]
    unfold mv
    by_cases hne : c = x <;> simp [Result.andThen, sliced, hne, Go.WideShapes.add_plain]
theorem topI (A : Option Addr) (n c x : Nat) (hp : Pl A c) (h1 : x ≤ c) (h3 : c ≤ 9223372036854775807) (W : World) :
    (Instr.slice 31 (.slice A n c) none (some (.int .i64 (x : Int))) none).run Try.prog W = .ok (.slice A x c) W := by
  have he : Try.prog.underlying 31 = some (.slice (Try.prog.elem 31)) := by rw [elemInts, Try.underlying31]
  rcases hp with ⟨rfl, rfl⟩ | ⟨b, rfl⟩
  · have hx : x = 0 := by omega
    subst hx
    rw [run_slice_h W _ _ _ _ he .i64 _ (by omega) (by omega), elemInts, Try.sizeOf3]
    simp [Result.andThen, sliced]
  · rw [run_slice_h W _ _ _ _ he .i64 _ (by omega) (by omega), elemInts, Try.sizeOf3]
    simp [Result.andThen, sliced, Addr.add]
theorem has_no {l : List Int} {x : Int} (h : ∀ j, j < l.length → l.getD j 0 ≠ x) : x ∉ l := fun hx => by
  obtain ⟨i, hi, e⟩ := mem_getD hx
  exact h i hi e

set_option maxRecDepth 100000 in
set_option maxHeartbeats 1000000 in
theorem refhas_any (l : List Int) (a : Option Addr) (c n : Nat) (x : Int) (w : World) (ha : Ri w a l) (hl : l.length = n) :
    Calls Try.prog 57 #[.slice a n c, .int .i64 x] w fun e w' => e = .returned (.bool (decide (x ∈ l))) ∧ w = w' := by
  have hm1 := ha.2.1
  unfold maxLen at hm1
  have n1 : n ≤ 9223372036854775807 := by omega
  have HA := Lib.hid ha
  have HL := Lib.hid hl
  clear ha hl hm1
  go_enter Try.func57, Try.ntmps57
  go_wp2_with fail
  go_loop [5] (fun i => ∃ k : Nat, k ≤ n ∧ i = .int .i64 k ∧ Hid (∀ j, j < k → l.getD j 0 ≠ x)) (fun i => n - (intOf i).toNat)
  case atStart => exact ⟨0, by omega, rfl, Lib.hid (fun j hj => absurd hj (Nat.not_lt_zero _))⟩
  case round =>
    obtain ⟨k, hk, rfl, E⟩ := hrel
    by_cases hlt : k < n
    · have hkl : k < l.length := by have := HL.out; omega
      obtain ⟨b1, o1, rfl, h1⟩ := HA.out.at hkl
      have kl : (k : Int) < (n : Int) := by omega
      have HY : Hid (l.getD k 0 = x → decide (x ∈ l) = true) := Lib.hid (fun g => decide_eq_true (by rw [← g]; exact getD_mem hkl))
      have HN : Hid (l.getD k 0 ≠ x → ∀ j, j < k + 1 → l.getD j 0 ≠ x) := Lib.hid (fun g j hj => by
        by_cases e : j = k
        · subst e; exact g
        · exact E.out j (by omega))
      generalize l.getD k 0 = y at h1 HY HN
      by_cases hxy : y = x
      · have HD := Lib.hid (HY.out hxy)
        have t : ((y : Int) == x) = true := by simp [hxy]
        clear HY HN hxy
        go_wp2
        go_ret
        exact ⟨sbool' HD.out.symm, rfl⟩
      · have HD := Lib.hid (HN.out hxy)
        have t : ((y : Int) == x) = false := by simp [hxy]
        clear HY HN hxy
        go_wp2
        go_round
        case rel => exact ⟨k + 1, by omega, by go_num, HD⟩
        case measure => simp [intOf]; omega
    · have hkn : k = n := by omega
      subst hkn
      go_wp2
      go_ret
      exact ⟨sbool' (decide_eq_false (has_no (fun j hj => E.out j (by have := HL.out; omega)))).symm, rfl⟩

set_option maxRecDepth 100000 in
set_option maxHeartbeats 4000000 in
theorem refwith_any (l : List Int) (a : Option Addr) (c n : Nat) (fr to : Int) (w : World) (ha : Ri w a l) (hl : l.length = n) (hn : n ≤ 100000) (hA0 : a = none → c = 0) (hf : I64 fr) (ht : I64 to) :
    Calls Try.prog 33 #[.slice a n c, .int .i64 fr, .int .i64 to] w fun e w' => ∃ A cc, e = .returned (.slice A (srt (ext l fr to)).length cc) ∧ (A = none → cc = 0) ∧ Ri w' A (srt (ext l fr to)) ∧ Below w.heap.size w w' := by
  have HI : Hid (∀ x ∈ l, I64 x) := Lib.hid ha.1
  have HL := Lib.hid hl
  have HN := Lib.hid hn
  have HF := Lib.hid hf
  have HTo := Lib.hid ht
  obtain ⟨p, hp⟩ : ∃ p, ext l fr to = p := ⟨_, rfl⟩
  have HP := Lib.hid hp
  have HPI : Hid (∀ x ∈ p, I64 x) := Lib.hid (by
    intro x hx
    rw [← hp] at hx
    by_cases h : 0 ≤ fr ∧ to ≤ 131072
    · rw [ext_yes h] at hx
      rcases List.mem_append.1 hx with hx | hx
      · exact ha.1 x hx
      · have := mem_upto.1 hx; unfold I64 at *; omega
    · rw [ext_no h] at hx; exact ha.1 x hx)
  have hpl : p.length ≤ 231072 := by have := ext_length l fr to; rw [hp] at this; omega
  rw [hp]
  generalize hr0 : srt p = r
  have HRr := Lib.hid hr0
  clear hp hr0 hf ht
  go_enter Try.func33, Try.ntmps33
  go_wp2_with (at_builtin; refine append_ints rfl _ _ rfl w.heap.size (.slice none 0 0) 0 [] rfl (World.ownsRow_nil _ _ _ _) a n c l rfl hl ha hA0 (by omega) (Nat.le_refl _) ?_; intro v1 w1 hown1 hb1 _ _)
  have HO : Hid (w1.ownsRow w.heap.size 3 1 v1 n (l.map (Value.int .i64))) := Lib.hid (by simpa using hown1)
  have HB := Lib.hid hb1
  clear hown1 hb1 ha hl hA0 hn
  go_loopw [7, 8] (fun v i wr => ∃ k : Nat, (fr + (k : Int) ≤ to ∨ k = 0) ∧ (0 ≤ fr ∧ to ≤ 131072 ∨ k = 0) ∧ i = .int .i64 (fr + (k : Int)) ∧ Hid (wr.ownsRow w.heap.size 3 1 v (n + k) ((l ++ upto fr (fr + (k : Int))).map (Value.int .i64))) ∧ Hid (Below w.heap.size w wr)) (fun _ i _ => (to - intOf i).toNat)
  case atStart => exact ⟨0, by omega, by omega, by simp, Lib.hid (by rw [upto_none (by omega), List.append_nil]; exact HO.out), HB⟩
  case round =>
    obtain ⟨k, hk, hk0, rfl, O, B⟩ := hrel
    by_cases hgo : (0 ≤ fr ∧ to ≤ 131072) ∧ fr + (k : Int) < to
    · obtain ⟨⟨h0, h1⟩, hlt⟩ := hgo
      have hx : I64 (fr + (k : Int)) := by have := HF.out; have := HTo.out; unfold I64 at *; omega
      have hk2 : (k : Int) ≤ 131072 := by omega
      have hO := O.out
      have hBz := B.out.size
      have hU : Hid ((l ++ upto fr (fr + (k : Int))) ++ [fr + (k : Int)] = l ++ upto fr (fr + ((k + 1 : Nat) : Int))) := Lib.hid (by
        rw [List.append_assoc, ← upto_snoc (by omega)]; congr 2; omega)
      have hw : IntKind.i64.wrap (fr + (k : Int) + 1) = fr + (k : Int) + 1 := IntWalk.i64_in _ (by omega)
      go_wp2_with (at_builtin; refine append_ints rfl _ _ rfl w.heap.size _ (n + k) _ rfl (hO.alloc _) (some ⟨wr.heap.size, 0, none⟩) 1 1 [fr + (k : Int)] rfl rfl (ri_one wr _ hx) (fun e => by cases e) (by have := HN.out; omega) (by simp; omega) ?_; intro v' w' hown' hb' _ _)
      go_roundw
      case rel =>
        refine ⟨k + 1, by omega, by omega, by go_num, Lib.hid ?_, Lib.hid (B.out.trans (((Below.refl _ _).alloc hBz _).trans hb'))⟩
        rw [hU.out] at hown'
        exact hown'
      case measure => simp [intOf]; omega
    · have hE : l ++ upto fr (fr + (k : Int)) = p := by
        rw [← HP.out]
        by_cases h : 0 ≤ fr ∧ to ≤ 131072
        · rw [ext_yes h]
          rcases hk with hk | rfl
          · rw [show fr + (k : Int) = to by omega]
          · rw [upto_none (by omega), upto_none (by omega)]
        · have hk : k = 0 := by omega
          subst hk
          rw [ext_no h, upto_none (by omega), List.append_nil]
      have hO := O.out
      rw [hE] at hO
      have hpk : p.length = n + k := by simpa using hO.1
      obtain ⟨A, ca, rfl, hA⟩ := own_shape hO
      obtain ⟨A', ca', e, hri, -, hca⟩ := Ri.of_own hO HPI.out
      injection e with e1 e2 e3
      subst e1 e3
      have HRi := Lib.hid hri
      have HPk := Lib.hid hpk
      have hst : fr < 0 ∨ (0 ≤ fr ∧ 131072 < to) ∨ (0 ≤ fr ∧ to ≤ 131072 ∧ to ≤ fr + (k : Int)) := by omega
      clear hO O hE hri hA hgo hk hk0 hpk
      obtain ⟨W1, rfl⟩ : ∃ W, W = wr := ⟨_, rfl⟩
      obtain ⟨q, hq⟩ : ∃ q, n + k = q := ⟨_, rfl⟩
      rw [hq] at HPk hca
      have hq2 : q ≤ 231072 := by rw [← HPk.out]; exact hpl
      have hq3 : (n : Int) + (k : Int) = (q : Int) := by omega
      have HB1 := Lib.hid B.out
      have HBz : Hid (w.heap.size ≤ W1.heap.size) := Lib.hid B.out.size
      clear B hq hpl HO HB HP HI
      rcases hst with hst | ⟨hst, hst2⟩ | ⟨hst, hst2, hst3⟩
      all_goals
        go_wp2_with fail
        go_loopw [9, 10] (fun v i wl => ∃ (j : Nat) (A2 : Option Addr) (c2 : Nat), j ≤ q ∧ i = .int .i64 j ∧ v = .slice A2 (insAll (p.take j)).length c2 ∧ (insAll (p.take j)).length ≤ c2 ∧ c2 ≤ 9223372036854775807 ∧ Hid (Pl A2 c2) ∧ Hid (Ri wl A2 (insAll (p.take j))) ∧ Hid (Below W1.heap.size W1 wl)) (fun _ i _ => q - (intOf i).toNat)
        case atStart => exact ⟨0, none, 0, by omega, rfl, rfl, Nat.le_refl _, by omega, Lib.hid (.inl ⟨rfl, rfl⟩), Lib.hid Ri.nil, Lib.hid (Below.refl _ _)⟩
        case round =>
          obtain ⟨j, A2, c2, hj, rfl, rfl, hc2, hc3, hA2, R, B⟩ := hrel
          by_cases hlt : j < q
          · have hjl : j < p.length := by rw [HPk.out]; exact hlt
            obtain ⟨b1, o1, rfl, h1⟩ := (HRi.out.below B.out).at hjl
            have hx : I64 (p.getD j 0) := HPI.out _ (getD_mem hjl)
            have jl : (j : Int) < (q : Int) := by omega
            have hS : insAll (p.take (j + 1)) = ins (insAll (p.take j)) (p.getD j 0) := by rw [take_getD hjl, insAll_snoc]
            have hrl : (insAll (p.take j)).length ≤ j := by rw [insAll_eq]; exact Nat.le_trans (srt_length_le _) (by rw [List.length_take]; omega)
            generalize hs : insAll (p.take j) = s at hS hrl R hc2
            generalize p.getD j 0 = x at h1 hS hx
            have HH := Lib.hid (refhas_any s A2 c2 s.length x wr R.out rfl)
            by_cases hin : x ∈ s
            · rw [decide_eq_true hin] at HH
              have HS2 : Hid (insAll (p.take (j + 1)) = s) := Lib.hid (by rw [hS, ins_is hin])
              clear hin hS hs
              go_wp2_with fail
              refine HH.out.mono ?_
              rintro e w' ⟨rfl, rfl⟩
              go_wp2
              go_roundw
              case rel => exact ⟨j + 1, A2, c2, by omega, by go_num, by rw [HS2.out], by rw [HS2.out]; exact hc2, hc3, hA2, by rw [HS2.out]; exact R, B⟩
              case measure => simp [intOf]; omega
            · rw [decide_eq_false hin] at HH
              have HS2 : Hid (∀ k, k ≤ s.length → (∀ j, j < k → s.getD j 0 < x) → (k = s.length ∨ ¬ s.getD k 0 < x) → insAll (p.take (j + 1)) = s.take k ++ x :: s.drop k) := Lib.hid (fun k h1 h2 h3 => by rw [hS]; exact ins_at hin h1 h2 h3)
              clear hin hS hs
              go_wp2_with fail
              refine HH.out.mono ?_
              rintro e w' ⟨rfl, rfl⟩
              go_wp2_with fail
              obtain ⟨W2, rfl⟩ : ∃ W, W = wr := ⟨_, rfl⟩
              have hsl : s.length ≤ 231072 := by omega
              go_loopw [11] (fun i wl => ∃ t : Nat, t ≤ s.length ∧ i = .int .i64 t ∧ Hid (∀ j, j < t → s.getD j 0 < x) ∧ Hid (Below W2.heap.size W2 wl)) (fun i _ => s.length - (intOf i).toNat)
              case atStart => exact ⟨0, by omega, rfl, Lib.hid (fun j hj => absurd hj (Nat.not_lt_zero _)), Lib.hid (Below.refl _ _)⟩
              case round =>
                obtain ⟨t, ht, rfl, L, C⟩ := hrel
                have hxc := (C.out.cell (block_lt_of_cell h1)).trans h1
                have e1 := fun mm : Later wr => latercell mm hxc
                by_cases hts : t < s.length
                · obtain ⟨b2, o2, eA, h2⟩ := (R.out.below C.out).at hts
                  have hcA := eA
                  subst hcA
                  have e2 := fun mm : Later wr => latercell mm h2
                  have HY : Hid (s.getD t 0 < x → ∀ j, j < t + 1 → s.getD j 0 < x) := Lib.hid (fun g j hj => by
                    by_cases e : j = t
                    · subst e; exact g
                    · exact L.out j (by omega))
                  have HN : Hid (¬ s.getD t 0 < x → insAll (p.take (j + 1)) = s.take t ++ x :: s.drop t) := Lib.hid (fun g => HS2.out t ht L.out (.inr (by omega)))
                  have tl : (t : Int) < (s.length : Int) := by omega
                  generalize s.getD t 0 = y at h2 e2 HY HN
                  clear h2 hxc
                  by_cases hyx : y < x
                  · have HD := Lib.hid (HY.out hyx)
                    clear HY HN
                    go_wp2_with fail
                    refine wp_region_later (by kernel_rfl) (by kernel_rfl) ?_
                    repeat (go_big_quiet_step (fail))
                    refine wpQuiet_nil ?_
                    rintro _ ⟨mm, rfl⟩
                    go_wp2
                    go_roundw
                    case rel => exact ⟨t + 1, by omega, by go_num, HD, Lib.hid (C.out.trans (mm.bel.mono C.out.size))⟩
                    case measure => simp [intOf]; omega
                  · have HD := Lib.hid (HN.out hyx)
                    clear HY HN
                    go_wp2_with fail
                    refine wp_region_later (by kernel_rfl) (by kernel_rfl) ?_
                    repeat (go_big_quiet_step (fail))
                    refine wpQuiet_nil ?_
                    rintro _ ⟨mm, rfl⟩
                    have hd : Below W2.heap.size W2 mm.to := C.out.trans (mm.bel.mono C.out.size)
                    have SR := Lib.hid (fun W (hb : Below mm.to.heap.size mm.to W) => R.out.below (hd.trans (hb.mono hd.size)))
                    have hxx : mm.to.cell? ⟨b1, o1 + j, none⟩ = some (.int .i64 x) := (hd.cell (block_lt_of_cell h1)).trans h1
                    have HDD := Lib.hid (B.out.trans (hd.mono B.out.size))
                    have HZ := Lib.hid HDD.out.size
                    have HX := Lib.hid hx
                    have HXC := Lib.hid hxx
                    clear hd
                    generalize mm.to = V at SR hxx HDD HZ HXC ⊢
                    go_wp2_with fail
                    have s1 := topI (some ⟨b2, o2, none⟩) s.length c2 t hA2.out (by omega) hc3
                    have D0 : Hid (Below V.heap.size V V.drew) := Lib.hid (Below.refl _ _).drew
                    have D1 : Hid (Below V.heap.size V (V.alloc (.cells #[.int .i64 x] 3)).drew) := Lib.hid ((Below.refl _ _).alloc (Nat.le_refl _) _).drew
                    have R0 := Lib.hid ((SR.out _ D0.out).take t)
                    have R1 := Lib.hid ((SR.out _ D1.out).take t)
                    have HLt : Hid ((s.take t).length = t) := Lib.hid (by rw [List.length_take]; omega)
                    have hVs : (V.alloc (.cells #[.int .i64 x] 3)).drew.heap.size = V.heap.size + 1 := by simp
                    have HVS := Lib.hid hVs
                    clear hVs
                    go_region_law (first
                      | (refine step_ints rfl (.tmp 63) (.tmp 66) rfl V.heap.size (.slice none 0 0) 0 [] (by simp [Act.eval, Act.put]) (World.ownsRow_nil _ _ _ _) (some ⟨b2, o2, none⟩) t c2 (s.take t) (by simp [Act.eval, Act.put]) HLt.out R0.out hA2.out.nil (by omega) (by simp) ?_; intro v2 w2 hown2 hb2; have HB2 := Lib.hid (D0.out.trans hb2); have hxx2 : w2.cell? ⟨b1, o1 + j, none⟩ = some (.int .i64 x) := (HB2.out.cell (block_lt_of_cell HXC.out)).trans HXC.out)
                      | (refine step_ints rfl (.tmp 63) (.tmp 66) rfl (V.heap.size + 1) (.slice none 0 0) 0 [] (by simp [Act.eval]) (World.ownsRow_nil _ _ _ _) (some ⟨b2, o2, none⟩) t c2 (s.take t) (by simp [Act.eval]) HLt.out R1.out hA2.out.nil (by omega) (by rw [HVS.out]; exact Nat.le_refl _) ?_; intro v2 w2 hown2 hb2; have HB2 := Lib.hid (D1.out.trans (hb2.mono (Nat.le_succ _))))
                      | (refine step_ints rfl (.tmp 67) (.tmp 72) rfl V.heap.size v2 t (s.take t) (by simp [Act.eval]) ((show w2.ownsRow V.heap.size 3 1 v2 t ((s.take t).map (Value.int .i64)) by simpa using hown2).alloc (.cells #[.int .i64 x] 3)) (some ⟨w2.heap.size, 0, none⟩) 1 1 [x] (by simp [Act.eval]) rfl (ri_one w2 x HX.out) (fun e => by cases e) (by omega) (by have := HB2.out.size; simp; omega) ?_; intro v3 w3 hown3 hb3; have HB3 := Lib.hid (HB2.out.trans (((Below.refl _ _).alloc HB2.out.size _).trans hb3)); have HO3 := Lib.hid hown3)
                      | (refine step_ints rfl (.tmp 67) (.tmp 72) rfl (V.heap.size + 1) v2 t (s.take t) (by simp [Act.eval]) (by simpa using hown2) (some ⟨V.heap.size, 0, none⟩) 1 1 [x] (by simp [Act.eval]) rfl (((ri_one V x HX.out).below (w' := (V.alloc (.cells #[.int .i64 x] 3)).drew) (Below.refl _ _).drew).below (by rw [HVS.out]; exact hb2)) (fun e => by cases e) (by omega) (by have := hb2.size; rw [HVS.out] at this; exact this) ?_; intro v3 w3 hown3 hb3; have HB3 := Lib.hid (HB2.out.trans (hb3.mono (Nat.le_succ _))); have HO3 := Lib.hid (own_base hown3 (Nat.le_succ _))))
                    all_goals
                      have s3 := restI (some ⟨b2, o2, none⟩) s.length c2 t hA2.out ht hc2 hc3
                      have R3 := Lib.hid ((SR.out _ HB3.out).mv t c2 hc2)
                      clear hown2 hown3 hb2 hb3
                      go_wp2_with (at_builtin; refine append_ints rfl _ _ rfl V.heap.size _ (t + 1) _ rfl HO3.out (mv (some ⟨b2, o2, none⟩) c2 t) (s.length - t) (c2 - t) (s.drop t) rfl (by rw [List.length_drop]) R3.out (mv_none hA2.out) (by omega) HB3.out.size ?_; intro v4 w4 hown4 hb4 _ _; obtain ⟨A4, c4, rfl, hp4, hk4, hc4⟩ := own_plain hown4; have HO4 := Lib.hid hown4; have HB4 := Lib.hid (HDD.out.trans ((HB3.out.trans hb4).mono HZ.out)); have HP4 := Lib.hid hp4; clear hown4 hb4 hp4)
                      have HLn : Hid (t + 1 + (s.length - t) = (insAll (p.take (j + 1))).length) := Lib.hid (by rw [HD.out, List.length_append, List.length_cons, List.length_drop, HLt.out]; omega)
                      have HRi4 : Hid (Ri w4 A4 (insAll (p.take (j + 1)))) := Lib.hid (by
                        have h := HO4.out
                        rw [List.append_assoc, List.singleton_append, ← HD.out] at h
                        obtain ⟨A', c', e, hri, -, -⟩ := Ri.of_own h (fun y hy => HPI.out y (List.mem_of_mem_take ((srt_mem _ y).1 (by rw [← insAll_eq]; exact hy))))
                        injection e with e1 e2 e3
                        subst e1
                        exact hri)
                      go_roundw
                      case rel => exact ⟨j + 1, A4, c4, by omega, by go_num, by rw [HLn.out], by rw [← HLn.out]; exact hk4, hc4, HP4, HRi4, HB4⟩
                      case measure => simp [intOf]; omega
                · have HD : Hid (insAll (p.take (j + 1)) = s.take t ++ x :: s.drop t) := Lib.hid (HS2.out t ht L.out (.inl (by omega)))
                  have hf : decide ((t : Int) < (s.length : Int)) = false := by simp; omega
                  go_wp2_with fail
                  refine wp_region_later (by kernel_rfl) (by kernel_rfl) ?_
                  repeat (go_big_quiet_step (fail))
                  refine wpQuiet_nil ?_
                  rintro _ ⟨mm, rfl⟩
                  clear hf hts
                  have hd : Below W2.heap.size W2 mm.to := C.out.trans (mm.bel.mono C.out.size)
                  have SR := Lib.hid (fun W (hb : Below mm.to.heap.size mm.to W) => R.out.below (hd.trans (hb.mono hd.size)))
                  have hxx : mm.to.cell? ⟨b1, o1 + j, none⟩ = some (.int .i64 x) := (hd.cell (block_lt_of_cell h1)).trans h1
                  have HDD := Lib.hid (B.out.trans (hd.mono B.out.size))
                  have HZ := Lib.hid HDD.out.size
                  have HX := Lib.hid hx
                  have HXC := Lib.hid hxx
                  clear hd
                  generalize mm.to = V at SR hxx HDD HZ HXC ⊢
                  go_wp2_with fail
                  have s1 := topI A2 s.length c2 t hA2.out (by omega) hc3
                  have D0 : Hid (Below V.heap.size V V.drew) := Lib.hid (Below.refl _ _).drew
                  have D1 : Hid (Below V.heap.size V (V.alloc (.cells #[.int .i64 x] 3)).drew) := Lib.hid ((Below.refl _ _).alloc (Nat.le_refl _) _).drew
                  have R0 := Lib.hid ((SR.out _ D0.out).take t)
                  have R1 := Lib.hid ((SR.out _ D1.out).take t)
                  have HLt : Hid ((s.take t).length = t) := Lib.hid (by rw [List.length_take]; omega)
                  have hVs : (V.alloc (.cells #[.int .i64 x] 3)).drew.heap.size = V.heap.size + 1 := by simp
                  have HVS := Lib.hid hVs
                  clear hVs
                  go_region_law (first
                    | (refine step_ints rfl (.tmp 63) (.tmp 66) rfl V.heap.size (.slice none 0 0) 0 [] (by simp [Act.eval, Act.put]) (World.ownsRow_nil _ _ _ _) A2 t c2 (s.take t) (by simp [Act.eval, Act.put]) HLt.out R0.out hA2.out.nil (by omega) (by simp) ?_; intro v2 w2 hown2 hb2; have HB2 := Lib.hid (D0.out.trans hb2); have hxx2 : w2.cell? ⟨b1, o1 + j, none⟩ = some (.int .i64 x) := (HB2.out.cell (block_lt_of_cell HXC.out)).trans HXC.out)
                    | (refine step_ints rfl (.tmp 63) (.tmp 66) rfl (V.heap.size + 1) (.slice none 0 0) 0 [] (by simp [Act.eval]) (World.ownsRow_nil _ _ _ _) A2 t c2 (s.take t) (by simp [Act.eval]) HLt.out R1.out hA2.out.nil (by omega) (by rw [HVS.out]; exact Nat.le_refl _) ?_; intro v2 w2 hown2 hb2; have HB2 := Lib.hid (D1.out.trans (hb2.mono (Nat.le_succ _))))
                    | (refine step_ints rfl (.tmp 67) (.tmp 72) rfl V.heap.size v2 t (s.take t) (by simp [Act.eval]) ((show w2.ownsRow V.heap.size 3 1 v2 t ((s.take t).map (Value.int .i64)) by simpa using hown2).alloc (.cells #[.int .i64 x] 3)) (some ⟨w2.heap.size, 0, none⟩) 1 1 [x] (by simp [Act.eval]) rfl (ri_one w2 x HX.out) (fun e => by cases e) (by omega) (by have := HB2.out.size; simp; omega) ?_; intro v3 w3 hown3 hb3; have HB3 := Lib.hid (HB2.out.trans (((Below.refl _ _).alloc HB2.out.size _).trans hb3)); have HO3 := Lib.hid hown3)
                    | (refine step_ints rfl (.tmp 67) (.tmp 72) rfl (V.heap.size + 1) v2 t (s.take t) (by simp [Act.eval]) (by simpa using hown2) (some ⟨V.heap.size, 0, none⟩) 1 1 [x] (by simp [Act.eval]) rfl (((ri_one V x HX.out).below (w' := (V.alloc (.cells #[.int .i64 x] 3)).drew) (Below.refl _ _).drew).below (by rw [HVS.out]; exact hb2)) (fun e => by cases e) (by omega) (by have := hb2.size; rw [HVS.out] at this; exact this) ?_; intro v3 w3 hown3 hb3; have HB3 := Lib.hid (HB2.out.trans (hb3.mono (Nat.le_succ _))); have HO3 := Lib.hid (own_base hown3 (Nat.le_succ _))))
                  all_goals
                    have s3 := restI A2 s.length c2 t hA2.out ht hc2 hc3
                    have R3 := Lib.hid ((SR.out _ HB3.out).mv t c2 hc2)
                    clear hown2 hown3 hb2 hb3
                    go_wp2_with (at_builtin; refine append_ints rfl _ _ rfl V.heap.size _ (t + 1) _ rfl HO3.out (mv A2 c2 t) (s.length - t) (c2 - t) (s.drop t) rfl (by rw [List.length_drop]) R3.out (mv_none hA2.out) (by omega) HB3.out.size ?_; intro v4 w4 hown4 hb4 _ _; obtain ⟨A4, c4, rfl, hp4, hk4, hc4⟩ := own_plain hown4; have HO4 := Lib.hid hown4; have HB4 := Lib.hid (HDD.out.trans ((HB3.out.trans hb4).mono HZ.out)); have HP4 := Lib.hid hp4; clear hown4 hb4 hp4)
                    have HLn : Hid (t + 1 + (s.length - t) = (insAll (p.take (j + 1))).length) := Lib.hid (by rw [HD.out, List.length_append, List.length_cons, List.length_drop, HLt.out]; omega)
                    have HRi4 : Hid (Ri w4 A4 (insAll (p.take (j + 1)))) := Lib.hid (by
                      have h := HO4.out
                      rw [List.append_assoc, List.singleton_append, ← HD.out] at h
                      obtain ⟨A', c', e, hri, -, -⟩ := Ri.of_own h (fun y hy => HPI.out y (List.mem_of_mem_take ((srt_mem _ y).1 (by rw [← insAll_eq]; exact hy))))
                      injection e with e1 e2 e3
                      subst e1
                      exact hri)
                    go_roundw
                    case rel => exact ⟨j + 1, A4, c4, by omega, by go_num, by rw [HLn.out], by rw [← HLn.out]; exact hk4, hc4, HP4, HRi4, HB4⟩
                    case measure => simp [intOf]; omega
          · have hjq : j = q := by omega
            subst hjq
            have hT : p.take j = p := List.take_of_length_le (by rw [HPk.out]; exact Nat.le_refl _)
            have hR := R.out
            rw [hT, insAll_eq, HRr.out] at hR
            rw [hT, insAll_eq, HRr.out]
            have HR := Lib.hid hR
            clear R hR hT
            go_wp2
            go_ret
            exact ⟨A2, c2, rfl, hA2.out.nil, HR.out, HB1.out.trans (B.out.mono HBz.out)⟩

end Go.Proofs.Ytladgfonkolpmaa
