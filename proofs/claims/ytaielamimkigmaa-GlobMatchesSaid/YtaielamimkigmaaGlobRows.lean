/-
  All pieces of a part: the program's reading.
-/
import Derived.Test.YtaielamimkigmaaGlobRead
import Derived.Maps.AppendAt
namespace Globm
theorem prs_nil (n : Nat) : prs n [] = some [] := by cases n <;> rfl
theorem prs_cons (n : Nat) {a : Nat} {l : List Nat} (h : l.length ≤ n) : prs (n + 1) (a :: l) = match fst1 (a :: l) with
    | none => none
    | some (x, r) => (prs (n + 1) r).map (x :: ·) := by
  conv => lhs; unfold prs
  rcases hf : fst1 (a :: l) with _ | ⟨x, r⟩
  · rfl
  · have := fst1_len hf
    simp only [List.length_cons] at this
    show (prs n r).map _ = (prs (n + 1) r).map _
    rw [prs_fuel n (n + 1) r (by omega) (by omega)]
theorem marks_prs {l : List Nat} (h1 : 1 ≤ l.length) (h2 : l.length ≤ 64) : marks l = prs 64 l := by
  unfold marks
  rw [if_pos ⟨h1, h2⟩]
  exact prs_fuel _ _ _ (Nat.le_refl _) h2
/-- so many marks stand for so many bytes at least -/
theorem prs_len : ∀ (n : Nat) (l : List Nat) (m : List (Mk Nat)), prs n l = some m → m.length ≤ l.length := by
  intro n
  induction n with
  | zero =>
    intro l m h
    match l with
    | [] => rw [prs_nil] at h; injection h with h; subst h; exact Nat.le_refl _
    | a :: l => cases h
  | succ n ih =>
    intro l m h
    match l with
    | [] => rw [prs_nil] at h; injection h with h; subst h; exact Nat.le_refl _
    | a :: l =>
      unfold prs at h
      rcases hf : fst1 (a :: l) with _ | ⟨x, r⟩
      · rw [hf] at h; cases h
      · rw [hf] at h
        have h2 := fst1_len hf
        rcases hp : prs n r with _ | m'
        · simp only [hp] at h; cases h
        · simp only [hp, Option.map_some, Option.some.injEq] at h
          subst h
          have := ih r m' hp
          simp only [List.length_cons] at h2 ⊢
          omega
end Globm
namespace Go.Proofs.Ytaielamimkigmaa
open Go.RowKit Go.ChangeShapes Globm Go.ChangeMaps

/-- the cells of pieces -/
def pcl (l : List (Mk Nat)) : List Value := l.flatMap fun x => (gpc x).toList
theorem pcl_snoc (l : List (Mk Nat)) (x : Mk Nat) : pcl (l ++ [x]) = pcl l ++ (gpc x).toList := by simp [pcl]
theorem pcl_at : ∀ (l : List (Mk Nat)) (j : Nat) (x : Mk Nat) (c : Nat), l[j]? = some x → c < 5 → (pcl l)[j * 5 + c]? = (gpc x)[c]?
  | [], j, x, c, h, _ => by simp at h
  | y :: l, 0, x, c, h, hc => by
    simp only [List.getElem?_cons_zero, Option.some.injEq] at h
    subst h
    show ((gpc y).toList ++ pcl l)[0 * 5 + c]? = _
    rw [Nat.zero_mul, Nat.zero_add, List.getElem?_append_left (by simpa [gpc] using hc), Array.getElem?_toList]
  | y :: l, j + 1, x, c, h, hc => by
    simp only [List.getElem?_cons_succ] at h
    show ((gpc y).toList ++ pcl l)[(j + 1) * 5 + c]? = _
    rw [List.getElem?_append_right (by simp [gpc]; omega), show (j + 1) * 5 + c - (gpc y).toList.length = j * 5 + c by simp [gpc]; omega]
    exact pcl_at l j x c h hc
theorem infoPiece : (Try.prog.info? 75).map (fun i => (i.zero, i.size, i.bytes)) = some (some (.agg #[.bool false, .int .u64 0, .int .u64 0, .int .u64 0, .int .u64 0]), 5, 40) := by kernel_rfl
/-- a piece is put behind the others -/
theorem appP {w : World} {ops : Array Oper} {rest : List Oper} {o : Oper} {a : Act} {Q : Exit → Act → World → Prop} (hgd : o.guard = none) (s x : Operand)
    (ho : o.op = .call { callee := .builtin .append, args := #[s, x], argTypes := #[39, 39] })
    (base : Nat) (v : Value) (n : Nat) (xs : List Value) (hs : a.eval s = v) (hown : w.ownsRow base 75 5 v n xs)
    (g : Nat) (c : Nat) (y : Mk Nat) (hx : a.eval x = .slice (some ⟨g, 0, none⟩) 1 c) (hb : Blk w g 75 (gpc y)) (h63 : n + 1 ≤ 4000000) (hbase : base ≤ w.heap.size)
    (h : ∀ v' w', w'.ownsRow base 75 5 v' (n + 1) (xs ++ (gpc y).toList) → Below base w w' → w.grownBy w' v.ownBlock → wpList Try.prog ops Q rest (a.put o.dst v') w') : wpList Try.prog ops Q (o :: rest) a w := by
  obtain ⟨i0, hi, hz0, hz1, hz2⟩ := info_parts infoPiece
  refine wpList_append_own_at w hgd s x 39 ho base 75 i0 _ 5 40 Try.underlying39 hi hz0 hz1 hz2 rfl (by decide) v n _ hs hown ⟨g, 0, none⟩ 1 c (gpc y).toList hx rfl ?_ ?_ (by unfold maxLen; omega) (by omega) hbase ?_
  · intro j u hu
    have := hb.cell j
    rw [Addr.add_lit, Nat.zero_add, this]
    simpa using hu
  · intro u hu
    simp [gpc] at hu
    rcases hu with rfl | rfl | rfl | rfl | rfl <;> rfl
  · intro v' w' h1 h2 _ h4
    exact h v' w' h1 ((Below.refl _ _).grown h2 hbase (fun g hg => (hown.lt g hg).1)) h2
theorem own_belowN {w w' : World} {base k sz : Nat} {e : TypeId} {v : Value} {xs : List Value} (h : w.ownsRow base e sz v k xs) (hb : Below w.heap.size w w') : w'.ownsRow base e sz v k xs := by
  obtain ⟨h1, h2⟩ := h
  refine ⟨h1, ?_⟩
  rcases h2 with h2 | ⟨g, cap, cur, e', hg, hh, r⟩
  · exact .inl h2
  · have hB : Blk w g e cur := hh
    exact .inr ⟨g, cap, cur, e', hg, hB.below hb hB.lt, r⟩
/-- what the program hands back of a part -/
def rdV (base : Nat) : Option (List (Mk Nat)) → Value → World → Prop
  | none, v, _ => v = .tuple #[.slice none 0 0, .bool false]
  | some l, v, w => ∃ A cap, v = .tuple #[.slice A l.length cap, .bool true] ∧ w.ownsRow base 75 5 (.slice A l.length cap) l.length (pcl l) ∧ l.length ≤ 64
theorem own_form5 {w : World} {base k : Nat} {v : Value} {xs : List Value} {e : TypeId} (h : w.ownsRow base e 5 v k xs) : ∃ a c, v = .slice a k c := by
  rcases h.2 with ⟨rfl, rfl⟩ | ⟨g, cap, cur, rfl, _⟩
  · exact ⟨none, 0, rfl⟩
  · exact ⟨_, cap, rfl⟩

set_option maxRecDepth 100000 in
set_option maxHeartbeats 4000000 in
theorem read_any (s : ByteArray) (w : World) :
    Calls Try.prog 24 #[.string s] w fun e w' => (∃ v, e = .returned v ∧ rdV w.heap.size (marks (by8 s)) v w') ∧ Below w.heap.size w w' := by
  by_cases h : 1 ≤ s.size ∧ s.size ≤ 64
  · have h1 : (1 : Int) ≤ (s.size : Int) := by omega
    have h2 : (s.size : Int) ≤ 64 := by omega
    have hm := marks_prs (l := by8 s) (by rw [by8_length]; exact h.1) (by rw [by8_length]; exact h.2)
    obtain ⟨res, hres⟩ : ∃ res, prs 64 (by8 s) = res := ⟨_, rfl⟩
    rw [hm, hres]
    have HRes := Lib.hid hres
    have f1 : decide ((s.size : Int) < 1) = false := by simp; omega
    have f2 : decide ((64 : Int) < (s.size : Int)) = false := by simp; omega
    have HLen : Hid (s.size ≤ 64) := Lib.hid h.2
    clear hm hres h
    go_enter Try.func24, Try.ntmps24
    go_wp2_with fail
    go_loopw [0, 4] (fun x y wr => ∃ (t : ByteArray) (k : Nat) (A : Option Addr) (ca : Nat), x = .string t ∧ y = .slice A k ca ∧ k + t.size ≤ 64 ∧ Hid (∃ l : List (Mk Nat), l.length = k ∧ (prs 64 (by8 t)).map (l ++ ·) = res ∧ wr.ownsRow w.heap.size 75 5 (.slice A k ca) k (pcl l)) ∧ Hid (Below w.heap.size w wr)) (fun x _ _ => match x with | .string t => t.size | _ => 0)
    case atStart => exact ⟨s, 0, none, 0, rfl, rfl, by have := HLen.out; omega, Lib.hid ⟨[], rfl, by rw [HRes.out]; cases res <;> rfl, World.ownsRow_nil _ _ _ _⟩, Lib.hid (Below.refl _ _)⟩
    case round =>
      obtain ⟨t, k, A, ca, rfl, rfl, hkt, hL, hB⟩ := hrel
      rcases Nat.eq_zero_or_pos t.size with h0 | hpos
      · obtain rfl : t = ⟨#[]⟩ := by
          obtain ⟨⟨l⟩⟩ := t
          match l, h0 with
          | [], _ => rfl
          | b :: r, h0 => simp [ByteArray.size] at h0
        have HEnd : Hid (∃ l : List (Mk Nat), l.length = k ∧ res = some l ∧ wr.ownsRow w.heap.size 75 5 (.slice A k ca) k (pcl l)) := Lib.hid (by
          obtain ⟨l, e1, e2, e3⟩ := hL.out
          exact ⟨l, e1, by rw [← e2, show by8 ⟨#[]⟩ = [] from rfl, prs_nil]; simp, e3⟩)
        have hk64 : Hid (k ≤ 64) := Lib.hid (by omega)
        clear hL h0 hkt
        go_wp2_with fail
        go_ret2
        obtain ⟨l, rfl, rfl, e3⟩ := HEnd.out
        exact ⟨⟨_, rfl, A, ca, rfl, e3, hk64.out⟩, hB.out⟩
      · have hne : t.toList.isEmpty = false := by
          rw [ByteArray.toList_eq]
          obtain ⟨⟨l⟩⟩ := t
          match l, hpos with
          | b :: r, _ => rfl
          | [], h => exact absurd h (by decide)
        have ha := by8_drop hpos
        rw [List.drop_zero] at ha
        have HF := Lib.hid (first_any t wr hpos (by omega))
        have hpc := prs_cons 63 (a := t[0].toNat) (l := (by8 t).drop 1) (by rw [List.length_drop, by8_length]; omega)
        rw [← ha] at hpc
        rcases hfst : fst1 (by8 t) with _ | ⟨x, r⟩
        · rw [hfst] at HF hpc
          have HN : Hid (res = none) := Lib.hid (by
            obtain ⟨l, _, e2, _⟩ := hL.out
            rw [← e2, hpc]; rfl)
          simp only [frV, zs5] at HF
          clear ha hpc hfst hL hpos
          go_wp2_with fail
          refine HF.out.mono ?_
          rintro e w2 ⟨⟨v, rfl, rfl⟩, hb2⟩
          have HB2 := Lib.hid ((hB.out.trans (hb2.mono hB.out.size)).alloc (hB.out.trans (hb2.mono hB.out.size)).size (.cells #[.bool false, .int .u64 0, .int .u64 0, .int .u64 0, .int .u64 0] 75))
          clear hb2
          go_wp2_with fail
          go_ret2
          rw [HN.out]
          exact ⟨⟨_, rfl, rfl⟩, HB2.out⟩
        · rw [hfst] at HF hpc
          have hrl := fst1_len hfst
          rw [by8_length] at hrl
          have HStep : Hid (∃ l : List (Mk Nat), l.length = k ∧ (prs 64 r).map (l ++ [x] ++ ·) = res ∧ wr.ownsRow w.heap.size 75 5 (.slice A k ca) k (pcl l)) := Lib.hid (by
            obtain ⟨l, e1, e2, e3⟩ := hL.out
            refine ⟨l, e1, ?_, e3⟩
            rw [← e2, hpc]
            show _ = Option.map (l ++ ·) ((prs 64 r).map (x :: ·))
            cases prs 64 r <;> simp)
          simp only [frV] at HF
          obtain ⟨R, hR⟩ : ∃ R, x.run = R := ⟨_, rfl⟩
          obtain ⟨A0, hA0⟩ : ∃ A0, (wj (ps x) 0 : Nat) = A0 := ⟨_, rfl⟩
          obtain ⟨A1, hA1⟩ : ∃ A0, (wj (ps x) 1 : Nat) = A0 := ⟨_, rfl⟩
          obtain ⟨A2, hA2⟩ : ∃ A0, (wj (ps x) 2 : Nat) = A0 := ⟨_, rfl⟩
          obtain ⟨A3, hA3⟩ : ∃ A0, (wj (ps x) 3 : Nat) = A0 := ⟨_, rfl⟩
          have hP : gpc x = #[.bool R, .int .u64 A0, .int .u64 A1, .int .u64 A2, .int .u64 A3] := by rw [← hR, ← hA0, ← hA1, ← hA2, ← hA3]; rfl
          rw [hP] at HF
          have HP := Lib.hid hP
          clear ha hpc hfst hL hP hR hA0 hA1 hA2 hA3
          go_wp2_with fail
          refine HF.out.mono ?_
          rintro e w2 ⟨⟨v, rfl, t2, ht2, rfl⟩, hb2⟩
          have HT2 := Lib.hid ht2
          have ht2z : t2.size < t.size := by rw [← by8_length, ht2]; exact hrl
          have HB2 := Lib.hid (hB.out.trans (hb2.mono hB.out.size))
          have z := Blk.new w2 75 #[.bool R, .int .u64 A0, .int .u64 A1, .int .u64 A2, .int .u64 A3]
          obtain ⟨c0, c1, c2, c3, c4, -, -, -, -, -⟩ := cells5 z
          obtain ⟨l, hlk, hlres, hown⟩ := HStep.out
          have HLk := Lib.hid hlk
          have HLr := Lib.hid hlres
          have HOwn := Lib.hid (own_belowN hown hb2)
          have hk64 : k + 1 ≤ 64 := by omega
          have hw2 : w.heap.size ≤ w2.heap.size := HB2.out.size
          clear hb2 ht2 hrl HF hlk hlres hown HStep
          go_wp2_with (at_builtin; refine appP rfl _ _ rfl w.heap.size _ k _ rfl ((HOwn.out.alloc _).alloc _) (w2.heap.size + 1) 1 x rfl (by rw [HP.out]; have h := Blk.new (w2.alloc (.cells #[.bool R, .int .u64 A0, .int .u64 A1, .int .u64 A2, .int .u64 A3] 75)) 75 #[.bool R, .int .u64 A0, .int .u64 A1, .int .u64 A2, .int .u64 A3]; rw [World.size_alloc] at h; exact h) (by omega) (by simp; omega) ?_; intro v' w' hown' hb' hg')
          obtain ⟨Z, cz, rfl⟩ := own_form5 hown'
          rw [← pcl_snoc] at hown'
          refine ⟨⟨t2, k + 1, Z, cz, rfl, rfl, by omega, Lib.hid ⟨l ++ [x], by simp [HLk.out], by rw [HT2.out]; exact HLr.out, hown'⟩, Lib.hid (((HB2.out.alloc HB2.out.size _).alloc (by simp; omega) _).trans hb')⟩, ?_⟩
          exact ht2z
  · have hm : marks (by8 s) = none := by
      unfold marks
      rw [if_neg (by rw [by8_length]; exact h)]
    rw [hm]
    rcases (by omega : s.size < 1 ∨ (1 ≤ s.size ∧ 64 < s.size)) with h1 | ⟨h1, h2⟩
    · have f1 : decide ((s.size : Int) < 1) = true := by simp; omega
      clear h hm h1
      go_enter Try.func24, Try.ntmps24
      go_wp2_with fail
      go_ret2
      exact ⟨⟨_, rfl, rfl⟩, Below.refl _ _⟩
    · have f1 : decide ((s.size : Int) < 1) = false := by simp; omega
      have f2 : decide ((64 : Int) < (s.size : Int)) = true := by simp; omega
      clear h hm h1 h2
      go_enter Try.func24, Try.ntmps24
      go_wp2_with fail
      go_ret2
      exact ⟨⟨_, rfl, rfl⟩, Below.refl _ _⟩
end Go.Proofs.Ytaielamimkigmaa
