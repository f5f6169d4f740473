/-
  The program's Items: what it hands back, and what that hands on.
-/
import Derived.Test.YtaohkakefdhecaaSqOpen
namespace Sqm
theorem ivN_wh {l : List Int} {p : Nat} (h : wh l p = true) : ivN l p = cnt l p := by unfold ivN; rw [if_pos h]
theorem ivD_wh {l : List Int} {p : Nat} (h : wh l p = true) : ivD l p = far l p := by unfold ivD; rw [if_pos h]
end Sqm
namespace Go.Proofs.Ytaohkakefdhecaa
open Go.RowKit Go.Shelf Crcm Sqm Go.ChangeShapes

attribute [local go_sem] Oper.semAt_some

theorem own_cap1 {w : World} {base n : Nat} {a : Option Addr} {cap : Nat} {e : TypeId} {xs : List Value} (h : w.ownsRow base e 1 (.slice a n cap) n xs) : cap ≤ 9223372036854775807 := by
  rcases h.2 with ⟨h, _⟩ | ⟨g, c, cur, h, _, _, _, hc, _⟩
  · injection h; omega
  · injection h with _ _ h; unfold maxLen at hc; omega
/-- a copy of any bytes -/
theorem bclone_all (a : Option Addr) (n c : Nat) (l : List Int) (w : World) (hr : Rw w a l) (hl : l.length = n) (hn : n ≤ 100000) (ha : a = none → n = 0 ∧ c = 0) :
    Calls Try.prog 26 #[.slice a n c] w fun e w' => (∃ A cc, e = .returned (.slice A n cc) ∧ Hid (n ≤ cc ∧ cc ≤ 9223372036854775807 ∧ Rw w' A l ∧ (l = [] ∨ ∃ g, A = some ⟨g, 0, none⟩ ∧ g < w'.heap.size ∧ w.heap.size ≤ g))) ∧ Below w.heap.size w w' := by
  rcases a with _ | ⟨b, off, sp⟩
  · obtain ⟨rfl, rfl⟩ := ha rfl
    have hl0 := List.length_eq_zero_iff.1 hl
    subst hl0
    go_enter Try.func26, Try.ntmps26
    have en := fun W a n c => Lib.run_eql_slice_nil (P := Try.prog) W 22 5 a n c 0 0 Try.underlying22
    go_wp2
    go_ret
    exact ⟨⟨none, 0, rfl, Lib.hid ⟨by omega, Rw.nil⟩⟩, Below.refl _ _⟩
  · by_cases h0 : n = 0
    · subst h0
      have hl0 := List.length_eq_zero_iff.1 hl
      subst hl0
      have en := fun W a n c => Lib.run_eql_slice_nil (P := Try.prog) W 22 5 a n c 0 0 Try.underlying22
      have hown : Hid ((w.alloc (.cells #[] 5)).ownsRow w.heap.size 5 1 (.slice (some ⟨w.heap.size, 0, none⟩) 0 0) 0 (([] : List Int).map (Value.int .u8))) := Lib.hid (World.ownsRow_lit w #[] 0 (Nat.le_refl _) (Nat.zero_le _) rfl)
      have hbx : Below w.heap.size w (w.alloc (.cells #[] 5)) := (Below.refl _ _).alloc (Nat.le_refl _) _
      have HBX := Lib.hid hbx
      clear hbx hr hl
      go_enter Try.func26, Try.ntmps26
      go_wp2_with (at_builtin; refine append_bytes rfl _ _ rfl w.heap.size _ 0 [] rfl hown.out (some ⟨b, off, sp⟩) 0 c [] rfl rfl (.inr ⟨_, rfl, fun j hj => absurd hj (Nat.not_lt_zero _)⟩) (by omega) (by simp) ?_)
      intro v' w2 hown2 hb2
      have HB2 := Lib.hid (HBX.out.trans hb2)
      obtain ⟨a2, cap2, rfl, hrw, hlen, hcap⟩ := Rw.of_own (zs := []) hown2 (fun m hm => absurd hm (List.not_mem_nil))
      have hc2 := own_cap1 hown2
      have HC2 := Lib.hid hc2
      clear hown2 hb2 hrw hlen hcap hc2
      go_wp2
      go_ret
      exact ⟨⟨a2, cap2, rfl, Lib.hid ⟨Nat.zero_le _, HC2.out, ⟨fun n hn => by simp at hn, by simp, .inl rfl⟩, .inl trivial⟩⟩, HB2.out⟩
    · obtain ⟨b', off', e⟩ := hr.addr (by omega)
      injection e with e
      injection e with e1 e2 e3
      subst e1 e2 e3
      refine (bclone_any n c b off l w hr hl (by omega)).mono ?_
      rintro e w' ⟨⟨g, cc, rfl, h1, h2, h3⟩, hb⟩
      obtain ⟨A', cp', he, hRw, -, -⟩ := Rw.of_own h3 hr.1
      injection he with e1 _ e3
      subst e1 e3
      exact ⟨⟨_, cc, rfl, Lib.hid ⟨h1, own_cap1 h3, hRw, .inr ⟨g, rfl, (h3.lt g rfl).2, h2⟩⟩⟩, hb⟩

set_option maxRecDepth 100000 in
theorem items_any (a : Option Addr) (n c : Nat) (l : List Int) (w : World) (hr : Rw w a l) (hl : l.length = n) (hn : n ≤ 100000) (ha : a = none → n = 0 ∧ c = 0) (hz : 0 < w.heap.size) :
    Calls Try.prog 17 #[.slice a n c] w fun e w' => (∃ Bn b A cc, e = .returned (.func (.func 27) #[] #[.pointer (some ⟨Bn, 0, none⟩)]) ∧ Hid (Blk w' Bn 22 #[.slice A n cc] ∧ n ≤ cc ∧ cc ≤ 9223372036854775807 ∧ Rw w' A l ∧ (l = [] ∨ A = some ⟨b, 0, none⟩) ∧ b < w'.heap.size ∧ b ≠ Bn ∧ (b = 0 ∨ w.heap.size ≤ b))) ∧ Below w.heap.size w w' := by
  have HC := Lib.hid (bclone_all a n c l w hr hl hn ha)
  have HL := Lib.hid hl
  clear hr hl hn ha
  go_enter Try.func17, Try.ntmps17
  go_wp2_with fail
  refine HC.out.mono ?_
  rintro e w1 ⟨⟨A, cc, rfl, hh⟩, hb⟩
  obtain ⟨h1, h2, h3, h4⟩ := hh.out
  have HB := Lib.hid (hb.alloc hb.size (.cells #[.slice A n cc] 22))
  have HK := Lib.hid (Blk.new w1 22 #[.slice A n cc])
  have HR := Lib.hid (h3.below ((Below.refl w1.heap.size w1).alloc (Nat.le_refl _) (.cells #[.slice A n cc] 22)))
  have HX : Hid (∃ b, (l = [] ∨ A = some ⟨b, 0, none⟩) ∧ b < w1.heap.size + 1 ∧ b ≠ w1.heap.size ∧ (b = 0 ∨ w.heap.size ≤ b)) := Lib.hid (by
    rcases h4 with h | ⟨g, h, hg, hg2⟩
    · exact ⟨0, .inl h, by omega, by have := hb.size; omega, .inl rfl⟩
    · exact ⟨g, .inr h, by omega, by omega, .inr hg2⟩)
  have HN := Lib.hid (And.intro h1 h2)
  clear hb h1 h2 h3 h4 hh
  go_wp2
  go_ret
  obtain ⟨b, x1, x2, x3, x4⟩ := HX.out
  exact ⟨⟨_, b, A, cc, rfl, Lib.hid ⟨HK.out, HN.out.1, HN.out.2, HR.out, x1, by rw [World.size_alloc]; exact x2, x3, x4⟩⟩, HB.out⟩

/-- what a round keeps -/
structure Kw (g q : Nat) (W W' : World) : Prop where
  keeps : KeepsFrom q W W'
  g : W'.heap[g]? = W.heap[g]?
  q0 : W'.heap[q]? = W.heap[q]?
  q1 : W'.heap[q + 1]? = W.heap[q + 1]?
theorem Kw.trans {g q : Nat} {A B C : World} (h : Kw g q A B) (k : Kw g q B C) : Kw g q A C := ⟨h.keeps.trans k.keeps, k.g.trans h.g, k.q0.trans h.q0, k.q1.trans h.q1⟩
/-- what the iterator turns -/
def Tw (q : Nat) (A : World) (r : Nat) : Prop := r = q + 1 ∨ (q ≤ r ∧ ∃ o : Obj, A.heap[r]? = some o ∧ o.isCells = false)
theorem round_any {P : Program} {y f m m' l' : Nat} {tmps : Array Value} {assign body : Code} {W : World} {R : Ending → World → Prop} (h : RoundIn Fence.wide m P y f tmps assign body W R) : RoundIn (Fence.wide.inRound l') m' P y f tmps assign body W R :=
  ⟨h.1, fun c cs _ => h.2 c cs (room_wide _)⟩

set_option maxRecDepth 100000 in
set_option maxHeartbeats 2000000 in
theorem items1_in (n : Nat) (_hn : 3 ≤ n) (Bn b off m c : Nat) (a : Option Addr) (l : List Int) (K : Nat) (hl : l.length = m) (hmc : m ≤ c) (hc : c ≤ 9223372036854775807) (ha : l = [] ∨ a = some ⟨b, off, none⟩) (w : World)
    (hbk : Blk w Bn 22 #[.slice a m c]) (hr : Rw w a l) (hbl : b < w.heap.size) (hK : ∀ j, j < K → wh l (pl l j) = true) (hKn : K = kn l ∨ (K < kn l ∧ wh l (pl l K) = false)) :
    SeqAt Fence.wide n Try.prog 27 #[.pointer (some ⟨Bn, 0, none⟩)] (fun k => #[.int .i64 (Sqm.cnt l (pl l k) : Int), .int .i64 (far l (pl l k) : Int)]) Tw 4 (Kw b) K w := by
  intro y J Jx W hW hJ hJx hY h0
  have hbkW := hbk.below hW hbk.lt
  have hrW := hr.below hW
  have hblW : b < W.heap.size := Nat.lt_of_lt_of_le hbl hW.size
  have hcell := hbkW.cell 0
  have hBl := hbkW.lt
  clear hbk hr hW hbl w hbkW
  have HJ := Lib.hid hJ
  have HJX := Lib.hid hJx
  have HL := Lib.hid hl
  have HA := Lib.hid ha
  have HY := Lib.hid hY
  have HR := Lib.hid hrW
  have HO := Lib.hid (fun w => (callsIn_wide (n := 5)).1 (itemsOf_in 5 a m c w))
  have HK := Lib.hid (And.intro hK hKn)
  have H0 := Lib.hid h0
  clear hJ hJx hY hrW ha hl hK hKn h0
  refine callsIn_of_wp_marks Try.func27 rfl trivial ?_ rfl
  simp only [Try.ntmps27, List.size_toArray, List.length_cons, List.length_nil, Nat.reduceAdd, Nat.reduceSub, Array.replicate_succ, Array.replicate_zero, List.push_toArray, List.append_toArray, List.nil_append, List.cons_append]
  refine wpIn_wide.2 ?_
  go_wp2_with fail
  refine (HO.out _).mono ?_
  rintro e w' ⟨rfl, rfl⟩
  go_wp2_with fail
  obtain ⟨q, hq⟩ : ∃ q, W.heap.size = q := ⟨_, rfl⟩
  obtain ⟨W2, hW2⟩ : ∃ W2, (W.alloc (.cells #[.func (.yield y) #[] #[]] 53)).alloc (.cells #[.slice a m c] 22) = W2 := ⟨_, rfl⟩
  have hz2 : W2.heap.size = q + 2 := by rw [← hW2, ← hq]; simp
  have hb2 : Below W.heap.size W W2 := by rw [← hW2]; exact ((Below.refl _ W).alloc (Nat.le_refl _) _).alloc (by simp) _
  have b0 : Blk W2 q 53 #[.func (.yield y) #[] #[]] := by rw [← hW2, ← hq]; exact (Blk.new _ _ _).alloc _
  have b1 : Blk W2 (q + 1) 22 #[.slice a m c] := by
    have := Blk.new (W.alloc (.cells #[.func (.yield y) #[] #[]] 53)) 22 #[.slice a m c]
    rw [World.size_alloc, hq, hW2] at this; exact this
  rw [hq, hW2]
  have HSeq := Lib.hid (items_in (n - 1) (by omega) (q + 1) b off m c a l HL.out hmc hc HA.out W2 b1 (HR.out.below hb2) (by omega) (by omega))
  have henc : (fun k => #[iv b off c l (pl l k), Value.bool (wh l (pl l k))]) = (fun k => #[Value.agg (ivc b off c l (pl l k)), Value.bool (wh l (pl l k))]) := by funext k; rw [iv_eq]
  rw [henc] at HSeq
  have HJ0 : Hid (J 0 W2) := Lib.hid (HJ.out _ _ _ none H0.out (grown_below1 hb2 none) (fun r e => by cases e))
  rw [hq] at HJ HJX HY
  have HB0 := Lib.hid b0
  clear henc b0 b1 hb2 hW2 hcell H0 HO
  refine (wpIn_wide (n := n)).1 ?_
  have hTT : ∀ (A : World) (row : Option Nat), (∀ r, row = some r → r = q + 1 ∨ (W2.heap.size ≤ r ∧ ∃ o : Obj, A.heap[r]? = some o ∧ o.isCells = false)) → (∀ r, row = some r → Tw q A r ∨ (q ≤ r ∧ ∃ o : Obj, A.heap[r]? = some o ∧ o.isWalk = true)) := fun A row hr r e => by
    rcases hr r e with h | ⟨h1, h2⟩
    · exact .inl (.inl h)
    · exact .inl (.inr ⟨by omega, h2⟩)
  have HTT := Lib.hid hTT
  clear hTT
  refine rangeFunc_at rfl (by omega) (gf := 31) (lb := #[.pointer (some ⟨q + 1, 0, none⟩)]) rfl trivial (enters_of Try.func31 (by kernel_rfl) rfl)
    HSeq.out rfl (fun _ r e => by omega) Kb2.trans (fun X o' hy => ⟨World.putObj_heap_other (by omega), World.putObj_heap_other (by omega), by simp⟩) (Below.refl _ _) (fun _ => rfl)
    (fun k X => J k X ∧ k ≤ K ∧ Blk X q 53 #[.func (.yield y) #[] #[]]) (fun cc k X => cc = .ret ∧ ((k ≤ K ∧ Jx k X) ∨ J K X))
    (fun s A C row hs hg hr => ⟨HJ.out s A C row hs.1 hg (HTT.out A row hr), hs.2.1, onOwn_blk (β := Unit) (T := fun _ r => r = q + 1) q _ (fun _ => _) (fun _ _ _ => by omega) () A C row hs.2.2 hg hr⟩)
    (fun cc s A C row hs hg hr => ⟨hs.1, hs.2.imp (fun h => ⟨h.1, HJX.out s A C row h.2 hg (HTT.out A row hr)⟩) (fun h => HJ.out K A C row h hg (HTT.out A row hr))⟩)
    ⟨HJ0.out, Nat.zero_le _, HB0.out⟩
    (fun k a' X => ∃ p, a' = { tmps := #[.func (.yield y) #[] #[], .pointer (some ⟨Bn, 0, none⟩), .pointer (some ⟨q, 0, none⟩), .pointer (some ⟨p, 0, none⟩), .bool (wh l (pl l k)), .slice a m c, .func (.func 31) #[] #[.pointer (some ⟨q + 1, 0, none⟩)], .agg (ivc b off c l (pl l k)), .bool (wh l (pl l k)), undef, undef, undef, undef, undef, undef, undef, undef, undef, undef, undef], defers := [] } ∧ Blk X p 43 (ivc b off c l (pl l k)) ∧ q + 2 ≤ p)
    (fun k a' _ A C row ⟨p, e, hb, hp⟩ hg hr => ⟨p, e, onOwn_blk (β := Unit) (T := fun _ r => r = q + 1) p _ (fun _ => _) (fun _ _ _ => by omega) () A C row hb hg (fun r e => .inr (hr r e)), hp⟩) ?assign ?body ?done ?stop
  case assign =>
    rintro y' k X Kc hzX hkN hst hK2
    unfold ivc
    gi_wp2
    exact hK2 _ _ (KeepsFrom.of_grownBy (World.grownBy_alloc X _ none) (fun r e => by cases e)) ⟨Below.heap_alloc _ _ _ (by omega), Below.heap_alloc _ _ _ (by omega), by simp⟩ ⟨HJ.out k X _ none hst.1 (World.grownBy_alloc X _ none) (fun r e => by cases e), hst.2.1, hst.2.2.alloc _⟩ ⟨X.heap.size, rfl, Blk.new _ _ _, by omega⟩
  case body =>
    rintro y' k a' X hy' hzX hrec hkN ⟨hJk, hkK, hb0⟩ ⟨pb, rfl, hbk, hpz⟩
    obtain ⟨p, hp⟩ : ∃ p, pl l k = p := ⟨_, rfl⟩
    have c0 := hb0.cell 0
    rw [hp] at hbk ⊢
    have HBK := Lib.hid hbk
    unfold ivc at hbk
    have d0 := hbk.cell 0
    have d1 := hbk.cell 1
    have hrec2 := hrec
    by_cases hw : wh l p = true
    · have hk : k < K := by
        rcases (by omega : k < K ∨ k = K) with h | rfl
        · exact h
        · rcases HK.out.2 with h | ⟨_, h⟩
          · omega
          · rw [hp, hw] at h; cases h
      obtain ⟨fn, tmps, assign, body, hyy, hRR⟩ := HY.out k X hk hJk (by omega)
      rw [hp] at hyy
      rw [ivN_wh hw] at d0
      rw [ivD_wh hw] at d1
      rw [hw]
      have HRR := Lib.hid hRR
      have HB := Lib.hid hb0
      clear hJk hb0 hbk hRR hrec2
      gi_wp2_with fail
      refine ⟨fun h => (by cases h), (round_any HRR.out).mono ?_⟩
      rintro e X3 (⟨rfl, hJ3, hk3⟩ | ⟨rfl, hJx3, hk3⟩)
      · have HJ3 := Lib.hid hJ3
        have HK3 := Lib.hid hk3
        clear hJ3 hk3
        gi_wp2
        refine ⟨keepsFrom_mono (by omega) HK3.out.keeps, ⟨HK3.out.q1, HK3.out.g, HK3.out.keeps.size⟩, HJ3.out, by omega, HK3.out.q0.trans HB.out⟩
      · have HJ3 := Lib.hid hJx3
        have HK3 := Lib.hid hk3
        clear hJx3 hk3
        gi_wp2
        exact ⟨keepsFrom_mono (by omega) HK3.out, rfl, .inl ⟨by omega, HJ3.out⟩⟩
    · have hw' : wh l p = false := by simpa using hw
      have hk : k = K := by
        rcases (by omega : k < K ∨ k = K) with h | rfl
        · have := HK.out.1 k h; rw [hp, hw'] at this; cases this
        · rfl
      subst hk
      have HJ3 := Lib.hid hJk
      rw [hw']
      clear hJk hb0 hbk hrec2 hw
      gi_wp2_with fail
      refine ⟨fun _ h => (by cases h), ?_⟩
      gi_wp2
      exact ⟨KeepsFrom.refl _ _, rfl, .inr HJ3.out⟩
  case done =>
    rintro D X hD ⟨hJk, hkK, -⟩ hdef
    have hK : K = kn l := by rcases HK.out.2 with h | ⟨h, _⟩; exact h; omega
    subst hK
    have HJ3 : Hid (J (kn l) (X.putObj D (.deferred none))) := Lib.hid (HJ.out _ _ _ (some D) hJk (grownBy_putObj' X D (.deferred none)) (fun r e => by cases e; exact .inl (.inr ⟨by omega, _, hdef, rfl⟩)))
    clear hJk
    go_wp2_with fail
    refine ⟨by simp, .inl ⟨_, _, rfl, run_takeDeferred hdef, ?_⟩⟩
    exact ⟨_, results_none rfl _ _ _, ⟨_, rfl⟩, .inl HJ3.out⟩
  case stop =>
    rintro D cc k X hD hkN ⟨rfl, hJk⟩ hdef
    have hdr : ∀ r, some D = some r → Tw q X r ∨ (q ≤ r ∧ ∃ o : Obj, X.heap[r]? = some o ∧ o.isWalk = true) := fun r e => by cases e; exact .inl (.inr ⟨by omega, _, hdef, rfl⟩)
    have HJ3 : Hid (J K (X.putObj D (.deferred none)) ∨ ∃ k, k ≤ K ∧ Jx k (X.putObj D (.deferred none))) := Lib.hid (by
      rcases hJk with ⟨h1, h2⟩ | h
      · exact .inr ⟨k, h1, HJX.out _ _ _ (some D) h2 (grownBy_putObj' X D (.deferred none)) hdr⟩
      · exact .inl (HJ.out _ _ _ (some D) h (grownBy_putObj' X D (.deferred none)) hdr))
    clear hJk hdr
    refine wpIn_wide.2 ?_
    go_wp2_with fail
    refine ⟨by simp, .inl ⟨_, _, rfl, run_takeDeferred hdef, ?_⟩⟩
    exact ⟨_, results_none rfl _ _ _, ⟨_, rfl⟩, HJ3.out⟩
end Go.Proofs.Ytaohkakefdhecaa
