/-
  The law SqueezeItems.
-/
import Derived.Test.YtaohkakefdhecaaSqLawD
import Derived.Test.YtaohkakefdhecaaSqItems
namespace Go.Proofs.Ytaohkakefdhecaa
open Go.RowKit Go.Shelf Crcm Sqm Tagm Inom Roomm Go.ChangeShapes

attribute [local go_sem] Oper.semAt_some

theorem own_below3 {w w' : World} {base k : Nat} {v : Value} {xs : List Value} (h : w.ownsRow base 38 3 v k xs) (hb : Below w.heap.size w w') : w'.ownsRow base 38 3 v k xs := by
  obtain ⟨h1, h2⟩ := h
  refine ⟨h1, ?_⟩
  rcases h2 with h2 | ⟨g, cap, cur, e, hg, hh, r⟩
  · exact .inl h2
  · have hB : Blk w g 38 cur := hh
    exact .inr ⟨g, cap, cur, e, hg, hB.below hb hB.lt, r⟩

theorem its_at3 (l : List Int) {k : Nat} : ∀ K, k < K → (its l K)[k * 3]? = some (.int .i64 (Sqm.cnt l (pl l k) : Int)) ∧ (its l K)[k * 3 + 1]? = some (.int .i64 (far l (pl l k) : Int))
  | 0, h => absurd h (Nat.not_lt_zero _)
  | K + 1, h => by
    rw [its]
    rcases Nat.lt_succ_iff_lt_or_eq.1 h with h | rfl
    · rw [List.getElem?_append_left (by rw [its_len]; omega), List.getElem?_append_left (by rw [its_len]; omega)]; exact its_at3 l K h
    · rw [List.getElem?_append_right (by rw [its_len]; omega), List.getElem?_append_right (by rw [its_len]; omega), its_len, show k * 3 - k * 3 = 0 by omega, show k * 3 + 1 - k * 3 = 1 by omega]; exact ⟨rfl, rfl⟩
theorem its_cell3 {w : World} {base K cap : Nat} {A : Option Addr} {l : List Int} (h : w.ownsRow base 38 3 (.slice A K cap) K (its l K)) {k : Nat} (hk : k < K) : ∃ g, A = some ⟨g, 0, none⟩ ∧ K ≤ cap ∧ w.cell? ⟨g, k * 3, none⟩ = some (.int .i64 (Sqm.cnt l (pl l k) : Int)) ∧ w.cell? ⟨g, k * 3 + 1, none⟩ = some (.int .i64 (far l (pl l k) : Int)) := by
  rcases h.2 with ⟨_, h0⟩ | ⟨g, c, cur, he, _, hg, hn, _, hs, ht⟩
  · omega
  · injection he with e1 e2 e3
    subst e3
    refine ⟨g, e1, hn, ?_, ?_⟩
    · rw [cell_of_row w g (k * 3) cur 38 (0, 0) hg, ← (its_at3 l K hk).1, ← ht, List.getElem?_take_of_lt (by omega), Array.getElem?_toList]
    · rw [cell_of_row w g (k * 3 + 1) cur 38 (0, 0) hg, ← (its_at3 l K hk).2, ← ht, List.getElem?_take_of_lt (by omega), Array.getElem?_toList]

/-- what lies in memory when so many have been looked at -/
structure ItSt (S T B : Nat) (w : World) (l : List Int) (I : Option Addr) (K ci M n : Nat) (X : World) : Prop where
  res : Blk X S 4 #[.bool false]
  row : Blk X T 31 #[.slice I K ci]
  most : Blk X (T + 1) 3 #[.int .i64 (M : Int)]
  cnt : Blk X (T + 2) 3 #[.int .i64 (n : Int)]
  own : X.ownsRow B 38 3 (.slice I K ci) K (its l K)
  bel : Below S w X
theorem ItSt.on {S T B q V : Nat} {w : World} {l : List Int} {I : Option Addr} {K ci M : Nat} {f : Nat → Nat} (hS : w.heap.size = S) (h1 : S < T) (h2 : T + 3 ≤ V) (h3 : V + 2 ≤ q) (hI : ∀ r, (Value.slice I K ci).ownBlock = some r → r < q) : OnOwn V (Tw q) (fun (k : Nat) X => ItSt S T B w l I K ci M (f k) X) := fun s A C row ⟨a1, a2, a3, a4, a5, a6⟩ hg hr => by
  have hq : ∀ (A : World) (r : Nat), Tw q A r → q ≤ r := fun A r h => by rcases h with h | h; omega; exact h.1
  refine ⟨?_, ?_, ?_, ?_, ?_, ?_⟩
  · exact onOwn_blk (β := Unit) (T := Tw q) S _ (fun _ => _) (fun _ A _ h => by have := hq _ _ h; omega) () A C row a1 hg hr
  · exact onOwn_blk (β := Unit) (T := Tw q) T _ (fun _ => _) (fun _ A _ h => by have := hq _ _ h; omega) () A C row a2 hg hr
  · exact onOwn_blk (β := Unit) (T := Tw q) (T + 1) _ (fun _ => _) (fun _ A _ h => by have := hq _ _ h; omega) () A C row a3 hg hr
  · exact onOwn_blk (β := Unit) (T := Tw q) (T + 2) _ (fun _ => _) (fun _ A _ h => by have := hq _ _ h; omega) () A C row a4 hg hr
  · refine a5.kept hg ?_
    by_cases e : (Value.slice I K ci).ownBlock = row
    · left
      rcases row with _ | r
      · exact e
      · exfalso
        have hlt := hI r e
        rcases hr r rfl with h | ⟨_, o, ho, hc⟩
        · have := hq _ _ h; omega
        · rcases a5.2 with ⟨h0, _⟩ | ⟨g', cap, cur, h0, _, hgg, _⟩
          · rw [h0] at e; simp [Value.ownBlock] at e
          · rw [h0] at e
            simp [Value.ownBlock] at e
            subst e
            rw [hgg] at ho; cases ho; cases hc
    · exact .inr e
  · exact onOwn_below (β := Unit) (T := Tw q) (Nat.le_of_eq hS.symm) (by omega) (fun A r h => by have := hq _ _ h; omega) () A C row a6 hg hr

set_option maxRecDepth 100000 in
set_option maxHeartbeats 1000000 in
theorem squeezeItems_walk (a : Option Addr) (len cap : Nat) (z : List Int) (most : Int) (w : World) (hz : Row8 w a len cap z) (w1 : (Lit.int .i64 most).wf = true) :
    Calls Try.prog 5 #[.slice a len cap, .int .i64 most] w fun e w' => e = .returned (.bool true) ∧ Below w.heap.size w w' := by
  have hnil : a = none → len = 0 ∧ cap = 0 := fun h => by
    subst h
    rcases hz with ⟨_, h1, h2, _⟩ | ⟨x, h1, _⟩
    · exact ⟨h1, h2⟩
    · cases h1
  obtain ⟨l, hl, hc, hr, -⟩ := hz.rw
  have hn : len ≤ maxLen := by have := hr.2.1; omega
  have HG0 := fun w => lng_any a len cap w hn
  by_cases h : (900 < len ∧ len ≤ 65536) ∨ 70000 < len
  · rw [decide_eq_true h] at HG0
    have HG := Lib.hid HG0
    clear h hn HG0 hnil
    go_enter Try.func5, Try.ntmps5
    go_wp2_with fail
    refine (HG.out _).mono ?_
    rintro e w2 ⟨rfl, rfl⟩
    go_wp2_with fail
    refine (known_any _).mono ?_
    rintro e w2 ⟨rfl, hb⟩
    have hr0 := ((Blk.new w 4 #[.bool false]).below hb (by simp))
    have c0 := hr0.cell 0
    have f0 := hr0.frozen 0
    have cs := (hr0.put 0 (.bool true)).cell 0
    have HB : Hid (Below w.heap.size w (w2.setCell ⟨w.heap.size, 0, none⟩ (.bool true))) := Lib.hid ((((Below.refl _ _).alloc (Nat.le_refl _) _).trans (hb.mono (by simp))).setCell (p := ⟨w.heap.size, 0, none⟩) (Nat.le_refl _) _)
    clear hb hr0
    go_wp2
    refine bodyPost_ret (v := .bool true) (by simp [results, Try.results5, go_sem, cs]) rfl ?_
    exact ⟨rfl, HB.out⟩
  · rw [decide_eq_false h] at HG0
    have HG := Lib.hid HG0
    have h7 : len ≤ 70000 := by omega
    have HR := Lib.hid hr
    have HL := Lib.hid hl
    have HN := Lib.hid hnil
    have HRI := Lib.hid (fun w' (hq : Rw w' a l) => ritems_any a len cap l w' hq hl h7)
    obtain ⟨b1, b2⟩ := bounds_i64 w1
    have ha1 := am_lo most 60
    have ha2 := am_hi most 60 (by omega)
    obtain ⟨M, hM⟩ : ∃ M : Nat, am most 60 = (M : Int) := ⟨(am most 60).toNat, by omega⟩
    have HAm := Lib.hid (fun w => among_any most 60 w b1 b2 (by omega))
    rw [hM] at HAm ha2
    have hM60 : M < 60 := by omega
    clear h hn hr HG0 hnil hl hz w1 b1 b2 ha1 ha2 hM
    refine (callsIn_wide (n := 5)).1 ?_
    refine callsIn_of_wp_marks Try.func5 rfl trivial ?_ rfl
    simp only [Try.ntmps5, List.size_toArray, List.length_cons, List.length_nil, Nat.reduceAdd, Nat.reduceSub, Array.replicate_succ, Array.replicate_zero, List.push_toArray, List.append_toArray, List.nil_append, List.cons_append]
    refine wpIn_wide.2 ?_
    obtain ⟨S, hS⟩ : ∃ S, w.heap.size = S := ⟨_, rfl⟩
    obtain ⟨W1, hW1⟩ : ∃ W1, w.alloc (.cells #[.bool false] 4) = W1 := ⟨_, rfl⟩
    have hz1 : W1.heap.size = S + 1 := by rw [← hW1, ← hS]; simp
    have hB1 : Below S w W1 := by rw [← hW1, ← hS]; exact (Below.refl _ w).alloc (Nat.le_refl _) _
    have r1 : Blk W1 S 4 #[.bool false] := by rw [← hW1, ← hS]; exact Blk.new _ _ _
    have HB1 := Lib.hid hB1
    have R1 := Lib.hid r1
    have HW := Lib.hid hW1
    clear hB1 r1 hW1
    go_wp2_with fail
    rw [HW.out]
    refine (HG.out _).mono ?_
    rintro e w2 ⟨rfl, rfl⟩
    go_wp2_with fail
    refine (HRI.out W1 (HR.out.below (by rw [hS]; exact HB1.out))).mono ?_
    rintro e W2 ⟨⟨K, I, ci, rfl, ho, hk1, hk2, hk3⟩, hb2⟩
    have HK := Lib.hid (And.intro hk2 (And.intro hk1 hk3))
    have hK7 : K ≤ 70000 := by have := kn_le l; have := HL.out; omega
    have HO := Lib.hid ho
    have HB2 : Hid (Below S w W2) := Lib.hid (HB1.out.trans (hb2.mono (by omega)))
    have R2 := Lib.hid (R1.out.below hb2 (by omega))
    have hz2 : S + 1 ≤ W2.heap.size := by have := hb2.size; omega
    clear ho hk1 hk2 hk3 hb2
    go_wp2_with fail
    refine (HAm.out _).mono ?_
    rintro e w3 ⟨rfl, rfl⟩
    obtain ⟨T, hT⟩ : ∃ T, W2.heap.size = T := ⟨_, rfl⟩
    obtain ⟨W3, hW3⟩ : ∃ W3, ((W2.alloc (.cells #[.slice I K ci] 31)).alloc (.cells #[.int .i64 (M : Int)] 3)).alloc (.cells #[.int .i64 0] 3) = W3 := ⟨_, rfl⟩
    have hz3 : W3.heap.size = T + 3 := by rw [← hW3, ← hT]; simp
    have hB3 : Below W2.heap.size W2 W3 := by rw [← hW3]; exact (((Below.refl _ W2).alloc (Nat.le_refl _) _).alloc (by simp) _).alloc (by simp; omega) _
    have x0 : Blk W3 T 31 #[.slice I K ci] := by rw [← hW3, ← hT]; exact ((Blk.new _ _ _).alloc _).alloc _
    have x1 : Blk W3 (T + 1) 3 #[.int .i64 (M : Int)] := by
      have := (Blk.new (W2.alloc (.cells #[.slice I K ci] 31)) 3 #[.int .i64 (M : Int)]).alloc (.cells #[.int .i64 0] 3)
      rw [World.size_alloc, hT, hW3] at this; exact this
    have x2 : Blk W3 (T + 2) 3 #[.int .i64 0] := by
      have := Blk.new ((W2.alloc (.cells #[.slice I K ci] 31)).alloc (.cells #[.int .i64 (M : Int)] 3)) 3 #[.int .i64 0]
      rw [World.size_alloc, World.size_alloc, hT, hW3] at this; exact this
    have HO3 : Hid (W3.ownsRow W1.heap.size 38 3 (.slice I K ci) K (its l K)) := Lib.hid (by rw [← hW3]; exact ((HO.out.alloc _).alloc _).alloc _)
    have HB3 : Hid (Below S w W3) := Lib.hid (HB2.out.trans (hB3.mono (by omega)))
    have R3 := Lib.hid (R2.out.below hB3 (by omega))
    have X0 := Lib.hid x0
    have X1 := Lib.hid x1
    have X2 := Lib.hid x2
    have HW3 := Lib.hid hW3
    have HItems := Lib.hid (items_any a len cap l W3 (HR.out.below (by rw [hS]; exact HB3.out)) HL.out (by omega) HN.out (by omega))
    clear x0 x1 x2 hB3 hW3
    go_wp2_with fail
    rw [HW3.out]
    refine HItems.out.mono ?_
    rintro e W4 ⟨⟨Bn, b, A, cc, rfl, hh⟩, hb4⟩
    obtain ⟨k1, k2, k3, k4, k5, k6, k7⟩ := hh.out
    have HI1 := Lib.hid (items1_in 4 (by omega) Bn b 0 len cc A l K HL.out k2 k3 k5 W4 k1 k4 k6 HK.out.1 (by rcases HK.out.2.2 with h | h; exact .inl h; exact .inr h))
    have HB4 : Hid (Below S w W4) := Lib.hid (HB3.out.trans (hb4.mono (by omega)))
    have R4 := Lib.hid (R3.out.below hb4 (by omega))
    have Y0 := Lib.hid (X0.out.below hb4 (by omega))
    have Y1 := Lib.hid (X1.out.below hb4 (by omega))
    have Y2 := Lib.hid (X2.out.below hb4 (by omega))
    have HO4 := Lib.hid (own_below3 HO3.out hb4)
    have hz4 : T + 3 ≤ W4.heap.size := by have := hb4.size; omega
    have hIlt : ∀ r, (Value.slice I K ci).ownBlock = some r → r < T := fun r e => by have := (HO.out.lt r e).2; omega
    have HIlt := Lib.hid hIlt
    clear k1 k2 k3 k4 k5 hh hIlt
    have hnf : ∀ w, (binOp .eql 35 (.func (.func 27) #[] #[.pointer (some ⟨Bn, 0, none⟩)]) .nilFunc).run Try.prog w = .ok (.bool false) w := fun w => by kernel_rfl
    go_wp2_with fail
    refine (wpIn_wide (n := 5)).1 ?_
    refine rangeFunc_at rfl (by omega) (gf := 27) (lb := #[.pointer (some ⟨Bn, 0, none⟩)]) rfl trivial (enters_of Try.func27 (by kernel_rfl) rfl)
      HI1.out rfl (fun A r e => .inr (by rcases e with h | h; omega; exact h.1)) Kw.trans (fun X o' hy => ⟨keepsFrom_putLow (by omega) _ _, World.putObj_heap_other (by omega), World.putObj_heap_other (by omega), World.putObj_heap_other (by omega)⟩) (Below.refl _ _) (fun _ => rfl)
      (fun k X => ItSt S T W1.heap.size w l I K ci M k X ∧ k ≤ M) (fun cc k X => (cc = .exit 0 ∧ k = M + 1) ∧ ItSt S T W1.heap.size w l I K ci M M X)
      ((ItSt.on hS (by omega) hz4 (Nat.le_refl _) (fun r e => by have := HIlt.out r e; omega)).and (onOwn_pure _ _ _))
      (fun cc => (onOwn_pure _ _ _).and (ItSt.on (f := fun _ => M) hS (by omega) hz4 (Nat.le_refl _) (fun r e => by have := HIlt.out r e; omega)))
      ⟨⟨R4.out, Y0.out, Y1.out, Y2.out, HO4.out, HB4.out⟩, Nat.zero_le _⟩
      (fun k a' X => a' = { tmps := #[.slice a len cap, .int .i64 most, undef, undef, .pointer (some ⟨S, 0, none⟩), .pointer (some ⟨T, 0, none⟩), .pointer (some ⟨T + 1, 0, none⟩), .pointer (some ⟨T + 1 + 1, 0, none⟩), .func (.func 27) #[] #[.pointer (some ⟨Bn, 0, none⟩)], .int .i64 (Sqm.cnt l (pl l k) : Int), .int .i64 (far l (pl l k) : Int), .slice a len cap, .bool false, undef, .slice a len cap, .slice I K ci, .int .i64 most, .int .i64 (M : Int), .slice a len cap, .func (.func 27) #[] #[.pointer (some ⟨Bn, 0, none⟩)], .func (.func 27) #[] #[.pointer (some ⟨Bn, 0, none⟩)], .bool false, .func (.func 27) #[] #[.pointer (some ⟨Bn, 0, none⟩)], .int .i64 (Sqm.cnt l (pl l k) : Int), .int .i64 (far l (pl l k) : Int), undef, undef, undef, undef, undef, undef, undef, undef, undef, undef, undef, undef, undef, undef, undef, undef, undef, undef, undef, undef, undef, undef, undef, undef, undef, undef, undef, undef, undef, undef, undef, undef, undef, undef, undef, undef, undef, undef, undef], defers := [] })
      (fun k a' _ A C row h hg hr => h) ?assign ?body ?done ?stop
    case assign =>
      rintro y' k X Kc hzX hkN hst hK2
      gi_wp2
      exact hK2 _ _ (KeepsFrom.refl _ _) ⟨KeepsFrom.refl _ _, rfl, rfl, rfl⟩ hst rfl
    case body =>
      rintro y' k a' X hy' hzX hrec hkN ⟨hst, hkM⟩ rfl
      have HS := Lib.hid hst
      have c1 := hst.most.cell 0
      have c2 : X.cell? ⟨T + 1 + 1, 0, none⟩ = some (.int .i64 (k : Int)) := hst.cnt.cell 0
      have f2 : X.frozen? ⟨T + 1 + 1, 0, none⟩ = false := hst.cnt.frozen 0
      have c0 := hst.row.cell 0
      obtain ⟨g, rfl, hKc, d0, d1⟩ := its_cell3 hst.own hkN
      clear hst
      by_cases hkm : k = M
      · have t0 : ((k : Int) == (M : Int)) = true := by simp; omega
        have HkM := Lib.hid hkm
        clear hkm
        gi_wp2_with fail
        exact ⟨KeepsFrom.refl _ _, ⟨rfl, by have := HkM.out; omega⟩, by have := HS.out; rw [HkM.out] at this; exact this⟩
      · have t0 : ((k : Int) == (M : Int)) = false := by simp; omega
        have hk3 : k + 1 ≤ M := by omega
        clear hkm
        gi_wp2_with fail
        have hb2 : b ≠ T + 2 := by omega
        refine ⟨(KeepsOthers.setCell _ _ _).from _, ⟨(KeepsOthers.setCell _ _ _).from _, Below.heap_setCell _ _ _ _ hb2, Below.heap_setCell _ _ _ _ (by show W4.heap.size + 2 ≠ T + 2; omega), Below.heap_setCell _ _ _ _ (by show W4.heap.size + 2 + 1 ≠ T + 2; omega)⟩, ⟨?_, ?_, ?_, ?_, ?_, ?_⟩, hk3⟩
        · exact HS.out.res.far (p := ⟨T + 1 + 1, 0, none⟩) (by show S ≠ T + 1 + 1; omega) _
        · exact HS.out.row.far (p := ⟨T + 1 + 1, 0, none⟩) (by show T ≠ T + 1 + 1; omega) _
        · exact HS.out.most.far (p := ⟨T + 1 + 1, 0, none⟩) (by show T + 1 ≠ T + 1 + 1; omega) _
        · have := HS.out.cnt.put 0 (.int .i64 ((k : Int) + 1))
          simpa using this
        · exact HS.out.own.kept (grownBy_setCell' X (T + 1 + 1) _) (.inr (fun e => by have := HIlt.out _ e; omega))
        · exact HS.out.bel.setCell (p := ⟨T + 1 + 1, 0, none⟩) (by show S ≤ T + 1 + 1; omega) _
    case done =>
      rintro D X hD ⟨hst, hkM⟩ hdef
      have HS := Lib.hid hst
      have c1 := hst.most.cell 0
      have c2 : X.cell? ⟨T + 1 + 1, 0, none⟩ = some (.int .i64 (K : Int)) := hst.cnt.cell 0
      have c0 := hst.row.cell 0
      clear hst
      go_wp2_with fail
      all_goals
        refine (known_any X).mono ?_
        rintro e X2 ⟨rfl, hbk⟩
        have q1 := HS.out.res.below hbk HS.out.res.lt
        have d0 := q1.cell 0
        have d1 := q1.frozen 0
        have hdef2 : X2.heap[D]? = some (.deferred (some [])) := (hbk.block D (Array.getElem?_eq_some_iff.1 hdef).1).trans hdef
        go_wp2_with fail
        have hK3 : (X2.setCell ⟨S, 0, none⟩ (.bool true)).heap[D]? = some (.deferred (some [])) := (Below.heap_setCell _ _ _ _ (by show D ≠ S; omega)).trans hdef2
        have w1 := q1.put 0 (.bool true)
        have cd : ((X2.setCell ⟨S, 0, none⟩ (.bool true)).putObj D (.deferred none)).cell? ⟨S, 0, none⟩ = some (.bool true) := (World.cell?_of_block (a := ⟨S, 0, none⟩) (World.putObj_heap_other (by show S ≠ D; omega))).trans (w1.cell 0)
        have bz : Below S w (X2.setCell ⟨S, 0, none⟩ (.bool true)) := (HS.out.bel.trans (hbk.mono (by have := HS.out.bel.size; omega))).setCell (p := ⟨S, 0, none⟩) (Nat.le_refl _) _
        refine ⟨by simp, .inl ⟨_, _, rfl, run_takeDeferred hK3, ?_⟩⟩
        refine ⟨.bool true, by simp [results, Try.results5, go_sem, cd], rfl, ?_⟩
        rw [hS]
        exact bz.trans (belowK_b (w := w) (Nat.le_of_eq hS.symm) _ D _ _ (by omega) hK3 rfl rfl)
    case stop =>
      rintro D cc k X hD hkN ⟨⟨rfl, -⟩, hst⟩ hdef
      have HS := Lib.hid hst
      have c1 := hst.most.cell 0
      have c2 : X.cell? ⟨T + 1 + 1, 0, none⟩ = some (.int .i64 (M : Int)) := hst.cnt.cell 0
      have c0 := hst.row.cell 0
      clear hst
      refine wpIn_wide.2 ?_
      go_wp2_with fail
      all_goals
        refine (known_any X).mono ?_
        rintro e X2 ⟨rfl, hbk⟩
        have q1 := HS.out.res.below hbk HS.out.res.lt
        have d0 := q1.cell 0
        have d1 := q1.frozen 0
        have hdef2 : X2.heap[D]? = some (.deferred (some [])) := (hbk.block D (Array.getElem?_eq_some_iff.1 hdef).1).trans hdef
        go_wp2_with fail
        have hK3 : (X2.setCell ⟨S, 0, none⟩ (.bool true)).heap[D]? = some (.deferred (some [])) := (Below.heap_setCell _ _ _ _ (by show D ≠ S; omega)).trans hdef2
        have w1 := q1.put 0 (.bool true)
        have cd : ((X2.setCell ⟨S, 0, none⟩ (.bool true)).putObj D (.deferred none)).cell? ⟨S, 0, none⟩ = some (.bool true) := (World.cell?_of_block (a := ⟨S, 0, none⟩) (World.putObj_heap_other (by show S ≠ D; omega))).trans (w1.cell 0)
        have bz : Below S w (X2.setCell ⟨S, 0, none⟩ (.bool true)) := (HS.out.bel.trans (hbk.mono (by have := HS.out.bel.size; omega))).setCell (p := ⟨S, 0, none⟩) (Nat.le_refl _) _
        refine ⟨by simp, .inl ⟨_, _, rfl, run_takeDeferred hK3, ?_⟩⟩
        refine ⟨.bool true, by simp [results, Try.results5, go_sem, cd], rfl, ?_⟩
        rw [hS]
        exact bz.trans (belowK_b (w := w) (Nat.le_of_eq hS.symm) _ D _ _ (by omega) hK3 rfl rfl)
end Go.Proofs.Ytaohkakefdhecaa
