/-
  A manager is opened: the program's call Open. Nothing of one statement alone stands here.
-/
import Derived.Test.YtbfifppdcmimaaaGreatKK
import Derived.Deep.RegionLaw
import Derived.BigQuiet
namespace Gcm
open Go
theorem flat_append (l m : List Bk) : flat (l ++ m) = flat l ++ flat m := by
  induction l with
  | nil => rfl
  | cons b r ih => simp [flat, ih]
/-- what a block of a manager is at first -/
def bkOf (bd f : Nat → Bool) (lv : Nat → Int) (k : Nat) : Bk := if bd k = true then ⟨4, 0, 0, 0⟩ else if f k = true then ⟨0, 0, 0, 0⟩ else if 0 < lv k then ⟨2, lv k, 0, 0⟩ else ⟨3, 0, 0, 0⟩
def rows (bd f : Nat → Bool) (lv : Nat → Int) (n : Nat) : List Bk := (List.range n).map (bkOf bd f lv)
theorem rows_length (bd f : Nat → Bool) (lv : Nat → Int) (n : Nat) : (rows bd f lv n).length = n := by simp [rows]
theorem rows_flat (bd f : Nat → Bool) (lv : Nat → Int) (n : Nat) : flat (rows bd f lv (n + 1)) = flat (rows bd f lv n) ++ flat [bkOf bd f lv n] := by
  rw [← flat_append]
  simp [rows, List.range_succ]
end Gcm
namespace Go.Proofs.YtbfifppdcmimaaaGreat
open Go.RowKit Crcm Gcm Go.ChangeShapes

/-- an append onto a row of the call's own, as one step of a region that draws -/
theorem step_append_own {P : Program} {ops : Array Oper} {o : Oper} {a : Act} {w : World} {K : Act → World → Prop} {Q : Exit → Act → World → Prop} {E : Prop}
    (hg : o.guard = none) (s x : Operand) (t : TypeId) (hop : o.op = Op.call { callee := Callee.builtin Builtin.append, args := #[s, x], argTypes := #[t, t] })
    (base : Nat) (e : TypeId) (i : TypeInfo) (z : Value) (size bytes : Nat) (h1 : P.underlying t = some (.slice e)) (h2 : P.info? e = some i) (h3 : i.zero = some z) (h4 : i.size = size) (h5 : i.bytes = bytes) (h6 : z.cells.size = size) (h7 : 0 < size)
    (v : Value) (n : Nat) (xs : List Value) (hs : a.eval s = v) (hown : w.ownsRow base e size v n xs)
    (ad : Addr) (m c : Nat) (news : List Value) (hx : a.eval x = .slice (some ad) m c) (hn : news.length = m * size) (hc : ∀ j u, news[j]? = some u → w.cell? (ad.add j) = some u) (h1c : ∀ u ∈ news, u.oneCell' = true)
    (b1 : n + m ≤ maxLen) (b2 : (n + m) * bytes ≤ 140737488355328) (hbase : base ≤ w.heap.size)
    (hK : ∀ v' w', w'.ownsRow base e size v' (n + m) (xs ++ news) → w.grownBy w' v.ownBlock → K (a.put o.dst v') w') :
    if Region.wanted o (yielded ops a.tmps) = true then Oper.wp P o a w K Q else E := by
  have hw : Region.wanted o (yielded ops a.tmps) = true := by simp [Region.wanted, hg]
  rw [if_pos hw]
  exact wp_append_own w s x t hop base e i z size bytes h1 h2 h3 h4 h5 h6 h7 v n xs hs hown ad m c news hx hn hc h1c b1 b2 hbase fun v' w' g2 g3 _ => hK v' w' g2 g3

theorem own_of_row {w : World} {base n : Nat} {v : Value} {l : List Bk} (h : w.ownsRow base 144 4 v n (flat l)) (h0 : 0 < n) : ∃ g cap, v = .slice (some ⟨g, 0, none⟩) n cap ∧ base ≤ g ∧ OwnB w g l := by
  obtain ⟨hlen, h1⟩ := h
  rcases h1 with ⟨rfl, h0⟩ | ⟨g, cap, cur, rfl, hg, hheap, hn, _, hsz, ht⟩
  · omega
  · refine ⟨g, cap, rfl, hg, cur, hheap, fun j hj => ?_⟩
    obtain ⟨f0, f1, f2, f3⟩ := flat_at l j hj
    have hl := flat_length l
    have e : ∀ i, i < l.length * 4 → cur[i]? = (flat l)[i]? := fun i hi => by rw [← ht, List.getElem?_take, if_pos (by omega), Array.getElem?_toList]
    exact ⟨(e _ (by omega)).trans f0, (e _ (by omega)).trans f1, (e _ (by omega)).trans f2, (e _ (by omega)).trans f3⟩
theorem Blk.drew {w : World} {g : Nat} {t : TypeId} {cs : Array Value} (h : Blk w g t cs) : Blk w.drew g t cs := h
theorem wk_bw (f : Nat → Int) (l : List Bk) (h : ∀ x ∈ l, Bw x) (n : Nat) (hn : n ≤ l.length) (hf : ∀ k, k < n → I64 (f k)) : ∀ x ∈ wk f l n, Bw x := by
  induction n with
  | zero => exact h
  | succ n ih =>
    intro x hx
    rw [wk] at hx
    rcases List.mem_or_eq_of_mem_set hx with g | g
    · exact ih (by omega) (fun k hk => hf k (by omega)) x g
    · have hy := ih (by omega) (fun k hk => hf k (by omega)) _ (getB_mem (wk f l n) n (by rw [wk_length]; omega))
      subst g
      exact ⟨hy.1, hy.2.1, hf n (by omega), hy.2.2.2⟩
theorem rows_bw (bd f : Nat → Bool) (lv : Nat → Int) (n : Nat) (h : ∀ k, k < n → 0 ≤ lv k ∧ lv k ≤ 32) : ∀ x ∈ rows bd f lv n, Bw x := by
  intro x hx
  unfold rows at hx
  obtain ⟨k, hk, rfl⟩ := List.mem_map.1 hx
  have := h k (List.mem_range.1 hk)
  unfold bkOf Bw I64
  split
  · simp
  · split
    · simp
    · split
      · refine ⟨by simp, ?_, by simp, by simp⟩
        constructor <;> (dsimp only; omega)
      · simp
theorem new_at (W : World) (y : Bk) (n : Nat) (h : W.heap.size = n) (t : TypeId) : ∀ j u, (flat [y])[j]? = some u → (W.alloc (.cells #[.int .i64 y.st, .int .i64 y.lv, .int .i64 y.wr, .int .i64 y.nx] t)).cell? ((⟨n, 0, none⟩ : Addr).add j) = some u := by
  subst h
  intro j u hu
  rw [Addr.add_lit]
  have hB := Blk.new W t #[.int .i64 y.st, .int .i64 y.lv, .int .i64 y.wr, .int .i64 y.nx]
  refine flat_cells _ _ [y] 0 (fun i hi => ?_) j u hu
  obtain rfl : i = 0 := by simp at hi; omega
  exact ⟨hB.cell 0, hB.cell 1, hB.cell 2, hB.cell 3⟩
theorem own_form4 {w : World} {base k : Nat} {v : Value} {xs : List Value} {e : TypeId} (h : w.ownsRow base e 4 v k xs) : ∃ a c, v = .slice a k c := by
  rcases h.2 with ⟨rfl, rfl⟩ | ⟨g, cap, cur, rfl, _⟩
  · exact ⟨none, 0, rfl⟩
  · exact ⟨_, cap, rfl⟩

set_option maxRecDepth 100000 in
set_option maxHeartbeats 4000000 in
theorem bopen_yes {w : World} {X : Nat → Prop} {o : Own} {c : Ch} (hc : ChAt w X o c) (hup : c.up = true) (f : Nat → Bool) (lv : Nat → Int) (fb fo c1 lb lo c2 : Nat) (h : FrLv w c.nb c.np f lv fb fo lb lo) (hwr : ∀ k, k < c.nb → I64 (c.wear k)) (r b : Int) (hr : 0 ≤ r) (hb : 0 ≤ b) :
    Calls Tryz.prog 59 #[o.p, .slice (some ⟨fb, fo, none⟩) c.nb c1, .slice (some ⟨lb, lo, none⟩) c.nb c2, .int .i64 r, .int .i64 b] w fun e w' => ∃ M m, e = .returned (.tuple #[.pointer (some ⟨M, 0, none⟩), .int .i64 0]) ∧ MgAt w' M m ∧ (m.cp = o.p ∧ m.l = rows c.bad f lv c.nb ∧ m.r = r ∧ m.b = b) ∧ m.ap = decide (4 < wrap64 (greatest (wk c.wear (rows c.bad f lv c.nb) c.nb) - least (wk c.wear (rows c.bad f lv c.nb) c.nb))) ∧ w.heap.size ≤ M ∧ w.heap.size ≤ m.g ∧ Below w.heap.size w w' := by
  have hnb := hc.good.2.1
  have hn0 := hc.good.1
  have hnp := hc.good.2.2.2.1
  obtain ⟨i0, hi, hz0, hz1, hz2⟩ := infoG_parts
  have HU := Lib.hid (up_any hc)
  rw [hup] at HU
  have HGe := Lib.hid (geo_any hc)
  have HO := Lib.hid (fun W (hb : Below w.heap.size w W) => openable_yes c.nb c.np c.sz hnb f lv fb fo c1 lb lo c2 W (h.below hb))
  have HBd := Lib.hid (fun W (hb : Below w.heap.size w W) k (hk : k < c.nb) => bad_any (hc.below hb) k hk)
  have HWn := Lib.hid (fun W (hb : Below w.heap.size w W) M m (hm : MgAt W M m) hp hn => worn_any (M := M) (m := m) hm (hc.below hb) hp hn)
  have HF := Lib.hid h
  have tr : decide (r < 0) = false := decide_eq_false (by omega)
  have tb : decide (b < 0) = false := decide_eq_false (by omega)
  have HC := Lib.hid hc
  clear h hup hc hr hb
  unfold Own.p at *
  go_enter Tryz.func59, Tryz.ntmps59
  go_wp2_with fail
  refine HU.out.mono ?_
  rintro e w' ⟨rfl, rfl⟩
  go_wp2_with fail
  refine HGe.out.mono ?_
  rintro e w1 ⟨rfl, hb1⟩
  have B1 := Lib.hid hb1
  clear hb1
  go_wp2_with fail
  refine (HO.out _ B1.out).mono ?_
  rintro e w2 ⟨rfl, hb2⟩
  have B2 := Lib.hid (B1.out.trans (hb2.mono B1.out.size))
  clear hb2 B1 HU HGe HO
  go_wp2_with fail
  have hM0 : w2.heap.size = w2.heap.size := rfl
  go_loopw [45] (fun i wr => ∃ k : Nat, k ≤ c.nb ∧ i = .int .i64 k ∧ ∃ a0 c0, Hid (Blk wr w2.heap.size 133 #[.pointer (some ⟨o.bc, 0, none⟩), .slice a0 k c0, .int .i64 r, .int .i64 b, .bool false]) ∧ Hid (wr.ownsRow (w2.heap.size + 1) 144 4 (.slice a0 k c0) k (flat (rows c.bad f lv k))) ∧ Hid (Below w2.heap.size w2 wr)) (fun i _ => c.nb - (intOf i).toNat)
  case atStart => exact ⟨0, by omega, rfl, none, 0, Lib.hid (Blk.new _ _ _), Lib.hid (World.ownsRow_nil _ _ _ _), Lib.hid ((Below.refl _ _).alloc (Nat.le_refl _) _)⟩
  case round =>
    obtain ⟨k, hk, rfl, a0, c0, HK, HR, HB⟩ := hrel
    by_cases hlt : k < c.nb
    · have BW := Lib.hid (B2.out.trans (HB.out.mono B2.out.size))
      have HBk := Lib.hid (HBd.out (wr.alloc (.cells #[.int .i64 3, .int .i64 0, .int .i64 0, .int .i64 0] 144)) (BW.out.alloc BW.out.size _) k hlt)
      have d0 := cell_alloc ((BW.out.cell (p := ⟨fb, fo + k, none⟩) (block_lt_of_cell (HF.out.fr k hlt))).trans (HF.out.fr k hlt)) (.cells #[.int .i64 3, .int .i64 0, .int .i64 0, .int .i64 0] 144)
      have d1 := cell_alloc ((BW.out.cell (p := ⟨lb, lo + k, none⟩) (block_lt_of_cell (HF.out.li k hlt))).trans (HF.out.li k hlt)) (.cells #[.int .i64 3, .int .i64 0, .int .i64 0, .int .i64 0] 144)
      have c1 := HK.out.cell 1
      have q1 := HK.out.frozen 1
      have hM := HK.out.lt
      have hMn : w2.heap.size ≠ wr.heap.size := by omega
      simp at c1
      by_cases e1 : c.bad k = true
      · have HY : Hid (bkOf c.bad f lv k = ⟨4, 0, 0, 0⟩) := Lib.hid (by unfold bkOf; rw [if_pos e1])
        rw [e1] at HBk
        clear e1
        go_wp2_with fail
        refine HBk.out.mono ?_
        rintro e w' ⟨rfl, rfl⟩
        go_wp2_with fail
        have HY' : Hid (flat (rows c.bad f lv (k + 1)) = flat (rows c.bad f lv k) ++ flat [⟨4, 0, 0, 0⟩]) := Lib.hid (by rw [rows_flat, HY.out])
        have HRa := Lib.hid (HR.out.alloc (.cells #[.int .i64 4, .int .i64 0, .int .i64 0, .int .i64 0] 144))
        have HKa := Lib.hid (HK.out.alloc (.cells #[.int .i64 4, .int .i64 0, .int .i64 0, .int .i64 0] 144))
        have HBa := Lib.hid (HB.out.alloc HB.out.size (.cells #[.int .i64 4, .int .i64 0, .int .i64 0, .int .i64 0] 144))
        have hsz : (wr.alloc (.cells #[.int .i64 4, .int .i64 0, .int .i64 0, .int .i64 0] 144)).heap.size = wr.heap.size + 1 := by simp
        go_region_law (refine step_append_own rfl (.tmp 75) (.tmp 77) 119 rfl (w2.heap.size + 1) 144 i0 _ 4 32 Tryz.underlying119 hi hz0 hz1 hz2 rfl (by decide) (.slice a0 k c0) k (flat (rows c.bad f lv k)) (by simp [Act.eval]) (HRa.out.alloc _).drew ⟨wr.heap.size + 1, 0, none⟩ 1 1 (flat [⟨4, 0, 0, 0⟩]) (by simp [Act.eval]) rfl (new_at _ _ _ hsz _) (flat_one _) (by unfold maxLen; omega) (by omega) (by simp; omega) ?_; intro v' w' hown hgrow; obtain ⟨a', c', rfl⟩ := own_form4 hown; have hb' := (Below.refl (w2.heap.size + 1) _).grown hgrow (by simp; omega) (fun g hg => (HRa.out.lt g hg).1); have hk' := (HKa.out.alloc _).drew.below hb' (by omega); have c1' := hk'.cell 1; have q1' := hk'.frozen 1; simp at c1')
        all_goals
          have K2 := Lib.hid (hk'.put 1 (.slice a' (k + 1) c'))
          have R2 := Lib.hid (ownsRow_setCell_below hown (a := ⟨w2.heap.size, 1, none⟩) (by simp) (.slice a' (k + 1) c'))
          have B3 := Lib.hid (((HBa.out.alloc HBa.out.size _).drew.trans (hb'.mono (Nat.le_succ _))).setCell (p := ⟨w2.heap.size, 1, none⟩) (Nat.le_refl _) (.slice a' (k + 1) c'))
          clear hk' hown hb' hgrow
          go_wp2
          go_roundw
          case rel => exact ⟨k + 1, by omega, by go_num, a', c', by simpa using K2, by rw [HY'.out]; exact R2, B3⟩
          case measure => simp [intOf]; omega
      · rw [Bool.not_eq_true] at e1
        rw [e1] at HBk
        by_cases e2 : f k = true
        · have HY : Hid (bkOf c.bad f lv k = ⟨0, 0, 0, 0⟩) := Lib.hid (by unfold bkOf; rw [e1, if_neg (by simp), if_pos e2])
          rw [e2] at d0
          clear e1 e2
          go_wp2_with fail
          refine HBk.out.mono ?_
          rintro e w' ⟨rfl, rfl⟩
          go_wp2_with fail
          have HY' : Hid (flat (rows c.bad f lv (k + 1)) = flat (rows c.bad f lv k) ++ flat [⟨0, 0, 0, 0⟩]) := Lib.hid (by rw [rows_flat, HY.out])
          have HRa := Lib.hid (HR.out.alloc (.cells #[.int .i64 0, .int .i64 0, .int .i64 0, .int .i64 0] 144))
          have HKa := Lib.hid (HK.out.alloc (.cells #[.int .i64 0, .int .i64 0, .int .i64 0, .int .i64 0] 144))
          have HBa := Lib.hid (HB.out.alloc HB.out.size (.cells #[.int .i64 0, .int .i64 0, .int .i64 0, .int .i64 0] 144))
          have hsz : (wr.alloc (.cells #[.int .i64 0, .int .i64 0, .int .i64 0, .int .i64 0] 144)).heap.size = wr.heap.size + 1 := by simp
          go_region_law (refine step_append_own rfl (.tmp 75) (.tmp 77) 119 rfl (w2.heap.size + 1) 144 i0 _ 4 32 Tryz.underlying119 hi hz0 hz1 hz2 rfl (by decide) (.slice a0 k c0) k (flat (rows c.bad f lv k)) (by simp [Act.eval]) (HRa.out.alloc _).drew ⟨wr.heap.size + 1, 0, none⟩ 1 1 (flat [⟨0, 0, 0, 0⟩]) (by simp [Act.eval]) rfl (new_at _ _ _ hsz _) (flat_one _) (by unfold maxLen; omega) (by omega) (by simp; omega) ?_; intro v' w' hown hgrow; obtain ⟨a', c', rfl⟩ := own_form4 hown; have hb' := (Below.refl (w2.heap.size + 1) _).grown hgrow (by simp; omega) (fun g hg => (HRa.out.lt g hg).1); have hk' := (HKa.out.alloc _).drew.below hb' (by omega); have c1' := hk'.cell 1; have q1' := hk'.frozen 1; simp at c1')
          all_goals
            have K2 := Lib.hid (hk'.put 1 (.slice a' (k + 1) c'))
            have R2 := Lib.hid (ownsRow_setCell_below hown (a := ⟨w2.heap.size, 1, none⟩) (by simp) (.slice a' (k + 1) c'))
            have B3 := Lib.hid (((HBa.out.alloc HBa.out.size _).drew.trans (hb'.mono (Nat.le_succ _))).setCell (p := ⟨w2.heap.size, 1, none⟩) (Nat.le_refl _) (.slice a' (k + 1) c'))
            clear hk' hown hb' hgrow
            go_wp2
            go_roundw
            case rel => exact ⟨k + 1, by omega, by go_num, a', c', by simpa using K2, by rw [HY'.out]; exact R2, B3⟩
            case measure => simp [intOf]; omega
        · rw [Bool.not_eq_true] at e2
          rw [e2] at d0
          by_cases e3 : 0 < lv k
          · have HY : Hid (bkOf c.bad f lv k = ⟨2, lv k, 0, 0⟩) := Lib.hid (by unfold bkOf; rw [e1, e2, if_neg (by simp), if_neg (by simp), if_pos e3])
            generalize lv k = x at d1 e3 HY
            clear e1 e2
            go_wp2_with fail
            refine HBk.out.mono ?_
            rintro e w' ⟨rfl, rfl⟩
            go_wp2_with fail
            have HY' : Hid (flat (rows c.bad f lv (k + 1)) = flat (rows c.bad f lv k) ++ flat [⟨2, x, 0, 0⟩]) := Lib.hid (by rw [rows_flat, HY.out])
            have HRa := Lib.hid (HR.out.alloc (.cells #[.int .i64 2, .int .i64 x, .int .i64 0, .int .i64 0] 144))
            have HKa := Lib.hid (HK.out.alloc (.cells #[.int .i64 2, .int .i64 x, .int .i64 0, .int .i64 0] 144))
            have HBa := Lib.hid (HB.out.alloc HB.out.size (.cells #[.int .i64 2, .int .i64 x, .int .i64 0, .int .i64 0] 144))
            have hsz : (wr.alloc (.cells #[.int .i64 2, .int .i64 x, .int .i64 0, .int .i64 0] 144)).heap.size = wr.heap.size + 1 := by simp
            go_region_law (refine step_append_own rfl (.tmp 75) (.tmp 77) 119 rfl (w2.heap.size + 1) 144 i0 _ 4 32 Tryz.underlying119 hi hz0 hz1 hz2 rfl (by decide) (.slice a0 k c0) k (flat (rows c.bad f lv k)) (by simp [Act.eval]) (HRa.out.alloc _).drew ⟨wr.heap.size + 1, 0, none⟩ 1 1 (flat [⟨2, x, 0, 0⟩]) (by simp [Act.eval]) rfl (new_at _ _ _ hsz _) (flat_one _) (by unfold maxLen; omega) (by omega) (by simp; omega) ?_; intro v' w' hown hgrow; obtain ⟨a', c', rfl⟩ := own_form4 hown; have hb' := (Below.refl (w2.heap.size + 1) _).grown hgrow (by simp; omega) (fun g hg => (HRa.out.lt g hg).1); have hk' := (HKa.out.alloc _).drew.below hb' (by omega); have c1' := hk'.cell 1; have q1' := hk'.frozen 1; simp at c1')
            all_goals
              have K2 := Lib.hid (hk'.put 1 (.slice a' (k + 1) c'))
              have R2 := Lib.hid (ownsRow_setCell_below hown (a := ⟨w2.heap.size, 1, none⟩) (by simp) (.slice a' (k + 1) c'))
              have B3 := Lib.hid (((HBa.out.alloc HBa.out.size _).drew.trans (hb'.mono (Nat.le_succ _))).setCell (p := ⟨w2.heap.size, 1, none⟩) (Nat.le_refl _) (.slice a' (k + 1) c'))
              clear hk' hown hb' hgrow
              go_wp2
              go_roundw
              case rel => exact ⟨k + 1, by omega, by go_num, a', c', by simpa using K2, by rw [HY'.out]; exact R2, B3⟩
              case measure => simp [intOf]; omega
          · have HY : Hid (bkOf c.bad f lv k = ⟨3, 0, 0, 0⟩) := Lib.hid (by unfold bkOf; rw [e1, e2, if_neg (by simp), if_neg (by simp), if_neg e3])
            generalize lv k = x at d1 e3
            clear e1 e2
            go_wp2_with fail
            refine HBk.out.mono ?_
            rintro e w' ⟨rfl, rfl⟩
            go_wp2_with fail
            have HY' : Hid (flat (rows c.bad f lv (k + 1)) = flat (rows c.bad f lv k) ++ flat [⟨3, 0, 0, 0⟩]) := Lib.hid (by rw [rows_flat, HY.out])
            have HRa := Lib.hid (HR.out.alloc (.cells #[.int .i64 3, .int .i64 0, .int .i64 0, .int .i64 0] 144))
            have HKa := Lib.hid (HK.out.alloc (.cells #[.int .i64 3, .int .i64 0, .int .i64 0, .int .i64 0] 144))
            have HBa := Lib.hid (HB.out.alloc HB.out.size (.cells #[.int .i64 3, .int .i64 0, .int .i64 0, .int .i64 0] 144))
            have hsz : (wr.alloc (.cells #[.int .i64 3, .int .i64 0, .int .i64 0, .int .i64 0] 144)).heap.size = wr.heap.size + 1 := by simp
            go_region_law (refine step_append_own rfl (.tmp 75) (.tmp 77) 119 rfl (w2.heap.size + 1) 144 i0 _ 4 32 Tryz.underlying119 hi hz0 hz1 hz2 rfl (by decide) (.slice a0 k c0) k (flat (rows c.bad f lv k)) (by simp [Act.eval]) (HRa.out.alloc _).drew ⟨wr.heap.size + 1, 0, none⟩ 1 1 (flat [⟨3, 0, 0, 0⟩]) (by simp [Act.eval]) rfl (new_at _ _ _ hsz _) (flat_one _) (by unfold maxLen; omega) (by omega) (by simp; omega) ?_; intro v' w' hown hgrow; obtain ⟨a', c', rfl⟩ := own_form4 hown; have hb' := (Below.refl (w2.heap.size + 1) _).grown hgrow (by simp; omega) (fun g hg => (HRa.out.lt g hg).1); have hk' := (HKa.out.alloc _).drew.below hb' (by omega); have c1' := hk'.cell 1; have q1' := hk'.frozen 1; simp at c1')
            all_goals
              have K2 := Lib.hid (hk'.put 1 (.slice a' (k + 1) c'))
              have R2 := Lib.hid (ownsRow_setCell_below hown (a := ⟨w2.heap.size, 1, none⟩) (by simp) (.slice a' (k + 1) c'))
              have B3 := Lib.hid (((HBa.out.alloc HBa.out.size _).drew.trans (hb'.mono (Nat.le_succ _))).setCell (p := ⟨w2.heap.size, 1, none⟩) (Nat.le_refl _) (.slice a' (k + 1) c'))
              clear hk' hown hb' hgrow
              go_wp2
              go_roundw
              case rel => exact ⟨k + 1, by omega, by go_num, a', c', by simpa using K2, by rw [HY'.out]; exact R2, B3⟩
              case measure => simp [intOf]; omega
    · have : k = c.nb := by omega
      subst this
      obtain ⟨g, cap, hv, hgM, hO⟩ := own_of_row HR.out (by omega)
      injection hv with hv1 hv2 hv3
      subst hv1 hv3
      have hrw := rows_bw c.bad f lv c.nb (fun k hk => ⟨(HF.out.ok k hk).1, by have := (HF.out.ok k hk).2.1; omega⟩)
      have hm0 : MgAt wr w2.heap.size ⟨.pointer (some ⟨o.bc, 0, none⟩), g, c0, rows c.bad f lv c.nb, r, b, false⟩ := ⟨by unfold mgV; dsimp only; rw [rows_length]; exact HK.out, hO, hrw, by dsimp only; rw [rows_length]; omega, by dsimp only; omega⟩
      have BW := Lib.hid (B2.out.trans (HB.out.mono B2.out.size))
      have HW := Lib.hid (HWn.out wr BW.out _ _ hm0 rfl (by dsimp only; rw [rows_length]))
      have hbw := wk_bw c.wear (rows c.bad f lv c.nb) hrw c.nb (by rw [rows_length]; omega) hwr
      have hlw : (wk c.wear (rows c.bad f lv c.nb) c.nb).length = c.nb := by rw [wk_length, rows_length]
      have HM0 := Lib.hid hm0
      have HG := Lib.hid hgM
      clear hm0 hO HR hgM hrw HWn
      dsimp only at HW
      generalize hL : wk c.wear (rows c.bad f lv c.nb) c.nb = L at HW hbw hlw
      have HL := Lib.hid hL
      clear hL
      go_wp2_with fail
      refine HW.out.mono ?_
      rintro e w3 ⟨g2, cp2, rfl, hg2, hO2, hb3⟩
      have HO2 := Lib.hid hO2
      have B3 := Lib.hid (BW.out.trans (hb3.mono BW.out.size))
      have M3 := Lib.hid (HM0.out.below hb3)
      have Gr := Lib.hid (greatest_any L (some ⟨g2, 0, none⟩) cp2 c.nb w3 (hO2.rg hbw (by unfold maxLen; omega)) hlw)
      have Le := Lib.hid (fun W (hb : Below w3.heap.size w3 W) => least_any L (some ⟨g2, 0, none⟩) cp2 c.nb W ((hO2.rg hbw (by unfold maxLen; omega)).below hb) hlw)
      clear hb3 hO2 HW
      go_wp2_with fail
      refine Gr.out.mono ?_
      rintro e w4 ⟨rfl, hb4⟩
      have B4 := Lib.hid (B3.out.trans (hb4.mono B3.out.size))
      have M4 := Lib.hid (M3.out.below hb4)
      have Le4 := Lib.hid (Le.out _ hb4)
      clear hb4 Le
      go_wp2_with fail
      refine Le4.out.mono ?_
      rintro e w5 ⟨rfl, hb5⟩
      have B5 := Lib.hid (B4.out.trans (hb5.mono B4.out.size))
      have M5 := M4.out.below hb5
      have c4 := M5.cells.2.2.2.2
      have q4 := M5.blk.frozen 4
      have M5 := Lib.hid M5
      clear hb5
      go_wp2
      go_ret2
      refine ⟨w2.heap.size, ⟨.pointer (some ⟨o.bc, 0, none⟩), g, c0, rows c.bad f lv c.nb, r, b, decide (4 < wrap64 (greatest L - least L))⟩, rfl, ⟨?_, M5.out.own.far (p := ⟨w2.heap.size, 4, none⟩) (fun e => M5.out.ne e.symm) _, M5.out.wf, M5.out.small, M5.out.ne⟩, ⟨rfl, rfl, rfl, rfl⟩, by rw [HL.out], B2.out.size, Nat.le_trans B2.out.size (Nat.le_of_succ_le HG.out), B5.out.setCell (p := ⟨w2.heap.size, 4, none⟩) B2.out.size _⟩
      have := M5.out.blk.put 4 (.bool (decide (4 < wrap64 (greatest L - least L))))
      simpa [mgV] using this
end Go.Proofs.YtbfifppdcmimaaaGreat

/-
  What a manager tells: how much room there is, what is left, what is to be done next. Nothing of one statement alone stands here.
-/
namespace Gcm
open Go Go.RowKit Go.IntWalk
/-- how many pages can be programmed, of the first blocks -/
def rmk (np : Int) (l : List Bk) : Nat → Int
  | 0 => 0
  | k + 1 => if (l[k]!.st == 0) = true then wrap64 (rmk np l k + np) else if (l[k]!.st == 1) = true then wrap64 (rmk np l k + wrap64 (np - l[k]!.nx)) else rmk np l k
theorem rmk_at {np : Int} {l : List Bk} {k : Nat} {y : Bk} (h : l[k]! = y) : rmk np l (k + 1) = if (y.st == 0) = true then wrap64 (rmk np l k + np) else if (y.st == 1) = true then wrap64 (rmk np l k + wrap64 (np - y.nx)) else rmk np l k := by subst h; rfl
end Gcm
namespace Go.Proofs.YtbfifppdcmimaaaGreat
open Go.RowKit Crcm Gcm Go.ChangeShapes

theorem gfield1 (a b c : Int) (w : World) : Sem.run Tryz.prog (Instr.field 38 (.agg #[.int .i64 a, .int .i64 b, .int .i64 c]) 1) w = .ok (.int .i64 b) w := by
  unfold Instr.field
  go_simp
  rfl
theorem gfield2 (a b c : Int) (w : World) : Sem.run Tryz.prog (Instr.field 38 (.agg #[.int .i64 a, .int .i64 b, .int .i64 c]) 2) w = .ok (.int .i64 c) w := by
  unfold Instr.field
  go_simp
  rfl

set_option maxRecDepth 100000 in
set_option maxHeartbeats 1000000 in
theorem broom_any {w : World} {X : Nat → Prop} {M : Nat} {m : Mg} {o : Own} {c : Ch} (h : MgAt w M m) (hc : ChAt w X o c) (hp : m.cp = o.p) :
    Calls Tryz.prog 133 #[.pointer (some ⟨M, 0, none⟩)] w fun e w' => e = .returned (.int .i64 (rmk c.np m.l m.l.length)) ∧ Below w.heap.size w w' := by
  obtain ⟨c0, c1, -, -, -⟩ := h.cells
  have HH := Lib.hid h
  have hs := h.small
  have hM := h.blk.lt
  have HM := Lib.hid hM
  have HGe := Lib.hid (geo_any hc)
  rw [hp] at c0
  have HN := Lib.hid (show m.l.length = m.l.length from rfl)
  generalize hn : m.l.length = n at c1 hs HN ⊢
  have HL := Lib.hid hn
  have gf := gfield1
  clear h hc hp hM hn HN
  unfold Own.p at c0 HGe
  go_enter Tryz.func133, Tryz.ntmps133
  go_wp2_with fail
  refine HGe.out.mono ?_
  rintro r w1 ⟨rfl, hb1⟩
  have B1 := Lib.hid hb1
  have d1 := (hb1.cell (p := ⟨M, 1, none⟩) HM.out).trans c1
  clear hb1 HGe c0 c1
  go_wp2_with fail
  go_loopw [4, 20] (fun s i wr => ∃ k : Nat, k ≤ n ∧ i = .int .i64 k ∧ s = .int .i64 (rmk c.np m.l k) ∧ Hid (Below w.heap.size w wr)) (fun _ i _ => n - (intOf i).toNat)
  case atStart => exact ⟨0, by omega, rfl, rfl, B1⟩
  case round =>
    obtain ⟨k, hk, rfl, rfl, E⟩ := hrel
    by_cases hlt : k < n
    · have hkl : k < m.l.length := by rw [HL.out]; exact hlt
      obtain ⟨e0, e1, e2, e3⟩ := at_below (HH.out.own.at k hkl) E.out
      obtain ⟨y, hy⟩ : ∃ y, m.l[k]! = y := ⟨_, rfl⟩
      rw [hy] at e0 e1 e2 e3
      have HR := Lib.hid (rmk_at (np := c.np) hy)
      have HB := Lib.hid (E.out.alloc E.out.size (.cells #[.int .i64 y.st, .int .i64 y.lv, .int .i64 y.wr, .int .i64 y.nx] 144))
      clear hy hkl E
      obtain ⟨st, lv, wr', nx⟩ := y
      dsimp only at HR HB e0 e1 e2 e3
      generalize rmk c.np m.l k = s at HR ⊢
      cases hs0 : st == 0 with
      | true =>
        rw [if_pos hs0] at HR
        go_wp2
        go_roundw
        case rel => exact ⟨k + 1, by omega, by go_num, by rw [HR.out], HB⟩
        case measure => simp [intOf]; omega
      | false =>
        rw [if_neg (by rw [hs0]; exact Bool.false_ne_true)] at HR
        cases hs1 : st == 1 with
        | true =>
          rw [if_pos hs1] at HR
          go_wp2
          go_roundw
          case rel => exact ⟨k + 1, by omega, by go_num, by rw [HR.out], HB⟩
          case measure => simp [intOf]; omega
        | false =>
          rw [if_neg (by rw [hs1]; exact Bool.false_ne_true)] at HR
          go_wp2
          go_roundw
          case rel => exact ⟨k + 1, by omega, by go_num, by rw [HR.out], HB⟩
          case measure => simp [intOf]; omega
    · have : k = n := by omega
      subst this
      go_wp2
      go_ret
      exact ⟨rfl, E.out⟩
set_option maxRecDepth 100000 in
set_option maxHeartbeats 1000000 in
theorem bnext_any {w : World} {X : Nat → Prop} {M : Nat} {m : Mg} {o : Own} {c : Ch} (h : MgAt w M m) (hc : ChAt w X o c) (hp : m.cp = o.p) (hn : m.l.length = c.nb) (hap : m.ap = false) (hwr : ∀ k, k < c.nb → I64 (c.wear k)) :
    Calls Tryz.prog 103 #[.pointer (some ⟨M, 0, none⟩)] w fun e w' => e = .returned (av (nxt (wk c.wear m.l c.nb) c.np (decide ((c.np : Int) ≤ rmk c.np m.l m.l.length)))) ∧ Below w.heap.size w w' := by
  obtain ⟨W0, hW0⟩ : ∃ W, w.alloc (.cells #[.int .i64 0, .int .i64 0] 163) = W := ⟨_, rfl⟩
  have B0 : Hid (Blk W0 w.heap.size 163 #[.int .i64 0, .int .i64 0]) := Lib.hid (by rw [← hW0]; exact Blk.new w _ _)
  have BB : Hid (Below w.heap.size w W0) := Lib.hid (by rw [← hW0]; exact (Below.refl _ w).alloc (Nat.le_refl _) _)
  obtain ⟨c0, c1, -, -, c4⟩ := h.cells
  rw [hap] at c4
  rw [hp] at c0
  have hM := h.blk.lt
  have hMn : M ≠ w.heap.size := by omega
  have hbw := wk_bw c.wear m.l h.wf c.nb (by omega) hwr
  have hlw : (wk c.wear m.l c.nb).length = c.nb := by rw [wk_length, hn]
  have HWn := Lib.hid (worn_any (h.below BB.out) (hc.below BB.out) hp hn)
  have HGe := Lib.hid (fun W (hb : Below w.heap.size w W) => geo_any (hc.below hb))
  have HRm := Lib.hid (fun W (hb : Below w.heap.size w W) => broom_any (h.below hb) (hc.below hb) hp)
  have HM := Lib.hid h.blk.lt
  have hnb := hc.good.2.1
  have gf := gfield1
  have HW0 := Lib.hid hW0
  clear h hc hap hwr hp hn hW0
  unfold Own.p at *
  generalize rmk c.np m.l m.l.length = rm at HRm ⊢
  generalize wk c.wear m.l c.nb = L at *
  go_enter Tryz.func103, Tryz.ntmps103
  go_wp2_with fail
  rw [HW0.out]
  refine HWn.out.mono ?_
  rintro e w1 ⟨g, cp, rfl, hg, hO, hb1⟩
  have HO := Lib.hid hO
  have B1 := Lib.hid (BB.out.trans (hb1.mono BB.out.size))
  have D1 := Lib.hid (B0.out.below hb1 B0.out.lt)
  have d0 := (B1.out.cell (p := ⟨M, 0, none⟩) HM.out).trans c0
  have HG := Lib.hid (HGe.out w1 B1.out)
  have HGL := Lib.hid (HO.out.lt)
  clear hO hb1 hg c0 c1 c4 HWn hM hMn
  go_wp2_with fail
  refine HG.out.mono ?_
  rintro e w2 ⟨rfl, hb2⟩
  have B2 := Lib.hid (B1.out.trans (hb2.mono B1.out.size))
  have D2 := Lib.hid (D1.out.below hb2 D1.out.lt)
  have HO2 := Lib.hid (HO.out.below hb2 HGL.out)
  have HR := Lib.hid (HRm.out w2 B2.out)
  clear hb2 HG HGe
  go_wp2_with fail
  refine HR.out.mono ?_
  rintro e w3 ⟨rfl, hb3⟩
  have B3 := Lib.hid (B2.out.trans (hb3.mono B2.out.size))
  have D3 := Lib.hid (D2.out.below hb3 D2.out.lt)
  have HO3 := Lib.hid (HO2.out.below hb3 HO2.out.lt)
  have HNx := Lib.hid (next_any L (some ⟨g, 0, none⟩) cp c.nb c.np (decide ((c.np : Int) ≤ rm)) w3 (HO3.out.rg hbw (by unfold maxLen; omega)) hlw)
  clear hb3 HR HRm
  generalize hz : nxt L c.np (decide ((c.np : Int) ≤ rm)) = z at HNx
  have HZ := Lib.hid hz
  clear hz
  unfold av at HNx
  go_wp2_with fail
  refine HNx.out.mono ?_
  rintro e w4 ⟨rfl, hb4⟩
  have B4 := Lib.hid (B3.out.trans (hb4.mono B3.out.size))
  have D4 := Lib.hid (D3.out.below hb4 D3.out.lt)
  have c0 := D4.out.cell 0
  have c1 := D4.out.cell 1
  have g0 := D4.out.frozen 0
  have g1 := D4.out.frozen 1
  simp at c0 c1
  have Z := ov2_blk (a := z.1) (b := z.2) D4.out
  have HB := Lib.hid (ov2_below (a := z.1) (b := z.2) B4.out (Nat.le_refl _))
  have x0 := Z.cell 0
  have x1 := Z.cell 1
  simp at x0 x1
  unfold ov2 at x0 x1
  clear hb4 Z
  go_wp2
  exact bodyPost_ret (v := av z) (by simp [av, results, Tryz.results103, go_sem, x0, x1]) rfl ⟨by rw [HZ.out], HB.out⟩
end Go.Proofs.YtbfifppdcmimaaaGreat
