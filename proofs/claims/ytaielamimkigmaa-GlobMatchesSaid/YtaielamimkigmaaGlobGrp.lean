/-
  The document's marks: a set as it is written.
-/
import Derived.Test.YtaielamimkigmaaGlobAll
namespace Go.Proofs.Ytaielamimkigmaa
open Go.RowKit Go.ChangeShapes Globm Go.ChangeMaps

/-- what the document says of a set's text -/
def grpV (n : Nat) : Option ((Nat → Bool) × List Nat) → Value
  | none => .tuple #[.agg (mA false (fun _ => false)), .int .i64 (-1)]
  | some (P, r) => .tuple #[.agg (mA false P), .int .i64 ((n - 1 - r.length : Nat) : Int)]
/-- a set that is turned or not -/
def tn (neg : Bool) : Option ((Nat → Bool) × List Nat) → Option ((Nat → Bool) × List Nat)
  | none => none
  | some (P, r) => some (fun y => if neg then !P y else P y, r)
theorem sect_tn (l : List Nat) (neg : Bool) (h : decide (l.head? = some 33) = neg) : sect l = tn neg (mem (l.drop (if neg then 1 else 0)) (fun _ => false) false) := by
  unfold sect
  subst h
  by_cases h : l.head? = some 33
  · rw [if_pos h]
    simp only [h, decide_true, if_true]
    rcases mem (l.drop 1) (fun _ => false) false with _ | ⟨P, r⟩ <;> rfl
  · rw [if_neg h]
    simp only [h, decide_false, Bool.false_eq_true, if_false, List.drop_zero]
    rcases mem l (fun _ => false) false with _ | ⟨P, r⟩ <;> rfl
theorem storz84 {w : World} {g : Nat} {t : TypeId} {b : Bool} {P : Nat → Bool} (h : Blk w g t (mA b P)) : Sem.run Try.prog (storeCells ⟨g, 0, none⟩ Try.zeroCells84.toList) w = .ok () (w.setRow g (mA false (fun _ => false))) := by
  rw [zero84]; exact storc84 h
theorem results_mark {fn : Func} (h : fn.results = #[.cell 2 84, .tmp 3]) (tmps : Array Value) (w : World) (g : Nat) (b : Bool) (P : Nat → Bool) (v : Value)
    (hp : tmps.getD 2 undef = .pointer (some ⟨g, 0, none⟩)) (h3 : tmps.getD 3 undef = v) (hg : Blk w g 84 (mA b P)) :
    (results fn tmps).run Try.prog w = .ok (.tuple #[.agg (mA b P), v]) w := by
  have hp' : tmps[2]?.getD undef = .pointer (some ⟨g, 0, none⟩) := by simpa using hp
  have h3' : tmps[3]?.getD undef = v := by simpa using h3
  simp [results, h, hp', h3', asAddr, load84 hg]
theorem by8_head (s : ByteArray) (h : 0 < s.size) : (by8 s).head? = some s[0].toNat := by
  have := by8_drop h
  rw [List.drop_zero] at this
  rw [this]; rfl

set_option maxRecDepth 100000 in
set_option maxHeartbeats 1000000 in
theorem group_any (s : ByteArray) (w : World) (hs : s.size ≤ 1000) :
    Calls Try.prog 47 #[.string s] w fun e w' => e = .returned (grpV s.size (sect (by8 s))) ∧ Below w.heap.size w w' := by
  obtain ⟨neg, hneg⟩ : ∃ neg, decide ((by8 s).head? = some 33) = neg := ⟨_, rfl⟩
  rw [sect_tn _ neg hneg]
  obtain ⟨f, hf⟩ : ∃ f, (if neg then 1 else 0) = f := ⟨_, rfl⟩
  rw [hf]
  obtain ⟨res, hres⟩ : ∃ res, mem ((by8 s).drop f) (fun _ => false) false = res := ⟨_, rfl⟩
  rw [hres]
  have HRes := Lib.hid hres
  have hsI : (s.size : Int) ≤ 1000 := by omega
  obtain ⟨W, hW⟩ : ∃ W, (w.alloc (.cells Try.zeroCells84 84)).alloc (.cells Try.zeroCells84 84) = W := ⟨_, rfl⟩
  have F0 := store84n w (.cells Try.zeroCells84 84)
  have B0 : Hid (Blk W (w.heap.size + 1) 84 (mA false (fun _ => false))) := Lib.hid (by
    have h := Blk.new (w.alloc (.cells Try.zeroCells84 84)) 84 Try.zeroCells84
    rw [show (w.alloc (.cells Try.zeroCells84 84)).heap.size = w.heap.size + 1 by simp, hW, zero84] at h
    exact h)
  have R0 : Hid (Blk W w.heap.size 84 (mA false (fun _ => false))) := Lib.hid (by
    rw [← zero84, ← hW]; exact (Blk.new w 84 Try.zeroCells84).alloc _)
  have L0 : Hid (Below w.heap.size w W) := Lib.hid (by rw [← hW]; exact ((Below.refl _ _).alloc (Nat.le_refl _) _).alloc (by simp) _)
  subst hW
  clear hres
  have hcase : (s.size = 0 ∧ neg = false ∧ f = 0) ∨ (∃ h : 0 < s.size, ((s[0].toNat : Int) == 33) = neg ∧ ((neg = true ∧ f = 1) ∨ (neg = false ∧ f = 0))) := by
    rcases Nat.eq_zero_or_pos s.size with h0 | h0
    · left
      rw [by8_nil h0] at hneg
      obtain rfl : neg = false := by rw [← hneg]; rfl
      exact ⟨h0, rfl, by rw [← hf]; rfl⟩
    · right
      rw [by8_head s h0] at hneg
      refine ⟨h0, ?_, ?_⟩
      · rw [← hneg, Bool.eq_iff_iff]; simp; omega
      · cases neg
        · right; exact ⟨rfl, by rw [← hf]; rfl⟩
        · left; exact ⟨rfl, by rw [← hf]; rfl⟩
  have hfs : f ≤ s.size := by rcases hcase with h | ⟨h, _, h2 | h2⟩ <;> omega
  clear hneg hf hs
  rcases hcase with ⟨h0, rfl, rfl⟩ | ⟨h0, h1, ⟨rfl, rfl⟩ | ⟨rfl, rfl⟩⟩

  · have i0 : ¬ (0 : Int) < (s.size : Int) := by omega
    go_enter Try.func47, Try.ntmps47
    go_wp2_with fail
    go_loopw [5] (fun i wr => ∃ (k : Nat) (P : Nat → Bool), i = .int .i64 k ∧ 0 ≤ k ∧ k ≤ s.size ∧ Hid (mem ((by8 s).drop k) P (decide (k ≠ 0)) = res) ∧ Hid (Blk wr (w.heap.size + 1) 84 (mA false P)) ∧ Hid (Blk wr w.heap.size 84 (mA false (fun _ => false))) ∧ Hid (Below w.heap.size w wr)) (fun i _ => s.size - (intOf i).toNat)
    case atStart => exact ⟨0, _, rfl, by omega, by omega, HRes, B0, R0, L0⟩
    case round =>
      obtain ⟨k, P, rfl, hfk, hk, hres, B, R, L⟩ := hrel
      clear F0 B0 R0 L0 HRes i0
      by_cases hlt : k < s.size
      · exact absurd hlt (by omega)
      · have hke : k = s.size := by omega
        have hr : none = res := by
          rw [List.drop_eq_nil_of_le (by rw [by8_length]; omega), mem_nil] at hres
          exact hres.out
        subst hr
        have hS := storz84 R.out
        have hR := Lib.hid (bRow R.out (mA false (fun _ => false)))
        have hL2 : Hid (Below w.heap.size w (wr.setRow w.heap.size (mA false (fun _ => false)))) := Lib.hid (below_rowG L.out (Nat.le_refl _) _)
        have ek : ((k : Int) == (s.size : Int)) = true := by simp; omega
        have hltI : ¬ (k : Int) < (s.size : Int) := by omega
        clear R L B
        go_wp2_with fail
        exact bodyPost_ret (v := .tuple #[.agg (mA false (fun _ => false)), .int .i64 (-1)]) (results_mark (by rfl) _ _ _ _ _ _ rfl rfl hR.out) rfl ⟨rfl, hL2.out⟩

  · have i0 : (0 : Int) < (s.size : Int) := by omega
    go_enter Try.func47, Try.ntmps47
    go_wp2_with fail
    go_loopw [5] (fun i wr => ∃ (k : Nat) (P : Nat → Bool), i = .int .i64 k ∧ 1 ≤ k ∧ k ≤ s.size ∧ Hid (mem ((by8 s).drop k) P (decide (k ≠ 1)) = res) ∧ Hid (Blk wr (w.heap.size + 1) 84 (mA false P)) ∧ Hid (Blk wr w.heap.size 84 (mA false (fun _ => false))) ∧ Hid (Below w.heap.size w wr)) (fun i _ => s.size - (intOf i).toNat)
    case atStart => exact ⟨1, _, rfl, by omega, by omega, HRes, B0, R0, L0⟩
    case round =>
      obtain ⟨k, P, rfl, hfk, hk, hres, B, R, L⟩ := hrel
      clear F0 B0 R0 L0 HRes i0 h1
      by_cases hlt : k < s.size
      · have hltI : (k : Int) < (s.size : Int) := by omega
        have ha := by8_drop hlt
        have h256 : s[k].toNat < 256 := UInt8.toNat_lt _
        by_cases h93 : s[k].toNat = 93
        · have e93 : ((s[k].toNat : Int) == 93) = true := by rw [h93]; rfl
          by_cases hkf : k = 1
          ·
            have hr : none = res := by
              rw [ha, h93, show decide (k ≠ 1) = false from decide_eq_false (by omega), mem_none] at hres
              exact hres.out
            subst hr
            have hS := storz84 R.out
            have hR := Lib.hid (bRow R.out (mA false (fun _ => false)))
            have hL2 : Hid (Below w.heap.size w (wr.setRow w.heap.size (mA false (fun _ => false)))) := Lib.hid (below_rowG L.out (Nat.le_refl _) _)
            have ek : ((k : Int) == (s.size : Int)) = false := by simp; omega
            have ef : ((k : Int) == 1) = true := by simp; omega
            clear hkf
            clear R L B
            go_wp2_with fail
            exact bodyPost_ret (v := .tuple #[.agg (mA false (fun _ => false)), .int .i64 (-1)]) (results_mark (by rfl) _ _ _ _ _ _ rfl rfl hR.out) rfl ⟨rfl, hL2.out⟩

          ·
            have ek : ((k : Int) == (s.size : Int)) = false := by simp; omega
            have ef : ((k : Int) == 1) = false := by simp; omega
            have hr : some (P, (by8 s).drop (k + 1)) = res := by
              rw [ha, h93, show decide (k ≠ 1) = true from decide_eq_true (by omega), mem_end] at hres
              exact hres.out
            have HV : Hid (grpV s.size (tn true res) = .tuple #[.agg (mA false (fun x => !P x)), .int .i64 k]) := Lib.hid (by
              rw [← hr]
              show Value.tuple #[.agg (mA false _), .int .i64 ((s.size - 1 - ((by8 s).drop (k + 1)).length : Nat) : Int)] = _
              rw [List.length_drop, by8_length, show s.size - 1 - (s.size - (k + 1)) = k by omega]
              rfl)
            clear hr ha hres h93
            go_wp2_with fail

            go_loopw [11] (fun c wr2 => ∃ d : Nat, c = .int .i64 d ∧ d ≤ 256 ∧ Hid (Blk wr2 (w.heap.size + 1) 84 (mA false (fun x => if x < d then !P x else P x))) ∧ Hid (Blk wr2 w.heap.size 84 (mA false (fun _ => false))) ∧ Hid (Below w.heap.size w wr2)) (fun c _ => 256 - (intOf c).toNat)
            case atStart =>
              refine ⟨0, rfl, by omega, Lib.hid ?_, R, L⟩
              have h := B.out
              rw [mA_ext (Q := fun x => if x < 0 then !P x else P x) (fun i _ => by rw [if_neg (by omega)])] at h
              exact h
            case round =>
              obtain ⟨d, rfl, hd, B3, R3, L3⟩ := hrel
              clear R L B
              by_cases hd2 : d < 256
              · have hdI : (d : Int) < 256 := by omega
                have hc : wr.cell? ⟨w.heap.size + 1, 1 + d, none⟩ = some (.bool (P d)) := by rw [B3.out.cell, Nat.add_comm, mA_get _ _ hd2, if_neg (by omega)]
                have hfz := B3.out.frozen (1 + d)
                have HB4 : Hid (Blk (wr.setCell ⟨w.heap.size + 1, 1 + d, none⟩ (.bool (!P d))) (w.heap.size + 1) 84 (mA false (fun x => if x < d + 1 then !P x else P x))) := Lib.hid (by
                  have h := B3.out.put (1 + d) (.bool (!P d))
                  rw [Nat.add_comm 1 d, mA_set] at h
                  rw [Nat.add_comm 1 d, mA_ext (Q := fun x => if x = d then !P d else if x < d then !P x else P x)]
                  · exact h
                  · intro i _
                    by_cases e : i = d
                    · subst e
                      rw [if_pos rfl, if_pos (by omega)]
                    · rw [if_neg e]
                      by_cases e2 : i < d
                      · rw [if_pos e2, if_pos (by omega)]
                      · rw [if_neg e2, if_neg (by omega)])
                have HR4 : Hid (Blk (wr.setCell ⟨w.heap.size + 1, 1 + d, none⟩ (.bool (!P d))) w.heap.size 84 (mA false (fun _ => false))) := Lib.hid (R3.out.far (by simp) _)
                have HL4 : Hid (Below w.heap.size w (wr.setCell ⟨w.heap.size + 1, 1 + d, none⟩ (.bool (!P d)))) := Lib.hid (L3.out.setCell (by simp) _)
                clear R3 L3 B3
                go_wp2_with fail
                exact ⟨⟨d + 1, by go_num, by omega, HB4, HR4, HL4⟩, by simp only [intOf]; omega⟩
              · have hdI : ¬ (d : Int) < 256 := by omega
                have hB3 : Blk wr (w.heap.size + 1) 84 (mA false (fun x => !P x)) := by
                  have h := B3.out
                  rw [mA_ext (Q := fun x => !P x) (fun i hi => by rw [if_pos (by omega)])] at h
                  exact h
                have hS := storc84 (c := false) (Q := fun x => !P x) R3.out
                have hR := Lib.hid (bRow R3.out (mA false (fun x => !P x)))
                have hL3 : Hid (Below w.heap.size w (wr.setRow w.heap.size (mA false (fun x => !P x)))) := Lib.hid (below_rowG L3.out (Nat.le_refl _) _)
                clear R3 L3
                go_wp2_with fail
                refine wp_load_row 84 _ rfl (w.heap.size + 1) rfl 84 (mA false (fun x => !P x)) (0, 0) _ hB3 Try.underlying84 rfl (by rw [mA_size]; exact size84) ?_
                go_wp2_with fail
                rw [HV.out]
                exact bodyPost_ret (v := .tuple #[.agg (mA false (fun x => !P x)), .int .i64 k]) (results_mark (by rfl) _ _ _ _ _ _ rfl rfl hR.out) rfl ⟨rfl, hL3.out⟩

        · have e93 : ((s[k].toNat : Int) == 93) = false := by simp; omega
          rw [ha] at hres
          by_cases hsp : k + 2 < s.size
          · have hk1 : k + 1 < s.size := by omega
            have h2 : (k : Int) + 2 < (s.size : Int) := by omega
            have h2' : (k : Int) + 1 < (s.size : Int) := by omega
            by_cases h45 : s[k + 1].toNat = 45
            · by_cases hb93 : s[k + 2].toNat = 93
              ·
                have e45 : ((s[k + 1].toNat : Int) == 45) = true := by rw [h45]; rfl
                have e93b : ((s[k + 2].toNat : Int) == 93) = true := by rw [hb93]; rfl
                have hnx : Hid (mem ((by8 s).drop (k + 1)) (fun x => P x || sp s[k].toNat s[k].toNat x) true = res) := Lib.hid (by
                  rw [mem_byte h93 (fun h => h.2.2 (by rw [List.getElem?_drop]; exact (by8_get hsp).trans (by rw [hb93])))] at hres
                  exact hres.out)
                clear ha hres h93
                go_wp2_with fail
                go_region
                go_wp2_with fail
                generalize s[k].toNat = A at *

                go_loopw [10] (fun c wr2 => ∃ d : Nat, c = .int .i64 d ∧ A ≤ d ∧ (d ≤ A + 1 ∨ d = A) ∧ Hid (Blk wr2 (w.heap.size + 1) 84 (mA false (fun x => P x || (decide (A ≤ x) && decide (x < d))))) ∧ Hid (Blk wr2 w.heap.size 84 (mA false (fun _ => false))) ∧ Hid (Below w.heap.size w wr2)) (fun c _ => 256 - (intOf c).toNat)
                case atStart =>
                  refine ⟨A, rfl, Nat.le_refl _, .inr rfl, Lib.hid ?_, R, Lib.hid L.out.drew⟩
                  have h := B.out
                  rw [mA_ext (Q := fun x => P x || (decide (A ≤ x) && decide (x < A))) (fun i _ => by
                    have : (decide (A ≤ i) && decide (i < A)) = false := by simp
                    rw [this, Bool.or_false])] at h
                  exact h
                case round =>
                  obtain ⟨d, rfl, hd1, hd2, B2, R2, L2⟩ := hrel
                  by_cases hdb : d ≤ A
                  · have hdI : (d : Int) ≤ (A : Int) := by omega
                    have hd256 : d < 256 := by omega
                    have hc : wr.cell? ⟨w.heap.size + 1, 1 + d, none⟩ = some (.bool (P d || (decide (A ≤ d) && decide (d < d)))) := by rw [B2.out.cell, Nat.add_comm, mA_get _ _ hd256]
                    have hfz := B2.out.frozen (1 + d)
                    have HB2 : Hid (Blk (wr.setCell ⟨w.heap.size + 1, 1 + d, none⟩ (.bool true)) (w.heap.size + 1) 84 (mA false (fun x => P x || (decide (A ≤ x) && decide (x < d + 1))))) := Lib.hid (by
                      have h := B2.out.put (1 + d) (.bool true)
                      rw [Nat.add_comm 1 d, mA_set] at h
                      rw [Nat.add_comm 1 d, mA_ext (Q := fun x => if x = d then true else P x || (decide (A ≤ x) && decide (x < d)))]
                      · exact h
                      · intro i _
                        by_cases e : i = d
                        · subst e
                          rw [if_pos rfl, decide_eq_true hd1, decide_eq_true (by omega : i < i + 1)]; simp
                        · rw [if_neg e]
                          congr 2
                          rw [decide_eq_decide]; omega)
                    have HR2 : Hid (Blk (wr.setCell ⟨w.heap.size + 1, 1 + d, none⟩ (.bool true)) w.heap.size 84 (mA false (fun _ => false))) := Lib.hid (R2.out.far (by simp) _)
                    have HL2 : Hid (Below w.heap.size w (wr.setCell ⟨w.heap.size + 1, 1 + d, none⟩ (.bool true))) := Lib.hid (L2.out.setCell (by simp) _)
                    clear R L B
                    go_wp2_with fail
                    exact ⟨⟨d + 1, by go_num, by omega, by omega, HB2, HR2, HL2⟩, by simp only [intOf]; omega⟩
                  · have hdI : ¬ (d : Int) ≤ (A : Int) := by omega
                    have HB2 : Hid (Blk wr (w.heap.size + 1) 84 (mA false (fun x => P x || sp A A x))) := Lib.hid (by
                      have h := B2.out
                      rw [mA_ext (Q := fun x => P x || sp A A x) (fun i _ => by
                        congr 1
                        unfold sp
                        rw [Bool.eq_iff_iff]
                        simp only [Bool.and_eq_true, decide_eq_true_eq]
                        omega)] at h
                      exact h)
                    clear R L B B2
                    go_wp2_with fail
                    refine ⟨⟨k + 1, _, by go_num, by omega, by omega, ?_, HB2, R2, L2⟩, by simp only [intOf]; omega⟩
                    rw [show decide (k + 1 ≠ 1) = true from decide_eq_true (by omega)]
                    exact hnx

              ·
                have e45 : ((s[k + 1].toNat : Int) == 45) = true := by rw [h45]; rfl
                have e93b : ((s[k + 2].toNat : Int) == 93) = false := by simp; omega
                have hb256 : s[k + 2].toNat < 256 := UInt8.toNat_lt _
                have hnx : Hid (mem ((by8 s).drop (k + 3)) (fun x => P x || sp s[k].toNat s[k + 2].toNat x) true = res) := Lib.hid (by
                  rw [by8_drop hk1, h45, by8_drop hsp, mem_span h93 hb93] at hres
                  exact hres.out)
                clear ha hres h93 hb93 h45
                go_wp2_with fail
                go_region
                go_wp2_with fail
                generalize s[k].toNat = A at *
                generalize s[k + 2].toNat = Bb at *

                go_loopw [10] (fun c wr2 => ∃ d : Nat, c = .int .i64 d ∧ A ≤ d ∧ (d ≤ Bb + 1 ∨ d = A) ∧ Hid (Blk wr2 (w.heap.size + 1) 84 (mA false (fun x => P x || (decide (A ≤ x) && decide (x < d))))) ∧ Hid (Blk wr2 w.heap.size 84 (mA false (fun _ => false))) ∧ Hid (Below w.heap.size w wr2)) (fun c _ => 256 - (intOf c).toNat)
                case atStart =>
                  refine ⟨A, rfl, Nat.le_refl _, .inr rfl, Lib.hid ?_, R, Lib.hid L.out.drew⟩
                  have h := B.out
                  rw [mA_ext (Q := fun x => P x || (decide (A ≤ x) && decide (x < A))) (fun i _ => by
                    have : (decide (A ≤ i) && decide (i < A)) = false := by simp
                    rw [this, Bool.or_false])] at h
                  exact h
                case round =>
                  obtain ⟨d, rfl, hd1, hd2, B2, R2, L2⟩ := hrel
                  by_cases hdb : d ≤ Bb
                  · have hdI : (d : Int) ≤ (Bb : Int) := by omega
                    have hd256 : d < 256 := by omega
                    have hc : wr.cell? ⟨w.heap.size + 1, 1 + d, none⟩ = some (.bool (P d || (decide (A ≤ d) && decide (d < d)))) := by rw [B2.out.cell, Nat.add_comm, mA_get _ _ hd256]
                    have hfz := B2.out.frozen (1 + d)
                    have HB2 : Hid (Blk (wr.setCell ⟨w.heap.size + 1, 1 + d, none⟩ (.bool true)) (w.heap.size + 1) 84 (mA false (fun x => P x || (decide (A ≤ x) && decide (x < d + 1))))) := Lib.hid (by
                      have h := B2.out.put (1 + d) (.bool true)
                      rw [Nat.add_comm 1 d, mA_set] at h
                      rw [Nat.add_comm 1 d, mA_ext (Q := fun x => if x = d then true else P x || (decide (A ≤ x) && decide (x < d)))]
                      · exact h
                      · intro i _
                        by_cases e : i = d
                        · subst e
                          rw [if_pos rfl, decide_eq_true hd1, decide_eq_true (by omega : i < i + 1)]; simp
                        · rw [if_neg e]
                          congr 2
                          rw [decide_eq_decide]; omega)
                    have HR2 : Hid (Blk (wr.setCell ⟨w.heap.size + 1, 1 + d, none⟩ (.bool true)) w.heap.size 84 (mA false (fun _ => false))) := Lib.hid (R2.out.far (by simp) _)
                    have HL2 : Hid (Below w.heap.size w (wr.setCell ⟨w.heap.size + 1, 1 + d, none⟩ (.bool true))) := Lib.hid (L2.out.setCell (by simp) _)
                    clear R L B
                    go_wp2_with fail
                    exact ⟨⟨d + 1, by go_num, by omega, by omega, HB2, HR2, HL2⟩, by simp only [intOf]; omega⟩
                  · have hdI : ¬ (d : Int) ≤ (Bb : Int) := by omega
                    have HB2 : Hid (Blk wr (w.heap.size + 1) 84 (mA false (fun x => P x || sp A Bb x))) := Lib.hid (by
                      have h := B2.out
                      rw [mA_ext (Q := fun x => P x || sp A Bb x) (fun i _ => by
                        congr 1
                        unfold sp
                        rw [Bool.eq_iff_iff]
                        simp only [Bool.and_eq_true, decide_eq_true_eq]
                        omega)] at h
                      exact h)
                    clear R L B B2
                    go_wp2_with fail
                    refine ⟨⟨k + 3, _, by go_num, by omega, by omega, ?_, HB2, R2, L2⟩, by simp only [intOf]; omega⟩
                    rw [show decide (k + 3 ≠ 1) = true from decide_eq_true (by omega)]
                    exact hnx

            ·
              have e45 : ((s[k + 1].toNat : Int) == 45) = false := by simp; omega
              have hnx : Hid (mem ((by8 s).drop (k + 1)) (fun x => P x || sp s[k].toNat s[k].toNat x) true = res) := Lib.hid (by
                rw [mem_byte h93 (fun h => by have h1 := h.2.1; rw [List.getElem?_drop, Nat.add_zero, by8_get hk1] at h1; exact h45 (Option.some.inj h1))] at hres
                exact hres.out)
              clear ha hres h93
              go_wp2_with fail
              go_region
              go_wp2_with fail
              generalize s[k].toNat = A at *

              go_loopw [10] (fun c wr2 => ∃ d : Nat, c = .int .i64 d ∧ A ≤ d ∧ (d ≤ A + 1 ∨ d = A) ∧ Hid (Blk wr2 (w.heap.size + 1) 84 (mA false (fun x => P x || (decide (A ≤ x) && decide (x < d))))) ∧ Hid (Blk wr2 w.heap.size 84 (mA false (fun _ => false))) ∧ Hid (Below w.heap.size w wr2)) (fun c _ => 256 - (intOf c).toNat)
              case atStart =>
                refine ⟨A, rfl, Nat.le_refl _, .inr rfl, Lib.hid ?_, R, Lib.hid L.out.drew⟩
                have h := B.out
                rw [mA_ext (Q := fun x => P x || (decide (A ≤ x) && decide (x < A))) (fun i _ => by
                  have : (decide (A ≤ i) && decide (i < A)) = false := by simp
                  rw [this, Bool.or_false])] at h
                exact h
              case round =>
                obtain ⟨d, rfl, hd1, hd2, B2, R2, L2⟩ := hrel
                by_cases hdb : d ≤ A
                · have hdI : (d : Int) ≤ (A : Int) := by omega
                  have hd256 : d < 256 := by omega
                  have hc : wr.cell? ⟨w.heap.size + 1, 1 + d, none⟩ = some (.bool (P d || (decide (A ≤ d) && decide (d < d)))) := by rw [B2.out.cell, Nat.add_comm, mA_get _ _ hd256]
                  have hfz := B2.out.frozen (1 + d)
                  have HB2 : Hid (Blk (wr.setCell ⟨w.heap.size + 1, 1 + d, none⟩ (.bool true)) (w.heap.size + 1) 84 (mA false (fun x => P x || (decide (A ≤ x) && decide (x < d + 1))))) := Lib.hid (by
                    have h := B2.out.put (1 + d) (.bool true)
                    rw [Nat.add_comm 1 d, mA_set] at h
                    rw [Nat.add_comm 1 d, mA_ext (Q := fun x => if x = d then true else P x || (decide (A ≤ x) && decide (x < d)))]
                    · exact h
                    · intro i _
                      by_cases e : i = d
                      · subst e
                        rw [if_pos rfl, decide_eq_true hd1, decide_eq_true (by omega : i < i + 1)]; simp
                      · rw [if_neg e]
                        congr 2
                        rw [decide_eq_decide]; omega)
                  have HR2 : Hid (Blk (wr.setCell ⟨w.heap.size + 1, 1 + d, none⟩ (.bool true)) w.heap.size 84 (mA false (fun _ => false))) := Lib.hid (R2.out.far (by simp) _)
                  have HL2 : Hid (Below w.heap.size w (wr.setCell ⟨w.heap.size + 1, 1 + d, none⟩ (.bool true))) := Lib.hid (L2.out.setCell (by simp) _)
                  clear R L B
                  go_wp2_with fail
                  exact ⟨⟨d + 1, by go_num, by omega, by omega, HB2, HR2, HL2⟩, by simp only [intOf]; omega⟩
                · have hdI : ¬ (d : Int) ≤ (A : Int) := by omega
                  have HB2 : Hid (Blk wr (w.heap.size + 1) 84 (mA false (fun x => P x || sp A A x))) := Lib.hid (by
                    have h := B2.out
                    rw [mA_ext (Q := fun x => P x || sp A A x) (fun i _ => by
                      congr 1
                      unfold sp
                      rw [Bool.eq_iff_iff]
                      simp only [Bool.and_eq_true, decide_eq_true_eq]
                      omega)] at h
                    exact h)
                  clear R L B B2
                  go_wp2_with fail
                  refine ⟨⟨k + 1, _, by go_num, by omega, by omega, ?_, HB2, R2, L2⟩, by simp only [intOf]; omega⟩
                  rw [show decide (k + 1 ≠ 1) = true from decide_eq_true (by omega)]
                  exact hnx

          ·
            have h2 : ¬ (k : Int) + 2 < (s.size : Int) := by omega
            have hnx : Hid (mem ((by8 s).drop (k + 1)) (fun x => P x || sp s[k].toNat s[k].toNat x) true = res) := Lib.hid (by
              rw [mem_byte h93 (fun h => by have := h.1; simp [by8_length] at this; omega)] at hres
              exact hres.out)
            clear ha hres h93
            go_wp2_with fail
            go_region
            go_wp2_with fail
            generalize s[k].toNat = A at *

            go_loopw [10] (fun c wr2 => ∃ d : Nat, c = .int .i64 d ∧ A ≤ d ∧ (d ≤ A + 1 ∨ d = A) ∧ Hid (Blk wr2 (w.heap.size + 1) 84 (mA false (fun x => P x || (decide (A ≤ x) && decide (x < d))))) ∧ Hid (Blk wr2 w.heap.size 84 (mA false (fun _ => false))) ∧ Hid (Below w.heap.size w wr2)) (fun c _ => 256 - (intOf c).toNat)
            case atStart =>
              refine ⟨A, rfl, Nat.le_refl _, .inr rfl, Lib.hid ?_, R, Lib.hid L.out.drew⟩
              have h := B.out
              rw [mA_ext (Q := fun x => P x || (decide (A ≤ x) && decide (x < A))) (fun i _ => by
                have : (decide (A ≤ i) && decide (i < A)) = false := by simp
                rw [this, Bool.or_false])] at h
              exact h
            case round =>
              obtain ⟨d, rfl, hd1, hd2, B2, R2, L2⟩ := hrel
              by_cases hdb : d ≤ A
              · have hdI : (d : Int) ≤ (A : Int) := by omega
                have hd256 : d < 256 := by omega
                have hc : wr.cell? ⟨w.heap.size + 1, 1 + d, none⟩ = some (.bool (P d || (decide (A ≤ d) && decide (d < d)))) := by rw [B2.out.cell, Nat.add_comm, mA_get _ _ hd256]
                have hfz := B2.out.frozen (1 + d)
                have HB2 : Hid (Blk (wr.setCell ⟨w.heap.size + 1, 1 + d, none⟩ (.bool true)) (w.heap.size + 1) 84 (mA false (fun x => P x || (decide (A ≤ x) && decide (x < d + 1))))) := Lib.hid (by
                  have h := B2.out.put (1 + d) (.bool true)
                  rw [Nat.add_comm 1 d, mA_set] at h
                  rw [Nat.add_comm 1 d, mA_ext (Q := fun x => if x = d then true else P x || (decide (A ≤ x) && decide (x < d)))]
                  · exact h
                  · intro i _
                    by_cases e : i = d
                    · subst e
                      rw [if_pos rfl, decide_eq_true hd1, decide_eq_true (by omega : i < i + 1)]; simp
                    · rw [if_neg e]
                      congr 2
                      rw [decide_eq_decide]; omega)
                have HR2 : Hid (Blk (wr.setCell ⟨w.heap.size + 1, 1 + d, none⟩ (.bool true)) w.heap.size 84 (mA false (fun _ => false))) := Lib.hid (R2.out.far (by simp) _)
                have HL2 : Hid (Below w.heap.size w (wr.setCell ⟨w.heap.size + 1, 1 + d, none⟩ (.bool true))) := Lib.hid (L2.out.setCell (by simp) _)
                clear R L B
                go_wp2_with fail
                exact ⟨⟨d + 1, by go_num, by omega, by omega, HB2, HR2, HL2⟩, by simp only [intOf]; omega⟩
              · have hdI : ¬ (d : Int) ≤ (A : Int) := by omega
                have HB2 : Hid (Blk wr (w.heap.size + 1) 84 (mA false (fun x => P x || sp A A x))) := Lib.hid (by
                  have h := B2.out
                  rw [mA_ext (Q := fun x => P x || sp A A x) (fun i _ => by
                    congr 1
                    unfold sp
                    rw [Bool.eq_iff_iff]
                    simp only [Bool.and_eq_true, decide_eq_true_eq]
                    omega)] at h
                  exact h)
                clear R L B B2
                go_wp2_with fail
                refine ⟨⟨k + 1, _, by go_num, by omega, by omega, ?_, HB2, R2, L2⟩, by simp only [intOf]; omega⟩
                rw [show decide (k + 1 ≠ 1) = true from decide_eq_true (by omega)]
                exact hnx

      · have hke : k = s.size := by omega
        have hr : none = res := by
          rw [List.drop_eq_nil_of_le (by rw [by8_length]; omega), mem_nil] at hres
          exact hres.out
        subst hr
        have hS := storz84 R.out
        have hR := Lib.hid (bRow R.out (mA false (fun _ => false)))
        have hL2 : Hid (Below w.heap.size w (wr.setRow w.heap.size (mA false (fun _ => false)))) := Lib.hid (below_rowG L.out (Nat.le_refl _) _)
        have ek : ((k : Int) == (s.size : Int)) = true := by simp; omega
        have hltI : ¬ (k : Int) < (s.size : Int) := by omega
        clear R L B
        go_wp2_with fail
        exact bodyPost_ret (v := .tuple #[.agg (mA false (fun _ => false)), .int .i64 (-1)]) (results_mark (by rfl) _ _ _ _ _ _ rfl rfl hR.out) rfl ⟨rfl, hL2.out⟩

  · have i0 : (0 : Int) < (s.size : Int) := by omega
    go_enter Try.func47, Try.ntmps47
    go_wp2_with fail
    go_loopw [5] (fun i wr => ∃ (k : Nat) (P : Nat → Bool), i = .int .i64 k ∧ 0 ≤ k ∧ k ≤ s.size ∧ Hid (mem ((by8 s).drop k) P (decide (k ≠ 0)) = res) ∧ Hid (Blk wr (w.heap.size + 1) 84 (mA false P)) ∧ Hid (Blk wr w.heap.size 84 (mA false (fun _ => false))) ∧ Hid (Below w.heap.size w wr)) (fun i _ => s.size - (intOf i).toNat)
    case atStart => exact ⟨0, _, rfl, by omega, by omega, HRes, B0, R0, L0⟩
    case round =>
      obtain ⟨k, P, rfl, hfk, hk, hres, B, R, L⟩ := hrel
      clear F0 B0 R0 L0 HRes i0 h1
      by_cases hlt : k < s.size
      · have hltI : (k : Int) < (s.size : Int) := by omega
        have ha := by8_drop hlt
        have h256 : s[k].toNat < 256 := UInt8.toNat_lt _
        by_cases h93 : s[k].toNat = 93
        · have e93 : ((s[k].toNat : Int) == 93) = true := by rw [h93]; rfl
          by_cases hkf : k = 0
          ·
            have hr : none = res := by
              rw [ha, h93, show decide (k ≠ 0) = false from decide_eq_false (by omega), mem_none] at hres
              exact hres.out
            subst hr
            have hS := storz84 R.out
            have hR := Lib.hid (bRow R.out (mA false (fun _ => false)))
            have hL2 : Hid (Below w.heap.size w (wr.setRow w.heap.size (mA false (fun _ => false)))) := Lib.hid (below_rowG L.out (Nat.le_refl _) _)
            have ek : ((k : Int) == (s.size : Int)) = false := by simp; omega
            have ef : ((k : Int) == 0) = true := by simp; omega
            clear hkf
            clear R L B
            go_wp2_with fail
            exact bodyPost_ret (v := .tuple #[.agg (mA false (fun _ => false)), .int .i64 (-1)]) (results_mark (by rfl) _ _ _ _ _ _ rfl rfl hR.out) rfl ⟨rfl, hL2.out⟩

          ·
            have ek : ((k : Int) == (s.size : Int)) = false := by simp; omega
            have ef : ((k : Int) == 0) = false := by simp; omega
            have hr : some (P, (by8 s).drop (k + 1)) = res := by
              rw [ha, h93, show decide (k ≠ 0) = true from decide_eq_true (by omega), mem_end] at hres
              exact hres.out
            have HV : Hid (grpV s.size (tn false res) = .tuple #[.agg (mA false (P)), .int .i64 k]) := Lib.hid (by
              rw [← hr]
              show Value.tuple #[.agg (mA false _), .int .i64 ((s.size - 1 - ((by8 s).drop (k + 1)).length : Nat) : Int)] = _
              rw [List.length_drop, by8_length, show s.size - 1 - (s.size - (k + 1)) = k by omega]
              rfl)
            clear hr ha hres h93
            go_wp2_with fail

            go_loopw [11] (fun c wr2 => c = .int .i64 0 ∧ wr2 = wr) (fun _ _ => 0)
            case atStart => exact ⟨rfl, rfl⟩
            case round =>
              obtain ⟨rfl, rfl⟩ := hrel
              have hB3 := B.out
              have R3 := R
              have L3 := L
              clear R L B
              have hS := storc84 (c := false) (Q := P) R3.out
              have hR := Lib.hid (bRow R3.out (mA false (P)))
              have hL3 : Hid (Below w.heap.size w (wr.setRow w.heap.size (mA false (P)))) := Lib.hid (below_rowG L3.out (Nat.le_refl _) _)
              clear R3 L3
              go_wp2_with fail
              refine wp_load_row 84 _ rfl (w.heap.size + 1) rfl 84 (mA false (P)) (0, 0) _ hB3 Try.underlying84 rfl (by rw [mA_size]; exact size84) ?_
              go_wp2_with fail
              rw [HV.out]
              exact bodyPost_ret (v := .tuple #[.agg (mA false (P)), .int .i64 k]) (results_mark (by rfl) _ _ _ _ _ _ rfl rfl hR.out) rfl ⟨rfl, hL3.out⟩

        · have e93 : ((s[k].toNat : Int) == 93) = false := by simp; omega
          rw [ha] at hres
          by_cases hsp : k + 2 < s.size
          · have hk1 : k + 1 < s.size := by omega
            have h2 : (k : Int) + 2 < (s.size : Int) := by omega
            have h2' : (k : Int) + 1 < (s.size : Int) := by omega
            by_cases h45 : s[k + 1].toNat = 45
            · by_cases hb93 : s[k + 2].toNat = 93
              ·
                have e45 : ((s[k + 1].toNat : Int) == 45) = true := by rw [h45]; rfl
                have e93b : ((s[k + 2].toNat : Int) == 93) = true := by rw [hb93]; rfl
                have hnx : Hid (mem ((by8 s).drop (k + 1)) (fun x => P x || sp s[k].toNat s[k].toNat x) true = res) := Lib.hid (by
                  rw [mem_byte h93 (fun h => h.2.2 (by rw [List.getElem?_drop]; exact (by8_get hsp).trans (by rw [hb93])))] at hres
                  exact hres.out)
                clear ha hres h93
                go_wp2_with fail
                go_region
                go_wp2_with fail
                generalize s[k].toNat = A at *

                go_loopw [10] (fun c wr2 => ∃ d : Nat, c = .int .i64 d ∧ A ≤ d ∧ (d ≤ A + 1 ∨ d = A) ∧ Hid (Blk wr2 (w.heap.size + 1) 84 (mA false (fun x => P x || (decide (A ≤ x) && decide (x < d))))) ∧ Hid (Blk wr2 w.heap.size 84 (mA false (fun _ => false))) ∧ Hid (Below w.heap.size w wr2)) (fun c _ => 256 - (intOf c).toNat)
                case atStart =>
                  refine ⟨A, rfl, Nat.le_refl _, .inr rfl, Lib.hid ?_, R, Lib.hid L.out.drew⟩
                  have h := B.out
                  rw [mA_ext (Q := fun x => P x || (decide (A ≤ x) && decide (x < A))) (fun i _ => by
                    have : (decide (A ≤ i) && decide (i < A)) = false := by simp
                    rw [this, Bool.or_false])] at h
                  exact h
                case round =>
                  obtain ⟨d, rfl, hd1, hd2, B2, R2, L2⟩ := hrel
                  by_cases hdb : d ≤ A
                  · have hdI : (d : Int) ≤ (A : Int) := by omega
                    have hd256 : d < 256 := by omega
                    have hc : wr.cell? ⟨w.heap.size + 1, 1 + d, none⟩ = some (.bool (P d || (decide (A ≤ d) && decide (d < d)))) := by rw [B2.out.cell, Nat.add_comm, mA_get _ _ hd256]
                    have hfz := B2.out.frozen (1 + d)
                    have HB2 : Hid (Blk (wr.setCell ⟨w.heap.size + 1, 1 + d, none⟩ (.bool true)) (w.heap.size + 1) 84 (mA false (fun x => P x || (decide (A ≤ x) && decide (x < d + 1))))) := Lib.hid (by
                      have h := B2.out.put (1 + d) (.bool true)
                      rw [Nat.add_comm 1 d, mA_set] at h
                      rw [Nat.add_comm 1 d, mA_ext (Q := fun x => if x = d then true else P x || (decide (A ≤ x) && decide (x < d)))]
                      · exact h
                      · intro i _
                        by_cases e : i = d
                        · subst e
                          rw [if_pos rfl, decide_eq_true hd1, decide_eq_true (by omega : i < i + 1)]; simp
                        · rw [if_neg e]
                          congr 2
                          rw [decide_eq_decide]; omega)
                    have HR2 : Hid (Blk (wr.setCell ⟨w.heap.size + 1, 1 + d, none⟩ (.bool true)) w.heap.size 84 (mA false (fun _ => false))) := Lib.hid (R2.out.far (by simp) _)
                    have HL2 : Hid (Below w.heap.size w (wr.setCell ⟨w.heap.size + 1, 1 + d, none⟩ (.bool true))) := Lib.hid (L2.out.setCell (by simp) _)
                    clear R L B
                    go_wp2_with fail
                    exact ⟨⟨d + 1, by go_num, by omega, by omega, HB2, HR2, HL2⟩, by simp only [intOf]; omega⟩
                  · have hdI : ¬ (d : Int) ≤ (A : Int) := by omega
                    have HB2 : Hid (Blk wr (w.heap.size + 1) 84 (mA false (fun x => P x || sp A A x))) := Lib.hid (by
                      have h := B2.out
                      rw [mA_ext (Q := fun x => P x || sp A A x) (fun i _ => by
                        congr 1
                        unfold sp
                        rw [Bool.eq_iff_iff]
                        simp only [Bool.and_eq_true, decide_eq_true_eq]
                        omega)] at h
                      exact h)
                    clear R L B B2
                    go_wp2_with fail
                    refine ⟨⟨k + 1, _, by go_num, by omega, by omega, ?_, HB2, R2, L2⟩, by simp only [intOf]; omega⟩
                    rw [show decide (k + 1 ≠ 0) = true from decide_eq_true (by omega)]
                    exact hnx

              ·
                have e45 : ((s[k + 1].toNat : Int) == 45) = true := by rw [h45]; rfl
                have e93b : ((s[k + 2].toNat : Int) == 93) = false := by simp; omega
                have hb256 : s[k + 2].toNat < 256 := UInt8.toNat_lt _
                have hnx : Hid (mem ((by8 s).drop (k + 3)) (fun x => P x || sp s[k].toNat s[k + 2].toNat x) true = res) := Lib.hid (by
                  rw [by8_drop hk1, h45, by8_drop hsp, mem_span h93 hb93] at hres
                  exact hres.out)
                clear ha hres h93 hb93 h45
                go_wp2_with fail
                go_region
                go_wp2_with fail
                generalize s[k].toNat = A at *
                generalize s[k + 2].toNat = Bb at *

                go_loopw [10] (fun c wr2 => ∃ d : Nat, c = .int .i64 d ∧ A ≤ d ∧ (d ≤ Bb + 1 ∨ d = A) ∧ Hid (Blk wr2 (w.heap.size + 1) 84 (mA false (fun x => P x || (decide (A ≤ x) && decide (x < d))))) ∧ Hid (Blk wr2 w.heap.size 84 (mA false (fun _ => false))) ∧ Hid (Below w.heap.size w wr2)) (fun c _ => 256 - (intOf c).toNat)
                case atStart =>
                  refine ⟨A, rfl, Nat.le_refl _, .inr rfl, Lib.hid ?_, R, Lib.hid L.out.drew⟩
                  have h := B.out
                  rw [mA_ext (Q := fun x => P x || (decide (A ≤ x) && decide (x < A))) (fun i _ => by
                    have : (decide (A ≤ i) && decide (i < A)) = false := by simp
                    rw [this, Bool.or_false])] at h
                  exact h
                case round =>
                  obtain ⟨d, rfl, hd1, hd2, B2, R2, L2⟩ := hrel
                  by_cases hdb : d ≤ Bb
                  · have hdI : (d : Int) ≤ (Bb : Int) := by omega
                    have hd256 : d < 256 := by omega
                    have hc : wr.cell? ⟨w.heap.size + 1, 1 + d, none⟩ = some (.bool (P d || (decide (A ≤ d) && decide (d < d)))) := by rw [B2.out.cell, Nat.add_comm, mA_get _ _ hd256]
                    have hfz := B2.out.frozen (1 + d)
                    have HB2 : Hid (Blk (wr.setCell ⟨w.heap.size + 1, 1 + d, none⟩ (.bool true)) (w.heap.size + 1) 84 (mA false (fun x => P x || (decide (A ≤ x) && decide (x < d + 1))))) := Lib.hid (by
                      have h := B2.out.put (1 + d) (.bool true)
                      rw [Nat.add_comm 1 d, mA_set] at h
                      rw [Nat.add_comm 1 d, mA_ext (Q := fun x => if x = d then true else P x || (decide (A ≤ x) && decide (x < d)))]
                      · exact h
                      · intro i _
                        by_cases e : i = d
                        · subst e
                          rw [if_pos rfl, decide_eq_true hd1, decide_eq_true (by omega : i < i + 1)]; simp
                        · rw [if_neg e]
                          congr 2
                          rw [decide_eq_decide]; omega)
                    have HR2 : Hid (Blk (wr.setCell ⟨w.heap.size + 1, 1 + d, none⟩ (.bool true)) w.heap.size 84 (mA false (fun _ => false))) := Lib.hid (R2.out.far (by simp) _)
                    have HL2 : Hid (Below w.heap.size w (wr.setCell ⟨w.heap.size + 1, 1 + d, none⟩ (.bool true))) := Lib.hid (L2.out.setCell (by simp) _)
                    clear R L B
                    go_wp2_with fail
                    exact ⟨⟨d + 1, by go_num, by omega, by omega, HB2, HR2, HL2⟩, by simp only [intOf]; omega⟩
                  · have hdI : ¬ (d : Int) ≤ (Bb : Int) := by omega
                    have HB2 : Hid (Blk wr (w.heap.size + 1) 84 (mA false (fun x => P x || sp A Bb x))) := Lib.hid (by
                      have h := B2.out
                      rw [mA_ext (Q := fun x => P x || sp A Bb x) (fun i _ => by
                        congr 1
                        unfold sp
                        rw [Bool.eq_iff_iff]
                        simp only [Bool.and_eq_true, decide_eq_true_eq]
                        omega)] at h
                      exact h)
                    clear R L B B2
                    go_wp2_with fail
                    refine ⟨⟨k + 3, _, by go_num, by omega, by omega, ?_, HB2, R2, L2⟩, by simp only [intOf]; omega⟩
                    rw [show decide (k + 3 ≠ 0) = true from decide_eq_true (by omega)]
                    exact hnx

            ·
              have e45 : ((s[k + 1].toNat : Int) == 45) = false := by simp; omega
              have hnx : Hid (mem ((by8 s).drop (k + 1)) (fun x => P x || sp s[k].toNat s[k].toNat x) true = res) := Lib.hid (by
                rw [mem_byte h93 (fun h => by have h1 := h.2.1; rw [List.getElem?_drop, Nat.add_zero, by8_get hk1] at h1; exact h45 (Option.some.inj h1))] at hres
                exact hres.out)
              clear ha hres h93
              go_wp2_with fail
              go_region
              go_wp2_with fail
              generalize s[k].toNat = A at *

              go_loopw [10] (fun c wr2 => ∃ d : Nat, c = .int .i64 d ∧ A ≤ d ∧ (d ≤ A + 1 ∨ d = A) ∧ Hid (Blk wr2 (w.heap.size + 1) 84 (mA false (fun x => P x || (decide (A ≤ x) && decide (x < d))))) ∧ Hid (Blk wr2 w.heap.size 84 (mA false (fun _ => false))) ∧ Hid (Below w.heap.size w wr2)) (fun c _ => 256 - (intOf c).toNat)
              case atStart =>
                refine ⟨A, rfl, Nat.le_refl _, .inr rfl, Lib.hid ?_, R, Lib.hid L.out.drew⟩
                have h := B.out
                rw [mA_ext (Q := fun x => P x || (decide (A ≤ x) && decide (x < A))) (fun i _ => by
                  have : (decide (A ≤ i) && decide (i < A)) = false := by simp
                  rw [this, Bool.or_false])] at h
                exact h
              case round =>
                obtain ⟨d, rfl, hd1, hd2, B2, R2, L2⟩ := hrel
                by_cases hdb : d ≤ A
                · have hdI : (d : Int) ≤ (A : Int) := by omega
                  have hd256 : d < 256 := by omega
                  have hc : wr.cell? ⟨w.heap.size + 1, 1 + d, none⟩ = some (.bool (P d || (decide (A ≤ d) && decide (d < d)))) := by rw [B2.out.cell, Nat.add_comm, mA_get _ _ hd256]
                  have hfz := B2.out.frozen (1 + d)
                  have HB2 : Hid (Blk (wr.setCell ⟨w.heap.size + 1, 1 + d, none⟩ (.bool true)) (w.heap.size + 1) 84 (mA false (fun x => P x || (decide (A ≤ x) && decide (x < d + 1))))) := Lib.hid (by
                    have h := B2.out.put (1 + d) (.bool true)
                    rw [Nat.add_comm 1 d, mA_set] at h
                    rw [Nat.add_comm 1 d, mA_ext (Q := fun x => if x = d then true else P x || (decide (A ≤ x) && decide (x < d)))]
                    · exact h
                    · intro i _
                      by_cases e : i = d
                      · subst e
                        rw [if_pos rfl, decide_eq_true hd1, decide_eq_true (by omega : i < i + 1)]; simp
                      · rw [if_neg e]
                        congr 2
                        rw [decide_eq_decide]; omega)
                  have HR2 : Hid (Blk (wr.setCell ⟨w.heap.size + 1, 1 + d, none⟩ (.bool true)) w.heap.size 84 (mA false (fun _ => false))) := Lib.hid (R2.out.far (by simp) _)
                  have HL2 : Hid (Below w.heap.size w (wr.setCell ⟨w.heap.size + 1, 1 + d, none⟩ (.bool true))) := Lib.hid (L2.out.setCell (by simp) _)
                  clear R L B
                  go_wp2_with fail
                  exact ⟨⟨d + 1, by go_num, by omega, by omega, HB2, HR2, HL2⟩, by simp only [intOf]; omega⟩
                · have hdI : ¬ (d : Int) ≤ (A : Int) := by omega
                  have HB2 : Hid (Blk wr (w.heap.size + 1) 84 (mA false (fun x => P x || sp A A x))) := Lib.hid (by
                    have h := B2.out
                    rw [mA_ext (Q := fun x => P x || sp A A x) (fun i _ => by
                      congr 1
                      unfold sp
                      rw [Bool.eq_iff_iff]
                      simp only [Bool.and_eq_true, decide_eq_true_eq]
                      omega)] at h
                    exact h)
                  clear R L B B2
                  go_wp2_with fail
                  refine ⟨⟨k + 1, _, by go_num, by omega, by omega, ?_, HB2, R2, L2⟩, by simp only [intOf]; omega⟩
                  rw [show decide (k + 1 ≠ 0) = true from decide_eq_true (by omega)]
                  exact hnx

          ·
            have h2 : ¬ (k : Int) + 2 < (s.size : Int) := by omega
            have hnx : Hid (mem ((by8 s).drop (k + 1)) (fun x => P x || sp s[k].toNat s[k].toNat x) true = res) := Lib.hid (by
              rw [mem_byte h93 (fun h => by have := h.1; simp [by8_length] at this; omega)] at hres
              exact hres.out)
            clear ha hres h93
            go_wp2_with fail
            go_region
            go_wp2_with fail
            generalize s[k].toNat = A at *

            go_loopw [10] (fun c wr2 => ∃ d : Nat, c = .int .i64 d ∧ A ≤ d ∧ (d ≤ A + 1 ∨ d = A) ∧ Hid (Blk wr2 (w.heap.size + 1) 84 (mA false (fun x => P x || (decide (A ≤ x) && decide (x < d))))) ∧ Hid (Blk wr2 w.heap.size 84 (mA false (fun _ => false))) ∧ Hid (Below w.heap.size w wr2)) (fun c _ => 256 - (intOf c).toNat)
            case atStart =>
              refine ⟨A, rfl, Nat.le_refl _, .inr rfl, Lib.hid ?_, R, Lib.hid L.out.drew⟩
              have h := B.out
              rw [mA_ext (Q := fun x => P x || (decide (A ≤ x) && decide (x < A))) (fun i _ => by
                have : (decide (A ≤ i) && decide (i < A)) = false := by simp
                rw [this, Bool.or_false])] at h
              exact h
            case round =>
              obtain ⟨d, rfl, hd1, hd2, B2, R2, L2⟩ := hrel
              by_cases hdb : d ≤ A
              · have hdI : (d : Int) ≤ (A : Int) := by omega
                have hd256 : d < 256 := by omega
                have hc : wr.cell? ⟨w.heap.size + 1, 1 + d, none⟩ = some (.bool (P d || (decide (A ≤ d) && decide (d < d)))) := by rw [B2.out.cell, Nat.add_comm, mA_get _ _ hd256]
                have hfz := B2.out.frozen (1 + d)
                have HB2 : Hid (Blk (wr.setCell ⟨w.heap.size + 1, 1 + d, none⟩ (.bool true)) (w.heap.size + 1) 84 (mA false (fun x => P x || (decide (A ≤ x) && decide (x < d + 1))))) := Lib.hid (by
                  have h := B2.out.put (1 + d) (.bool true)
                  rw [Nat.add_comm 1 d, mA_set] at h
                  rw [Nat.add_comm 1 d, mA_ext (Q := fun x => if x = d then true else P x || (decide (A ≤ x) && decide (x < d)))]
                  · exact h
                  · intro i _
                    by_cases e : i = d
                    · subst e
                      rw [if_pos rfl, decide_eq_true hd1, decide_eq_true (by omega : i < i + 1)]; simp
                    · rw [if_neg e]
                      congr 2
                      rw [decide_eq_decide]; omega)
                have HR2 : Hid (Blk (wr.setCell ⟨w.heap.size + 1, 1 + d, none⟩ (.bool true)) w.heap.size 84 (mA false (fun _ => false))) := Lib.hid (R2.out.far (by simp) _)
                have HL2 : Hid (Below w.heap.size w (wr.setCell ⟨w.heap.size + 1, 1 + d, none⟩ (.bool true))) := Lib.hid (L2.out.setCell (by simp) _)
                clear R L B
                go_wp2_with fail
                exact ⟨⟨d + 1, by go_num, by omega, by omega, HB2, HR2, HL2⟩, by simp only [intOf]; omega⟩
              · have hdI : ¬ (d : Int) ≤ (A : Int) := by omega
                have HB2 : Hid (Blk wr (w.heap.size + 1) 84 (mA false (fun x => P x || sp A A x))) := Lib.hid (by
                  have h := B2.out
                  rw [mA_ext (Q := fun x => P x || sp A A x) (fun i _ => by
                    congr 1
                    unfold sp
                    rw [Bool.eq_iff_iff]
                    simp only [Bool.and_eq_true, decide_eq_true_eq]
                    omega)] at h
                  exact h)
                clear R L B B2
                go_wp2_with fail
                refine ⟨⟨k + 1, _, by go_num, by omega, by omega, ?_, HB2, R2, L2⟩, by simp only [intOf]; omega⟩
                rw [show decide (k + 1 ≠ 0) = true from decide_eq_true (by omega)]
                exact hnx

      · have hke : k = s.size := by omega
        have hr : none = res := by
          rw [List.drop_eq_nil_of_le (by rw [by8_length]; omega), mem_nil] at hres
          exact hres.out
        subst hr
        have hS := storz84 R.out
        have hR := Lib.hid (bRow R.out (mA false (fun _ => false)))
        have hL2 : Hid (Below w.heap.size w (wr.setRow w.heap.size (mA false (fun _ => false)))) := Lib.hid (below_rowG L.out (Nat.le_refl _) _)
        have ek : ((k : Int) == (s.size : Int)) = true := by simp; omega
        have hltI : ¬ (k : Int) < (s.size : Int) := by omega
        clear R L B
        go_wp2_with fail
        exact bodyPost_ret (v := .tuple #[.agg (mA false (fun _ => false)), .int .i64 (-1)]) (results_mark (by rfl) _ _ _ _ _ _ rfl rfl hR.out) rfl ⟨rfl, hL2.out⟩

end Go.Proofs.Ytaielamimkigmaa
