/-
  Operations compared. Nothing of one statement alone stands here.
-/
import Derived.Test.YtcpoicplhkkjnaaGreatHistQ
import Derived.Deep.RegionHeld3
namespace Go.Proofs.YtcpoicplhkkjnaaGreat
open Go.RowKit Crcm Tagm Go.ChangeShapes

set_option maxRecDepth 100000 in
set_option maxHeartbeats 1000000 in
theorem is_any (o : Ho) (A : Option Addr) (c m : Nat) (w : World) :
    Calls Tryz.prog 35 #[.agg #[.int .i64 o.kind, .string o.path, .string o.to, .int .i64 o.handle, .int .i64 o.n, .int .i64 o.off, .slice A m c]] w fun e w' => e = .returned (.agg #[.int .i64 o.kind, .string o.path, .string o.to, .int .i64 o.handle, .int .i64 o.n, .int .i64 o.off, .slice A m c]) ∧ Below w.heap.size w w' := by
  go_enter Tryz.func35, Tryz.ntmps35
  go_wp2
  exact bodyPost_ret (v := .agg #[.int .i64 o.kind, .string o.path, .string o.to, .int .i64 o.handle, .int .i64 o.n, .int .i64 o.off, .slice A m c]) (by simp [results, Tryz.results35, go_sem]) rfl ⟨rfl, by
    refine (((Below.refl w.heap.size w).alloc (Nat.le_refl _) _).alloc (by simp) _)⟩

set_option maxRecDepth 100000 in
set_option maxHeartbeats 2000000 in
theorem rsameH_eq (o : Ho) (A B : Option Addr) (c d m : Nat) (w : World) (hm : o.b.length = m) (hA : Rw w A o.b) (hB : Rw w B o.b) :
    Calls Tryz.prog 34 #[.agg #[.int .i64 o.kind, .string o.path, .string o.to, .int .i64 o.handle, .int .i64 o.n, .int .i64 o.off, .slice A m c], .agg #[.int .i64 o.kind, .string o.path, .string o.to, .int .i64 o.handle, .int .i64 o.n, .int .i64 o.off, .slice B m d]] w fun e w' => e = .returned (.bool true) ∧ Below w.heap.size w w' := by
  have hb1 := (Below.refl w.heap.size w).alloc (Nat.le_refl _) (.cells #[.int .i64 o.kind, .string o.path, .string o.to, .int .i64 o.handle, .int .i64 o.n, .int .i64 o.off, .slice A m c] 48)
  have hb2 := hb1.alloc hb1.size (.cells #[.int .i64 o.kind, .string o.path, .string o.to, .int .i64 o.handle, .int .i64 o.n, .int .i64 o.off, .slice B m d] 48)
  have x1 := (hA.below hb2).text m c hm
  have x2 := (hB.below hb2).text m d hm
  have HB := Lib.hid hb2
  have t1 : (o.path.toList == o.path.toList) = true := beq_self_eq_true _
  have t2 : (o.to.toList == o.to.toList) = true := beq_self_eq_true _
  have t3 : ((strOfNums o.b).toList == (strOfNums o.b).toList) = true := beq_self_eq_true _
  clear hA hB hb1 hb2 hm
  go_enter Tryz.func34, Tryz.ntmps34
  go_wp2_with fail
  go_ret
  exact ⟨rfl, HB.out⟩

set_option maxRecDepth 100000 in
set_option maxHeartbeats 4000000 in
theorem sameH_eq (a a2 : Option Addr) (n c c2 : Nat) (L : List Ho) (w : World) (h : HR w a L) (h2 : HR w a2 L) (hn : L.length = n) (hn2 : n ≤ maxLen) :
    Calls Tryz.prog 17 #[.slice a n c, .slice a2 n c2] w fun e w' => e = .returned (.bool true) ∧ Below w.heap.size w w' := by
  have HH := Lib.hid h
  have HH2 := Lib.hid h2
  have HN := Lib.hid hn
  have n9 : n ≤ 9223372036854775807 := by unfold maxLen at hn2; omega
  have HB0 := Lib.hid (Below.refl w.heap.size w)
  have tn : ((n : Int) != (n : Int)) = false := by simp
  clear h h2 hn hn2
  go_enter Tryz.func17, Tryz.ntmps17
  go_wp2_with fail
  go_loopw [5] (fun i wr => ∃ k : Nat, k ≤ n ∧ i = .int .i64 k ∧ Hid (Below w.heap.size w wr)) (fun i _ => n - (intOf i).toNat)
  case atStart => exact ⟨0, Nat.zero_le _, rfl, HB0⟩
  case round =>
    obtain ⟨k, hkn, rfl, hB⟩ := hrel
    by_cases hlt : k < n
    · have kl : (k : Int) < (n : Int) := by omega
      have k0 : (0 : Int) ≤ (k : Int) := by omega
      have hkl : k < L.length := by rw [HN.out]; exact hlt
      obtain ⟨b, off, A, cA, rfl, ⟨p0, p1, p2, p3, p4, p5, p6⟩, -, hR⟩ := HH.out.both (Below.refl _ _) hkl
      obtain ⟨b2, off2, A2, cB, rfl, ⟨q0, q1, q2, q3, q4, q5, q6⟩, -, hR2⟩ := HH2.out.both (Below.refl _ _) hkl
      generalize L[k]! = o at p0 p1 p2 p3 p4 p5 p6 q0 q1 q2 q3 q4 q5 q6 hR hR2
      obtain ⟨m, hm⟩ : ∃ m, o.b.length = m := ⟨_, rfl⟩
      rw [hm] at p6 q6
      have HSS := Lib.hid (fun (w' : World) (hb : Below w.heap.size w w') => (show w'.cell? ⟨b, off + k * 7, none⟩ = some (.int .i64 o.kind) ∧ w'.cell? ⟨b, off + k * 7 + 1, none⟩ = some (.string o.path) ∧ w'.cell? ⟨b, off + k * 7 + 2, none⟩ = some (.string o.to) ∧ w'.cell? ⟨b, off + k * 7 + 3, none⟩ = some (.int .i64 o.handle) ∧ w'.cell? ⟨b, off + k * 7 + 4, none⟩ = some (.int .i64 o.n) ∧ w'.cell? ⟨b, off + k * 7 + 5, none⟩ = some (.int .i64 o.off) ∧ w'.cell? ⟨b, off + k * 7 + 6, none⟩ = some (.slice A m cA) ∧ w'.cell? ⟨b2, off2 + k * 7, none⟩ = some (.int .i64 o.kind) ∧ w'.cell? ⟨b2, off2 + k * 7 + 1, none⟩ = some (.string o.path) ∧ w'.cell? ⟨b2, off2 + k * 7 + 2, none⟩ = some (.string o.to) ∧ w'.cell? ⟨b2, off2 + k * 7 + 3, none⟩ = some (.int .i64 o.handle) ∧ w'.cell? ⟨b2, off2 + k * 7 + 4, none⟩ = some (.int .i64 o.n) ∧ w'.cell? ⟨b2, off2 + k * 7 + 5, none⟩ = some (.int .i64 o.off) ∧ w'.cell? ⟨b2, off2 + k * 7 + 6, none⟩ = some (.slice A2 m cB) ∧ Below w.heap.size w w' from
        have hc : ∀ {p : Addr} {v : Value}, w.cell? p = some v → w'.cell? p = some v := fun {p v} g => (hb.cell (block_lt_of_cell g)).trans g
        ⟨hc p0, hc p1, hc p2, hc p3, hc p4, hc p5, hc p6, hc q0, hc q1, hc q2, hc q3, hc q4, hc q5, hc q6, hb⟩))
      have HIs := Lib.hid (fun (W : World) (hb : Below w.heap.size w W) => (is_any o A cA m W).mono (R' := fun e w' => e = .returned (.agg #[.int .i64 o.kind, .string o.path, .string o.to, .int .i64 o.handle, .int .i64 o.n, .int .i64 o.off, .slice A m cA]) ∧ Below w.heap.size w w') (fun e w' g => ⟨g.1, hb.trans (g.2.mono hb.size)⟩))
      have HSm := Lib.hid (fun (W : World) (hb : Below w.heap.size w W) => (rsameH_eq o A A2 cA cB m W hm (hR.below hb) (hR2.below hb)).mono (R' := fun e w' => e = .returned (.bool true) ∧ Below w.heap.size w w') (fun e w' g => ⟨g.1, hb.trans (g.2.mono hb.size)⟩))
      have hS0 := HSS.out wr hB.out
      clear p0 p1 p2 p3 p4 p5 p6 q0 q1 q2 q3 q4 q5 q6 hR hR2 hm hkl
      go_wp2_with fail
      go_region_held3 (fun w' => w'.cell? ⟨b, off + k * 7, none⟩ = some (.int .i64 o.kind) ∧ w'.cell? ⟨b, off + k * 7 + 1, none⟩ = some (.string o.path) ∧ w'.cell? ⟨b, off + k * 7 + 2, none⟩ = some (.string o.to) ∧ w'.cell? ⟨b, off + k * 7 + 3, none⟩ = some (.int .i64 o.handle) ∧ w'.cell? ⟨b, off + k * 7 + 4, none⟩ = some (.int .i64 o.n) ∧ w'.cell? ⟨b, off + k * 7 + 5, none⟩ = some (.int .i64 o.off) ∧ w'.cell? ⟨b, off + k * 7 + 6, none⟩ = some (.slice A m cA) ∧ w'.cell? ⟨b2, off2 + k * 7, none⟩ = some (.int .i64 o.kind) ∧ w'.cell? ⟨b2, off2 + k * 7 + 1, none⟩ = some (.string o.path) ∧ w'.cell? ⟨b2, off2 + k * 7 + 2, none⟩ = some (.string o.to) ∧ w'.cell? ⟨b2, off2 + k * 7 + 3, none⟩ = some (.int .i64 o.handle) ∧ w'.cell? ⟨b2, off2 + k * 7 + 4, none⟩ = some (.int .i64 o.n) ∧ w'.cell? ⟨b2, off2 + k * 7 + 5, none⟩ = some (.int .i64 o.off) ∧ w'.cell? ⟨b2, off2 + k * 7 + 6, none⟩ = some (.slice A2 m cB) ∧ Below w.heap.size w w')
        ((first | exact hS0 | (refine HSS.out _ ?_; go_split_ands; first | assumption | exact Below.drew (by assumption))))
        (first
          | (go_at_call 35; refine (HIs.out _ ?_).mono ?_; (go_split_ands; assumption); rintro e w4 ⟨rfl, hb4⟩)
          | (go_at_call 34; refine (HSm.out _ ?_).mono ?_; (go_split_ands; assumption); rintro e w5 ⟨rfl, hb5⟩))
      have HB5 := Lib.hid hb5
      clear hS0 HIs HSm HSS
      go_wp2
      go_roundw
      case rel => exact ⟨k + 1, by omega, by go_num, HB5⟩
      case measure => simp [intOf]; omega
    · have kl : ¬ (k : Int) < (n : Int) := by omega
      go_wp2
      go_ret
      exact ⟨rfl, hB.out⟩

end Go.Proofs.YtcpoicplhkkjnaaGreat
