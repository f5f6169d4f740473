/-
  The law's own calls: how much there is, operations as the program's, what must come of fixed calls.
-/
import Derived.Test.YthngpmiclbbpnaaGreatHistD
namespace Go.Proofs.YthngpmiclbbpnaaGreat
open Go.RowKit Crcm Tagm Go.ChangeShapes

theorem szs_app (l m : List Ho) : szs (l ++ m) = szs l + szs m := by
  induction l with
  | nil => simp [szs]
  | cons o l ih => simp only [List.cons_append, szs, ih]; omega
theorem szs_take {l : List Ho} {k : Nat} (h : k < l.length) : szs (l.take (k + 1)) = szs (l.take k) + (20 + l[k]!.path.size + l[k]!.to.size + l[k]!.b.length) := by
  rw [List.take_succ_eq_append_getElem h, szs_app, getElem!_pos l k h]
  simp [szs]
/-- what came in is no more than memory -/
def SzH (o : Ho) : Prop := o.path.size ≤ 140737488355328 ∧ o.to.size ≤ 140737488355328 ∧ o.b.length ≤ 140737488355328 ∧ -9223372036854775808 ≤ o.off ∧ o.off ≤ 9223372036854775807

set_option maxRecDepth 100000 in
set_option maxHeartbeats 2000000 in
theorem rsize_any (a : Option Addr) (n c : Nat) (L : List Ho) (w : World) (h : HR w a L) (hn : L.length = n) (hn2 : n ≤ maxLen) (hz : ∀ o ∈ L, SzH o) :
    Calls Tryz.prog 4 #[.slice a n c, .int .i64 20000] w fun e w' => (∃ z : Nat, e = .returned (.int .i64 z) ∧ (z ≤ 20000 → szs L ≤ 20000)) ∧ Below w.heap.size w w' := by
  unfold maxLen at hn2
  have HH := Lib.hid h
  have HN := Lib.hid hn
  have HZ := Lib.hid hz
  have n9 : n ≤ 9223372036854775807 := by omega
  clear h hn hz hn2
  go_enter Tryz.func4, Tryz.ntmps4
  go_wp2_with fail
  go_loopw [5, 6] (fun t i wr => ∃ (k z : Nat), k ≤ n ∧ i = .int .i64 k ∧ t = .int .i64 z ∧ Hid (z = szs (L.take k)) ∧ Hid (Below w.heap.size w wr)) (fun _ i _ => n - (intOf i).toNat)
  case atStart => exact ⟨0, 0, Nat.zero_le _, rfl, rfl, Lib.hid rfl, Lib.hid (Below.refl _ _)⟩
  case round =>
    obtain ⟨k, z, hkn, rfl, rfl, hZ, hB⟩ := hrel
    by_cases hlt : k < n
    · have kl : (k : Int) < (n : Int) := by omega
      have k0 : (0 : Int) ≤ (k : Int) := by omega
      by_cases hz2 : z ≤ 20000
      · have z2 : (z : Int) ≤ 20000 := by omega
        have hkl : k < L.length := by rw [HN.out]; exact hlt
        obtain ⟨b, off, A, cc, rfl, ⟨-, h1, h2, -, -, -, h6⟩, -, -⟩ := HH.out.both hB.out hkl
        have hzk := HZ.out L[k]! (by rw [getElem!_pos L k hkl]; exact List.getElem_mem hkl)
        have HT := Lib.hid (szs_take hkl)
        generalize L[k]! = o at h1 h2 h6 hzk HT
        obtain ⟨m, hm⟩ : ∃ m, o.b.length = m := ⟨_, rfl⟩
        unfold SzH at hzk
        rw [hm] at h6 HT hzk
        obtain ⟨p, hp⟩ : ∃ p, o.path.size = p := ⟨_, rfl⟩
        obtain ⟨q, hq⟩ : ∃ q, o.to.size = q := ⟨_, rfl⟩
        rw [hp, hq] at HT hzk
        obtain ⟨g1, g2, g3, -⟩ := hzk
        have e1 : IntKind.i64.wrap ((z : Int) + 20) = (z : Int) + 20 := IntWalk.i64_in _ (by omega)
        have e2 : IntKind.i64.wrap ((z : Int) + 20 + p) = (z : Int) + 20 + p := IntWalk.i64_in _ (by omega)
        have e3 : IntKind.i64.wrap ((z : Int) + 20 + p + q) = (z : Int) + 20 + p + q := IntWalk.i64_in _ (by omega)
        have e4 : IntKind.i64.wrap ((z : Int) + 20 + p + q + m) = (z : Int) + 20 + p + q + m := IntWalk.i64_in _ (by omega)
        clear hm hkl
        go_wp2_with fail
        go_region
        go_wp2
        go_roundw
        case rel => exact ⟨k + 1, z + 20 + p + q + m, by omega, by go_num, by go_num, Lib.hid (by have := HT.out; have := hZ.out; omega), Lib.hid hB.out.drew⟩
        case measure => simp [intOf]; omega
      · have z2 : ¬ (z : Int) ≤ 20000 := by omega
        go_wp2
        go_ret
        exact ⟨⟨z, rfl, fun h => absurd h hz2⟩, hB.out⟩
    · have kl : ¬ (k : Int) < (n : Int) := by omega
      go_wp2
      go_ret
      exact ⟨⟨z, rfl, fun h => by
        have h1 := hZ.out
        rw [List.take_of_length_le (by have := HN.out; omega)] at h1
        omega⟩, hB.out⟩

set_option maxRecDepth 100000 in
set_option maxHeartbeats 1000000 in
theorem own_any (o : Ho) (A : Option Addr) (c m : Nat) (w : World) :
    Calls Tryz.prog 18 #[.agg #[.int .i64 o.kind, .string o.path, .string o.to, .int .i64 o.handle, .int .i64 o.n, .int .i64 o.off, .slice A m c]] w fun e w' => e = .returned (.agg #[.int .i64 o.kind, .string o.path, .string o.to, .int .i64 o.handle, .int .i64 o.n, .int .i64 o.off, .slice A m c]) ∧ Below w.heap.size w w' := by
  go_enter Tryz.func18, Tryz.ntmps18
  go_wp2
  exact bodyPost_ret (v := .agg #[.int .i64 o.kind, .string o.path, .string o.to, .int .i64 o.handle, .int .i64 o.n, .int .i64 o.off, .slice A m c]) (by simp [results, Tryz.results18, go_sem]) rfl ⟨rfl, by
    refine (((Below.refl w.heap.size w).alloc (Nat.le_refl _) _).alloc (by simp) _)⟩

end Go.Proofs.YthngpmiclbbpnaaGreat
