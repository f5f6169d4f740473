/-
  The inode of bytes: what the document's Read answers.
-/
import Derived.Test.YtladgfonkolpmaaInoReadW
import Derived.Test.YtladgfonkolpmaaInoRefR
import Derived.Deep.RegionHeld3
import Derived.Deep.DeepCutAuto
import Derived.Deep.MidRow
import Derived.Lib.SlBytesRow
namespace Go.Proofs.Ytladgfonkolpmaa
open Go.RowKit Crcm Tagm Inom Go.ChangeShapes

theorem Try.size8 (w : World) : (Go.sizeOf 5).run Try.prog w = .ok 1 w := by
  obtain ⟨i0, hi, hz0, hz1, hz2⟩ := info_parts Try.info8
  simp [Go.sizeOf, typeInfo, hi, hz1]
theorem cut_at (b off n cap x y m : Nat) (X Y : Int) (hx : X = (x : Int)) (hy : Y = (y : Int)) (h1 : x < y) (h2 : y ≤ cap) (hm : y - x = m) (W : World) :
    (Instr.slice 22 (.slice (some ⟨b, off, none⟩) n cap) (some (.int .i64 X)) (some (.int .i64 Y)) none).run Try.prog W = .ok (.slice (some ⟨b, off + x, none⟩) m (cap - x)) W := by
  subst hx
  subst hy
  subst hm
  exact Lib.run_slice_window (P := Try.prog) W 22 5 Try.underlying22 Try.size8 b off n cap x y h1 h2

theorem num_len {a : Option Addr} {cap m : Nat} {l : List Int} {v : Int} {w : World} (hr : Rw w a l) (hl : l.length = m) (h8 : m ≤ 8) (hv : v = nu l) :
    Calls Try.prog 20 #[.slice a m cap] w fun e w' => e = .returned (.int .u64 v) ∧ w = w' := by
  subst hl hv
  exact num_any a cap l w hr h8
theorem nat_U {l : List Int} {p n : Nat} (h : ∀ b ∈ l, U8 b) (hn : n ≤ 4) : 0 ≤ nat_ l p n ∧ nat_ l p n < 4294967296 := by
  have hb := nu_bd ((l.drop p).take n) fun b hb => h b (List.mem_of_mem_drop (List.mem_of_mem_take hb))
  have hl : ((l.drop p).take n).length ≤ 4 := by rw [List.length_take]; omega
  unfold nat_
  have hp : (256 : Int) ^ ((l.drop p).take n).length ≤ 4294967296 := by
    generalize ((l.drop p).take n).length = n at hl
    match n, hl with
    | 0, _ => decide
    | 1, _ => decide
    | 2, _ => decide
    | 3, _ => decide
    | 4, _ => decide
    | n + 5, hl => omega
  omega

set_option maxRecDepth 100000 in
theorem two_any (b off n cap p : Nat) (P : Int) (l : List Int) (w : World) (hr : Rw w (some ⟨b, off, none⟩) l) (hl : l.length = n) (hP : P = p) (hp : p + 2 ≤ n) (hc : n ≤ cap) (hn : n ≤ 2000) :
    Calls Try.prog 44 #[.slice (some ⟨b, off, none⟩) n cap, .int .i64 P] w fun e w' => e = .returned (.int .i64 (nat_ l p 2)) ∧ w = w' := by
  subst hP
  have hq : Rw w (some ⟨b, off + p, none⟩) ((l.drop p).take 2) := (hr.drop p (a' := some ⟨b, off + p, none⟩) (fun b' off' e _ => by injection e with e; injection e with e1 e2; subst e1 e2; rfl)).take 2
  have HN := Lib.hid (num_len (cap := cap - p) (v := nat_ l p 2) hq (m := 2) (by rw [List.length_take, List.length_drop]; omega) (by omega) rfl)
  have hu := nat_U (p := p) (n := 2) hr.1 (by omega)
  have hw : IntKind.i64.wrap (nat_ l p 2) = nat_ l p 2 := IntWalk.i64_in _ (by omega)
  have es : p + 2 - p = 2 := by omega
  have HES := Lib.hid es
  generalize nat_ l p 2 = x at HN hw ⊢
  have HX := Lib.hid hw
  clear hr hl hq hu es hw
  go_enter Try.func44, Try.ntmps44
  go_wp2_with fail
  rw [HES.out]
  refine HN.out.mono ?_
  rintro e w' ⟨rfl, rfl⟩
  go_wp2
  go_ret
  exact ⟨ret_i64 (by have := HX.out; rw [IntWalk.i64_left] at this; exact this), rfl⟩

end Go.Proofs.Ytladgfonkolpmaa
