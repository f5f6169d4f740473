/-
  Operations' bytes read, as the document tells it: a text with its length ahead. Nothing of one statement alone stands here.
-/
import Derived.Test.YtcpoicplhkkjnaaGreatHistQ
namespace Go.Proofs.YtcpoicplhkkjnaaGreat
open Go.RowKit Crcm Tagm Go.ChangeShapes

theorem midH (a : Option Addr) (n c i j : Nat) (hij : i ≤ j) (hj : j ≤ c) (W : World) : (Instr.slice 25 (.slice a n c) (some (.int .i64 i)) (some (.int .i64 j)) none).run Tryz.prog W = .ok (.slice (mv a c i) (j - i) (c - i)) W := by
  have elem8 : Tryz.prog.elem 25 = 5 := by simp [Program.elem, Tryz.underlying25]
  have he : Tryz.prog.underlying 25 = some (.slice (Tryz.prog.elem 25)) := by rw [elem8, Tryz.underlying25]
  rw [run_slice_lh W _ _ _ _ he .i64 .i64 _ _ (by omega) (by omega) (by omega), elem8, Tryz.sizeOf5]
  unfold mv
  rcases a with _ | ⟨b, off, sp⟩ <;> by_cases hne : c = i <;> simp [Result.andThen, sliced, hne, Addr.add] <;> omega

/-- a text at a place: its bytes, and where it ends -/
def txB (l : List Int) (i s : Nat) : Option (List Int × Nat) := if i + s ≤ l.length then (if i + s + (nu ((l.drop i).take s)).toNat ≤ l.length then some ((l.drop (i + s)).take (nu ((l.drop i).take s)).toNat, i + s + (nu ((l.drop i).take s)).toNat) else none) else none
/-- it is what the reader takes -/
theorem txB_ct (l : List Int) (i s : Nat) (hi : i ≤ l.length) : (∀ b j, txB l i s = some (b, j) → j ≤ l.length ∧ i ≤ j ∧ ctB s (l.drop i) = some (b, l.drop j)) ∧ (txB l i s = none → ctB s (l.drop i) = none) := by
  unfold txB ctB nmB
  by_cases h1 : i + s ≤ l.length
  · have h1' : s ≤ (l.drop i).length := by rw [List.length_drop]; omega
    rw [if_pos h1, if_pos h1', Option.bind_some]
    unfold tkB
    dsimp only
    rw [List.drop_drop]
    by_cases h2 : i + s + (nu ((l.drop i).take s)).toNat ≤ l.length
    · have h2' : (nu ((l.drop i).take s)).toNat ≤ (l.drop (i + s)).length := by rw [List.length_drop]; omega
      rw [if_pos h2, if_pos h2']
      refine ⟨fun b j g => ?_, fun g => (by cases g)⟩
      obtain ⟨rfl, rfl⟩ := Prod.mk.inj (Option.some.inj g)
      exact ⟨h2, by omega, by rw [List.drop_drop]⟩
    · have h2' : ¬ (nu ((l.drop i).take s)).toNat ≤ (l.drop (i + s)).length := by rw [List.length_drop]; omega
      rw [if_neg h2, if_neg h2']
      exact ⟨fun b j g => (by cases g), fun _ => rfl⟩
  · have h1' : ¬ s ≤ (l.drop i).length := by rw [List.length_drop]; omega
    rw [if_neg h1, if_neg h1']
    exact ⟨fun b j g => (by cases g), fun _ => rfl⟩

/-- what taking a text comes to -/
def TxP (w : World) (a : Option Addr) (l : List Int) (i s : Nat) (e : Ending) (w' : World) : Prop :=
  (∀ b j, txB l i s = some (b, j) → ∃ A c, e = .returned (.tuple #[.slice A b.length c, .int .i64 j]) ∧ b.length ≤ c ∧ Rw w A b ∧ ∀ W, Rw W a l → Rw W A b) ∧ (txB l i s = none → e = .returned (.tuple #[.slice none 0 0, .int .i64 (-1)])) ∧ w = w'

set_option maxRecDepth 100000 in
set_option maxHeartbeats 2000000 in
theorem rtext_neg (a : Option Addr) (n c : Nat) (s : Nat) (w : World) : Calls Tryz.prog 52 #[.slice a n c, .int .i64 (-1), .int .i64 s] w fun e w' => e = .returned (.tuple #[.slice none 0 0, .int .i64 (-1)]) ∧ w = w' := by
  go_enter Tryz.func52, Tryz.ntmps52
  go_wp2
  go_ret2
  exact ⟨rfl, rfl⟩
set_option maxRecDepth 100000 in
set_option maxHeartbeats 2000000 in
theorem rtext_any (a : Option Addr) (n c : Nat) (l : List Int) (i s : Nat) (w : World) (hr : Rw w a l) (hl : l.length = n) (hc : n ≤ c) (hn : n ≤ 9000000) (hs : s ≤ 2) (hi : i ≤ 9000020) :
    Calls Tryz.prog 52 #[.slice a n c, .int .i64 i, .int .i64 s] w (TxP w a l i s) := by
  have e0 : IntKind.i64.wrap ((i : Int) + s) = (((i + s : Nat)) : Int) := (IntWalk.i64_in _ (by omega)).trans (by omega)
  have g0 : ¬ (i : Int) < 0 := by omega
  by_cases h1 : i + s ≤ n
  case neg =>
    have t1 : (n : Int) < ((i + s : Nat) : Int) := by omega
    have HNo : Hid (txB l i s = none) := Lib.hid (by unfold txB; rw [if_neg (by omega)])
    clear hr hl hc hn hs hi h1
    go_enter Tryz.func52, Tryz.ntmps52
    generalize i + s = is at *
    go_wp2_with fail
    go_ret2
    exact ⟨fun b j g => (by rw [HNo.out] at g; cases g), fun _ => rfl, rfl⟩
  have t1 : ¬ (n : Int) < ((i + s : Nat) : Int) := by omega
  have e1 := midH a n c i (i + s) (by omega) (by omega)
  rw [show i + s - i = s by omega] at e1
  have hcut : ((l.drop i).take s).length = s := by rw [List.length_take, List.length_drop]; omega
  have HNu := Lib.hid (num_any (mv a c i) (c - i) ((l.drop i).take s) w ((hr.mv i c (by omega)).take s) (by omega))
  rw [hcut] at HNu
  have hsm := nu_small (l := l.drop i) (fun x hx => hr.1 x (List.mem_of_mem_drop hx)) (n := s) hs
  obtain ⟨z, hz⟩ : ∃ z : Nat, nu ((l.drop i).take s) = z := ⟨(nu ((l.drop i).take s)).toNat, by omega⟩
  rw [hz] at HNu hsm
  have eZ : IntKind.i64.wrap (z : Int) = (z : Int) := IntWalk.i64_in _ (by omega)
  have eS : IntKind.i64.wrap (((i + s : Nat) : Int) + z) = ((i + s + z : Nat) : Int) := (IntWalk.i64_in _ (by omega)).trans (by omega)
  by_cases h2 : i + s + z ≤ n
  case neg =>
    have t2 : (n : Int) < ((i + s + z : Nat) : Int) := by omega
    have HNo : Hid (txB l i s = none) := Lib.hid (by unfold txB; rw [if_pos (by omega), hz, Int.toNat_natCast, if_neg (by omega)])
    clear hr hl hc hn hs hi h1 h2 hcut hsm hz
    go_enter Tryz.func52, Tryz.ntmps52
    generalize i + s + z = iz at *
    generalize i + s = is at *
    go_wp2_with fail
    refine HNu.out.mono ?_
    rintro e w' ⟨rfl, rfl⟩
    go_wp2_with fail
    go_ret2
    exact ⟨fun b j g => (by rw [HNo.out] at g; cases g), fun _ => rfl, rfl⟩
  have t2 : ¬ (n : Int) < ((i + s + z : Nat) : Int) := by omega
  have e2 := midH a n c (i + s) (i + s + z) (by omega) (by omega)
  rw [show i + s + z - (i + s) = z by omega] at e2
  have hb : ((l.drop (i + s)).take z).length = z := by rw [List.length_take, List.length_drop]; omega
  have HYe : Hid (txB l i s = some ((l.drop (i + s)).take z, i + s + z)) := Lib.hid (by unfold txB; rw [if_pos (by omega), hz, Int.toNat_natCast, if_pos (by omega)])
  have HRb : Hid (z ≤ c - (i + s) ∧ Rw w (mv a c (i + s)) ((l.drop (i + s)).take z) ∧ ∀ W, Rw W a l → Rw W (mv a c (i + s)) ((l.drop (i + s)).take z)) := Lib.hid ⟨by omega, (hr.mv (i + s) c (by omega)).take z, fun W h => (h.mv (i + s) c (by omega)).take z⟩
  have HBl := Lib.hid hb
  generalize (l.drop (i + s)).take z = bb at HYe HRb HBl
  generalize mv a c (i + s) = A at e2 HRb
  generalize c - (i + s) = cA at e2 HRb
  generalize mv a c i = A1 at e1 HNu
  generalize c - i = c1 at e1 HNu
  clear hr hl hc hn hs hi h1 h2 hcut hsm hz hb
  go_enter Tryz.func52, Tryz.ntmps52
  generalize i + s + z = iz at *
  generalize i + s = is at *
  go_wp2_with fail
  refine HNu.out.mono ?_
  rintro e w' ⟨rfl, rfl⟩
  go_wp2_with fail
  go_ret2
  refine ⟨fun b j g => ?_, fun g => (by rw [HYe.out] at g; cases g), rfl⟩
  obtain ⟨rfl, rfl⟩ := Prod.mk.inj (Option.some.inj (HYe.out.symm.trans g))
  exact ⟨A, cA, by rw [HBl.out]; rfl, by rw [HBl.out]; exact HRb.out.1, HRb.out.2⟩

end Go.Proofs.YtcpoicplhkkjnaaGreat
