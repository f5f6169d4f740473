/-
  The law SqueezeOpens, and the fixed calls of squeeze's laws.
-/
import Derived.Test.YtaohkakefdhecaaSqSqz
import Derived.Test.YtaohkakefdhecaaSqOpen
import Derived.Test.YtaohkakefdhecaaSqRefOpen
import Derived.Test.YtaohkakefdhecaaTagNum
namespace Go.Proofs.Ytaohkakefdhecaa
open Go.RowKit Go.Shelf Crcm Sqm Tagm Inom Roomm Go.ChangeShapes

theorem bonq {a b c : World} (h : Below a.heap.size a b) (k : Below b.heap.size b c) : Below a.heap.size a c := h.trans (k.mono h.size)
theorem Blk.rwq {W : World} {g : Nat} {l : List Int} (h : Blk W g 5 (l.map (Value.int .u8)).toArray) (hU : ∀ n ∈ l, U8 n) (hn : l.length ≤ maxLen) : Rw W (some ⟨g, 0, none⟩) l :=
  ⟨hU, hn, .inr ⟨g, 0, rfl, fun i hi => by
    have := h.cell (0 + i)
    rw [this]
    simp [hi]⟩⟩
/-- what an answer of Open holds -/
def Od (e : Ending) (w : World) (Y : List Int) (E : Int) : Prop := ∃ A cap, e = .returned (.tuple #[.slice A Y.length cap, .int .i64 E]) ∧ Rw w A Y
theorem nil_rw (w : World) : Rw w none [] := ⟨fun n hn => by simp at hn, by simp, .inl rfl⟩

set_option maxRecDepth 100000 in
theorem open_no (a : Option Addr) (m c : Nat) (most : Int) (w : World) (h : most < 0 ∨ 1048576 < most) :
    Calls Try.prog 13 #[.slice a m c, .int .i64 most] w fun e w' => Od e w' [] 1 ∧ Below w.heap.size w w' := by
  rcases h with h | h
  · have f0 : decide (most < 0) = true := by simp; omega
    go_enter Try.func13, Try.ntmps13
    go_wp2
    refine bodyPost_ret (v := .tuple #[.slice none 0 0, .int .i64 1]) (by simp [results, Try.results13, go_sem]) rfl ?_
    exact ⟨⟨none, 0, rfl, nil_rw _⟩, by repeat (first | exact Below.refl _ _ | refine Below.alloc ?_ (by (try simp) <;> omega) _ | refine Below.setCell ?_ (by (try simp) <;> omega) _)⟩
  · have f0 : decide (most < 0) = false := by simp; omega
    have f1 : decide (1048576 < most) = true := by simp; omega
    go_enter Try.func13, Try.ntmps13
    go_wp2
    refine bodyPost_ret (v := .tuple #[.slice none 0 0, .int .i64 1]) (by simp [results, Try.results13, go_sem]) rfl ?_
    exact ⟨⟨none, 0, rfl, nil_rw _⟩, by repeat (first | exact Below.refl _ _ | refine Below.alloc ?_ (by (try simp) <;> omega) _ | refine Below.setCell ?_ (by (try simp) <;> omega) _)⟩
set_option maxRecDepth 100000 in
theorem ropen_no (a : Option Addr) (m c : Nat) (most : Int) (w : World) (h : most < 0 ∨ 1048576 < most) :
    Calls Try.prog 14 #[.slice a m c, .int .i64 most] w fun e w' => Od e w' [] 1 ∧ Below w.heap.size w w' := by
  rcases h with h | h
  · have f0 : decide (most < 0) = true := by simp; omega
    go_enter Try.func14, Try.ntmps14
    go_wp2
    go_ret2
    exact ⟨⟨none, 0, rfl, nil_rw _⟩, by repeat (first | exact Below.refl _ _ | refine Below.alloc ?_ (by (try simp) <;> omega) _ | refine Below.setCell ?_ (by (try simp) <;> omega) _)⟩
  · have f0 : decide (most < 0) = false := by simp; omega
    have f1 : decide (1048576 < most) = true := by simp; omega
    go_enter Try.func14, Try.ntmps14
    go_wp2
    go_ret2
    exact ⟨⟨none, 0, rfl, nil_rw _⟩, by repeat (first | exact Below.refl _ _ | refine Below.alloc ?_ (by (try simp) <;> omega) _ | refine Below.setCell ?_ (by (try simp) <;> omega) _)⟩
theorem open_both (a : Option Addr) (m c : Nat) (most : Int) (l : List Int) (w : World) (hr : Rw w a l) (hl : l.length = m) (hmc : m ≤ c) (hc : c ≤ 9223372036854775807) (hm : m ≤ 70000) :
    ∃ (Y : List Int) (E : Int), (Calls Try.prog 13 #[.slice a m c, .int .i64 most] w fun e w' => Od e w' Y E ∧ Below w.heap.size w w') ∧
      ∀ w', Rw w' a l → Calls Try.prog 14 #[.slice a m c, .int .i64 most] w' fun e w'' => Od e w'' Y E ∧ Below w'.heap.size w' w'' := by
  by_cases h : most < 0 ∨ 1048576 < most
  · exact ⟨[], 1, open_no a m c most w h, fun w' _ => ropen_no a m c most w' h⟩
  · obtain ⟨M, rfl⟩ : ∃ M : Nat, most = M := ⟨most.toNat, by omega⟩
    refine ⟨oO l M, oE l M, (open_yes a m c M l w hr hl hmc hc (by omega)).mono ?_, fun w' hr' => (ropen_yes a m c M l w' hr' hl hmc (by omega) (by omega)).mono ?_⟩
    · rintro e w' ⟨⟨A, cap, rfl, -, hR⟩, hb⟩; exact ⟨⟨A, cap, rfl, hR⟩, hb⟩
    · rintro e w' ⟨⟨A, cap, rfl, -, hR⟩, hb⟩; exact ⟨⟨A, cap, rfl, hR⟩, hb⟩

set_option maxRecDepth 100000 in
theorem lng_any (a : Option Addr) (n c : Nat) (w : World) (hn : n ≤ maxLen) :
    Calls Try.prog 8 #[.slice a n c] w fun e w' => e = .returned (.bool (decide ((900 < n ∧ n ≤ 65536) ∨ 70000 < n))) ∧ w = w' := by
  unfold maxLen at hn
  rcases (by omega : n ≤ 900 ∨ (900 < n ∧ n ≤ 65536) ∨ (65536 < n ∧ n ≤ 70000) ∨ 70000 < n) with h | ⟨h, h2⟩ | ⟨h, h2⟩ | h
  · rw [decide_eq_false (by omega)]
    have f1 : decide ((70000 : Int) < (n : Int)) = false := by simp; omega
    go_enter Try.func8, Try.ntmps8
    go_wp2
    go_ret
    exact ⟨rfl, rfl⟩
  · rw [decide_eq_true (by omega)]
    have f1 : decide ((n : Int) ≤ 65536) = true := by simp; omega
    go_enter Try.func8, Try.ntmps8
    go_wp2
    go_ret
    exact ⟨rfl, rfl⟩
  · rw [decide_eq_false (by omega)]
    have h3 : 900 < n := by omega
    have f1 : decide ((n : Int) ≤ 65536) = false := by simp; omega
    have f2 : decide ((70000 : Int) < (n : Int)) = false := by simp; omega
    go_enter Try.func8, Try.ntmps8
    go_wp2
    go_ret
    exact ⟨rfl, rfl⟩
  · rw [decide_eq_true (by omega)]
    have h3 : 900 < n := by omega
    have h4 : 65536 < n := by omega
    have f1 : decide ((n : Int) ≤ 65536) = false := by simp; omega
    have f2 : decide ((70000 : Int) < (n : Int)) = true := by simp; omega
    go_enter Try.func8, Try.ntmps8
    go_wp2
    go_ret
    exact ⟨rfl, rfl⟩

theorem k_s : sqA [7, 7, 7, 7, 7, 7, 7, 7, 7] = [0, 7, 133, 1, 0] := by decide +kernel
theorem k_o : oE [128, 1, 0] 9 = 50 ∧ oE [1, 5, 5] 1 = 2 := by decide +kernel
theorem kU {l : List Int} (h : ∀ n ∈ l, 0 ≤ n ∧ n < 256) : ∀ n ∈ l, U8 n := fun n hn => by have := h n hn; unfold U8; omega

set_option maxRecDepth 100000 in
theorem ksqz (w : World) : Calls Try.prog 10 #[.slice (some ⟨w.heap.size, 0, none⟩) 9 9] (w.alloc (.cells #[.int .u8 7, .int .u8 7, .int .u8 7, .int .u8 7, .int .u8 7, .int .u8 7, .int .u8 7, .int .u8 7, .int .u8 7] 5)) fun e w' => (∃ A cap, e = .returned (.tuple #[.slice A 5 cap, .int .i64 0]) ∧ Rw w' A [0, 7, 133, 1, 0]) ∧ Below w.heap.size w w' := by
  refine (squeeze_yes (some ⟨w.heap.size, 0, none⟩) 9 9 [7, 7, 7, 7, 7, 7, 7, 7, 7] _ (Blk.rwq (Blk.new w _ _) (kU (by decide)) (by decide)) rfl (by decide) (by decide)).mono ?_
  rintro e w' ⟨⟨A, n, cap, rfl, ho⟩, hb⟩
  rw [k_s] at ho
  obtain ⟨A', cp', he, hRw, -, -⟩ := Rw.of_own ho (kU (by decide))
  injection he with e1 e2 e3
  subst e1 e3
  have hn : n = 5 := by have := ho.1; simpa using this.symm
  subst hn
  exact ⟨⟨A, cap, rfl, hRw⟩, ((Below.refl _ _).alloc (Nat.le_refl _) _).trans (hb.mono (by simp))⟩
theorem kopen (w : World) (x y z E : Int) (M : Nat) (hM : M ≤ 1048576) (hU : ∀ n ∈ [x, y, z], 0 ≤ n ∧ n < 256) (hE : oE [x, y, z] M = E) : Calls Try.prog 13 #[.slice (some ⟨w.heap.size, 0, none⟩) 3 3, .int .i64 (M : Int)] (w.alloc (.cells #[.int .u8 x, .int .u8 y, .int .u8 z] 5)) fun e w' => (∃ A n cap, e = .returned (.tuple #[.slice A n cap, .int .i64 E])) ∧ Below w.heap.size w w' := by
  refine (open_yes (some ⟨w.heap.size, 0, none⟩) 3 3 M [x, y, z] _ (Blk.rwq (Blk.new w _ _) (kU hU) (by simp [maxLen])) rfl (by decide) (by decide) hM).mono ?_
  rintro e w' ⟨⟨A, cap, rfl, -, -⟩, hb⟩
  rw [hE]
  exact ⟨⟨A, _, cap, rfl⟩, ((Below.refl _ _).alloc (Nat.le_refl _) _).trans (hb.mono (by simp))⟩

set_option maxRecDepth 100000 in
set_option maxHeartbeats 1000000 in
theorem known_any (w : World) :
    Calls Try.prog 9 #[] w fun e w' => e = .returned (.bool true) ∧ Below w.heap.size w w' := by
  go_enter Try.func9, Try.ntmps9
  go_wp2_with fail
  refine (ksqz w).mono ?_
  rintro e w1 ⟨⟨A, c, rfl, hA⟩, hb1⟩
  have HA := Lib.hid hA
  clear hA
  go_wp2_with fail
  refine (kopen w1 128 1 0 50 9 (by decide) (by decide) k_o.1).mono ?_
  rintro e w2 ⟨⟨B, nb, cb, rfl⟩, hb2⟩
  have HA2 := Lib.hid (HA.out.below hb2)
  have HB2 := Lib.hid (bonq hb1 hb2)
  clear hb1 hb2 HA
  go_wp2_with fail
  refine (kopen w2 1 5 5 2 1 (by decide) (by decide) k_o.2).mono ?_
  rintro e w3 ⟨⟨C, nc, cc, rfl⟩, hb3⟩
  have HA3 := Lib.hid (HA2.out.below hb3)
  have HB3 := Lib.hid (bonq HB2.out hb3)
  clear hb3 HA2 HB2
  go_wp2_with fail
  have hx := (Below.refl w3.heap.size w3).alloc (Nat.le_refl _) (.cells #[.int .u8 0, .int .u8 7, .int .u8 133, .int .u8 1, .int .u8 0] 5)
  have HS := same_any A (some ⟨w3.heap.size, 0, none⟩) c 5 5 5 [0, 7, 133, 1, 0] [0, 7, 133, 1, 0] _ (HA3.out.below hx) (Blk.rwq (Blk.new w3 _ _) (kU (by decide)) (by decide)) rfl rfl
  rw [decide_eq_true rfl] at HS
  refine HS.mono ?_
  rintro e w5 ⟨rfl, rfl⟩
  have HB5 := Lib.hid (bonq HB3.out hx)
  clear HS hx
  go_wp2
  go_ret
  exact ⟨rfl, HB5.out⟩

set_option maxRecDepth 100000 in
set_option maxHeartbeats 1000000 in
theorem squeezeOpens_walk (a : Option Addr) (len cap : Nat) (z : List Int) (most : Int) (w : World) (hz : Row8 w a len cap z) (_ : (Lit.int .i64 most).wf = true) :
    Calls Try.prog 4 #[.slice a len cap, .int .i64 most] w fun e w' => e = .returned (.bool true) ∧ Below w.heap.size w w' := by
  have hcap : cap ≤ 9223372036854775807 := by
    rcases hz with ⟨_, _, rfl, _⟩ | ⟨x, _, _, h, _⟩
    · omega
    · unfold maxLen at h; omega
  obtain ⟨l, hl, hc, hr, -⟩ := hz.rw
  have hn : len ≤ maxLen := by have := hr.2.1; omega
  have HG0 := lng_any a len cap w hn
  by_cases h : (900 < len ∧ len ≤ 65536) ∨ 70000 < len
  · rw [decide_eq_true h] at HG0
    have HG := Lib.hid HG0
    clear h hn HG0
    go_enter Try.func4, Try.ntmps4
    go_wp2_with fail
    refine HG.out.mono ?_
    rintro e w2 ⟨rfl, rfl⟩
    go_wp2_with fail
    refine (known_any w).mono ?_
    rintro e w2 ⟨rfl, hb⟩
    go_wp2
    go_ret
    exact ⟨rfl, hb⟩
  · rw [decide_eq_false h] at HG0
    have HG := Lib.hid HG0
    obtain ⟨Y, E, h1, h2⟩ := open_both a len cap most l w hr hl hc hcap (by omega)
    have H1 := Lib.hid h1
    have H2 := Lib.hid h2
    have HR := Lib.hid hr
    clear h hn h1 h2 hr HG0
    go_enter Try.func4, Try.ntmps4
    go_wp2_with fail
    refine HG.out.mono ?_
    rintro e w2 ⟨rfl, rfl⟩
    go_wp2_with fail
    refine H1.out.mono ?_
    rintro e w2 ⟨⟨A, c1, rfl, hA⟩, hb⟩
    have HA := Lib.hid hA
    clear hA
    go_wp2_with fail
    refine (H2.out w2 (HR.out.below hb)).mono ?_
    rintro e w3 ⟨⟨B, c2, rfl, hB⟩, hb3⟩
    have HS := Lib.hid (same_any A B c1 c2 _ _ Y Y w3 (HA.out.below hb3) hB rfl rfl)
    rw [decide_eq_true rfl] at HS
    have HB := Lib.hid (bonq hb hb3)
    clear hb hb3 hB HA
    go_wp2_with fail
    refine HS.out.mono ?_
    rintro e w4 ⟨rfl, rfl⟩
    go_wp2_with fail
    refine (known_any w3).mono ?_
    rintro e w4 ⟨rfl, hb4⟩
    go_wp2
    go_ret
    exact ⟨rfl, bonq HB.out hb4⟩
end Go.Proofs.Ytaohkakefdhecaa
