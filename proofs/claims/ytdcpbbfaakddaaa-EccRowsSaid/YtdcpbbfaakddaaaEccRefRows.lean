/-
  The document's blocks and codes of rows.
-/
import Derived.Test.YtdcpbbfaakddaaaEccLawA
import Derived.Test.YtdcpbbfaakddaaaEccRowsM
import Derived.Test.YtdcpbbfaakddaaaEccRowQ
namespace Go.Proofs.Ytdcpbbfaakddaaa
open Go.RowKit Crcm Tagm Eccm Go.ChangeShapes

theorem Try.infoSl : (Try.prog.info? 22).map (fun i => (i.zero, i.size, i.bytes)) = some (some (.slice none 0 0), 1, 24) := by kernel_rfl

/-- the block i, as the document hands it on -/
def rsl (b off L c n i : Nat) : Value := .slice (some ⟨b, off + i * n, none⟩) (bln L n i) (c - i * n)
def rsls (b off L c n k : Nat) : List Value := (List.range k).map (rsl b off L c n)
theorem rsls_succ (b off L c n k : Nat) : rsls b off L c n (k + 1) = rsls b off L c n k ++ [rsl b off L c n k] := by unfold rsls; rw [List.range_succ, List.map_append]; rfl
theorem rsls_get {b off L c n k i : Nat} (h : i < k) : (rsls b off L c n k)[i]? = some (rsl b off L c n i) := by simp [rsls, h]
theorem nbk_at {L n k : Nat} (hn : 1 ≤ n) (h1 : k * n < L) (h2 : L - k * n ≤ n) : nbk L n = k + 1 := by
  have a := (nbk_lt hn (L := L) (i := k)).2 h1
  have b : ¬ (k + 1) * n < L := by rw [Nat.add_mul]; omega
  have c : ¬ (k + 1 < nbk L n) := fun h => b ((nbk_lt hn (L := L) (i := k + 1)).1 h)
  omega

set_option maxRecDepth 100000 in
set_option maxHeartbeats 1000000 in
theorem blocks_any (b off : Nat) (a : Option Addr) (L c n : Nat) (w : World) (ha : L = 0 ∨ a = some ⟨b, off, none⟩) (hL : L ≤ 900) (hLc : L ≤ c) (hc : c ≤ 9223372036854775807) (h1 : 1 ≤ n) (h2 : n ≤ 4096) :
    Calls Try.prog 35 #[.slice a L c, .int .i64 n] w fun e w' => (∃ v, e = .returned v ∧ w'.ownsRow w.heap.size 22 1 v (nbk L n) (rsls b off L c n (nbk L n))) ∧ Below w.heap.size w w' := by
  obtain ⟨i0, hi, hz0, hz1, hz2⟩ := info_parts Try.infoSl
  rcases Nat.eq_zero_or_pos L with rfl | hpos
  · have e0 : nbk 0 n = 0 := by unfold nbk; exact Nat.div_eq_of_lt (by omega)
    rw [e0]
    go_enter Try.func35, Try.ntmps35
    go_wp2_with fail
    go_loopw [0, 5] (fun x v wr => x = .slice a 0 c ∧ v = .slice none 0 0 ∧ Hid (w = wr)) (fun _ _ _ => 0)
    case atStart => exact ⟨rfl, rfl, Lib.hid rfl⟩
    case round =>
      obtain ⟨rfl, rfl, hw⟩ := hrel
      obtain rfl := hw.out
      have t : decide ((n : Int) < 0) = false := by simp
      go_wp2
      go_ret
      exact ⟨⟨.slice none 0 0, rfl, World.ownsRow_nil _ _ _ _⟩, Below.refl _ _⟩
  · have ha' : a = some ⟨b, off, none⟩ := by rcases ha with h | h; omega; exact h
    subst ha'
    go_enter Try.func35, Try.ntmps35
    go_wp2_with fail
    go_loopw [0, 5] (fun x v wr => ∃ k p : Nat, Hid (p = k * n) ∧ p < L ∧ k ≤ p ∧ x = .slice (some ⟨b, off + p, none⟩) (L - p) (c - p) ∧ Hid (wr.ownsRow w.heap.size 22 1 v k (rsls b off L c n k)) ∧ Hid (Below w.heap.size w wr)) (fun x _ _ => match x with | .slice _ m _ => m | _ => 0)
    case atStart => exact ⟨0, 0, Lib.hid (by omega), hpos, by omega, rfl, Lib.hid (World.ownsRow_nil _ _ _ _), Lib.hid (Below.refl _ _)⟩
    case round =>
      obtain ⟨k, p, hp, hpL, hkp, rfl, hO, hB⟩ := hrel
      by_cases hlt : n < L - p
      · have hs := hB.out.size
        have t : decide ((n : Int) < ((L - p : Nat) : Int)) = true := by simp; omega
        have hx : rsl b off L c n k = .slice (some ⟨b, off + p, none⟩) n (c - p) := by
          have h := hp.out
          unfold rsl bln; rw [if_neg (by omega), h]
        go_wp2_with (at_builtin; refine wpList_append_own _ rfl _ _ 64 rfl w.heap.size 22 i0 (.slice none 0 0) 1 24 Try.underlying64 hi hz0 hz1 hz2 rfl (by decide) _ _ _ rfl (hO.out.alloc _) ⟨wr.heap.size, 0, none⟩ 1 1 [.slice (some ⟨b, off + p, none⟩) n (c - p)] rfl rfl ?c1 ?c2 ?c3 ?c4 ?c5 ?_)
        case c1 => exact cell_one_new _ _ _
        case c2 => intro u hu; simp at hu; subst hu; rfl
        case c3 => unfold maxLen; omega
        case c4 => omega
        case c5 => simp; omega
        intro v' w1 hown1 hgrow _
        have hb1 : Below w.heap.size w w1 := (hB.out.alloc hs _).grown hgrow (by simp; omega) (fun g hg => (hO.out.lt g hg).1)
        rw [← hx, ← rsls_succ] at hown1
        have HO1 := Lib.hid hown1
        have HP : Hid (p + n = (k + 1) * n) := Lib.hid (by rw [hp.out, Nat.add_mul, Nat.one_mul])
        have hnc : n < c - p := by omega
        have hnz : ((c - p : Nat) : Int) - (n : Int) = ((c - (p + n) : Nat) : Int) := by omega
        clear hown1 hgrow hx hO
        go_wp2
        go_roundw
        case rel => exact ⟨k + 1, p + n, HP, by omega, by omega, by go_num, HO1, Lib.hid hb1⟩
        case measure => simp; omega
      · have t : decide ((n : Int) < ((L - p : Nat) : Int)) = false := by simp; omega
        have t2 : decide ((0 : Int) < ((L - p : Nat) : Int)) = true := by simp; omega
        have hs := hB.out.size
        have hN : nbk L n = k + 1 := by have h := hp.out; exact nbk_at h1 (by omega) (by omega)
        have hx : rsl b off L c n k = .slice (some ⟨b, off + p, none⟩) (L - p) (c - p) := by
          have h := hp.out
          unfold rsl bln
          rw [← h]
          split
          · rfl
          · rw [show n = L - p by omega]
        go_wp2_with (at_builtin; refine wpList_append_own _ rfl _ _ 64 rfl w.heap.size 22 i0 (.slice none 0 0) 1 24 Try.underlying64 hi hz0 hz1 hz2 rfl (by decide) _ _ _ rfl (hO.out.alloc _) ⟨wr.heap.size, 0, none⟩ 1 1 [.slice (some ⟨b, off + p, none⟩) (L - p) (c - p)] rfl rfl ?d1 ?d2 ?d3 ?d4 ?d5 ?_)
        case d1 => exact cell_one_new _ _ _
        case d2 => intro u hu; simp at hu; subst hu; rfl
        case d3 => unfold maxLen; omega
        case d4 => omega
        case d5 => simp; omega
        intro v' w1 hown1 hgrow _
        have hb1 : Below w.heap.size w w1 := (hB.out.alloc hs _).grown hgrow (by simp; omega) (fun g hg => (hO.out.lt g hg).1)
        rw [← hx, ← rsls_succ] at hown1
        have HO1 := Lib.hid hown1
        have HN := Lib.hid hN
        clear hown1 hgrow hx hO hN
        go_wp2
        go_ret
        exact ⟨⟨v', rfl, by rw [HN.out]; exact HO1.out⟩, hb1⟩

theorem rcodes_no (a : Option Addr) (L c : Nat) (N : Int) (w : World) (hL : L ≤ maxLen) (h : ¬ (1 ≤ N ∧ N ≤ 4096 ∧ L ≤ 65536)) :
    Calls Try.prog 17 #[.slice a L c, .int .i64 N] w fun e w' => e = .returned (.tuple #[.slice none 0 0, .int .i64 1]) ∧ w = w' := by
  unfold maxLen at hL
  by_cases h1 : 1 ≤ N
  · by_cases h2 : N ≤ 4096
    · have h3 : decide ((65536 : Int) < (L : Int)) = true := by simp; omega
      have h4 : decide (N < 1) = false := by simp; omega
      have h5 : decide ((4096 : Int) < N) = false := by simp; omega
      clear h
      go_enter Try.func17, Try.ntmps17
      go_wp2
      go_ret2
      exact ⟨rfl, rfl⟩
    · have h4 : decide (N < 1) = false := by simp; omega
      have h5 : decide ((4096 : Int) < N) = true := by simp; omega
      clear h
      go_enter Try.func17, Try.ntmps17
      go_wp2
      go_ret2
      exact ⟨rfl, rfl⟩
  · have h4 : decide (N < 1) = true := by simp; omega
    clear h
    go_enter Try.func17, Try.ntmps17
    go_wp2
    go_ret2
    exact ⟨rfl, rfl⟩

theorem cl_range (l : List Int) (n k : Nat) : cl l n (List.range (k + 1)) = cl l n (List.range k) ++ le 4 (cb (ck l n k)) := by rw [List.range_succ, cl_snoc]

set_option maxRecDepth 100000 in
set_option maxHeartbeats 1000000 in
theorem rcodes_yes (b off : Nat) (a : Option Addr) (L c n : Nat) (l : List Int) (w : World) (hr : Rw w a l) (hl : l.length = L) (ha : L = 0 ∨ a = some ⟨b, off, none⟩) (hL : L ≤ 900) (hLc : L ≤ c) (hc : c ≤ 9223372036854775807) (h1 : 1 ≤ n) (h2 : n ≤ 4096) :
    Calls Try.prog 17 #[.slice a L c, .int .i64 n] w fun e w' => (∃ A cap, e = .returned (.tuple #[.slice A (4 * nbk L n) cap, .int .i64 0]) ∧ Rw w' A (cl l n (List.range (nbk L n)))) ∧ Below w.heap.size w w' := by
  have HB := Lib.hid (blocks_any b off a L c n w ha hL hLc hc h1 h2)
  have hb : nbk L n ≤ L := by
    unfold nbk
    rw [Nat.div_le_iff_le_mul_add_pred (by omega)]
    have : L ≤ n * L := Nat.le_mul_of_pos_left L (by omega)
    omega
  have f1 : decide ((65536 : Int) < (L : Int)) = false := by simp; omega
  have f2 : decide ((n : Int) < 1) = false := by simp; omega
  have f3 : decide ((4096 : Int) < (n : Int)) = false := by simp; omega
  have HCK := Lib.hid fun (W : World) (h : Below w.heap.size w W) (i : Nat) (hi : i < nbk L n) => rcode_yes b (off + i * n) (bln L n i) (c - i * n) (ck l n i) W (ck_rw (hr.below h) (hl ▸ ha)) (ck_length hl) (bln_pos h1 ((nbk_lt h1).1 hi)).1 (Nat.le_trans (bln_pos h1 ((nbk_lt h1).1 hi)).2.1 h2)
  have HCB : Hid (∀ i, cb (ck l n i) < 131072) := Lib.hid fun i => cb_lt (by rw [ck_length hl]; split <;> omega)
  obtain ⟨M, hM⟩ : ∃ M, nbk L n = M := ⟨_, rfl⟩
  rw [hM] at HB HCK hb ⊢
  have hM9 : M ≤ 900 := by omega
  clear hM hb hr ha
  go_enter Try.func17, Try.ntmps17
  go_wp2_with fail
  refine HB.out.mono ?_
  rintro e w1 ⟨⟨v, rfl, hO⟩, hB1⟩
  obtain ⟨A0, c0, rfl⟩ : ∃ A0 c0, v = .slice A0 M c0 := by
    rcases hO.2 with ⟨rfl, hh⟩ | ⟨g, cap, cur, rfl, _⟩
    · have := hO.1; rw [hh] at this; simp [rsls] at this
      have hM0 : M = 0 := by rw [hh] at hO; have := hO.1; simp at this; omega
      subst hM0
      exact ⟨none, 0, rfl⟩
    · exact ⟨_, cap, rfl⟩
  have HO := Lib.hid hO
  have HB1 := Lib.hid hB1
  clear hO hB1
  go_wp2_with fail
  go_loopw [6, 8] (fun v i wr => ∃ k : Nat, k ≤ M ∧ i = .int .i64 k ∧ ∃ A cp, v = .slice A (4 * k) cp ∧ Hid (wr.ownsRow w1.heap.size 5 1 (.slice A (4 * k) cp) (4 * k) ((cl l n (List.range k)).map (Value.int .u8))) ∧ Hid (Below w1.heap.size w1 wr)) (fun _ i _ => M - (intOf i).toNat)
  case atStart => exact ⟨0, by omega, rfl, none, 0, rfl, Lib.hid (World.ownsRow_nil _ _ _ _), Lib.hid (Below.refl _ _)⟩
  case round =>
    obtain ⟨k, hk, rfl, A, cp, rfl, hOw, hB⟩ := hrel
    by_cases hlt : k < M
    · obtain ⟨g, cg, he, -, -⟩ := own_shape HO.out (by omega)
      injection he with e1 e2 e3
      subst e1 e3
      have hcell : wr.cell? ⟨g, k, none⟩ = some (rsl b off L c n k) := by
        have h := (own_below HO.out hB.out).cellAt k (by omega)
        rw [h, rsls_get hlt]
      have HC := Lib.hid (HCK.out wr (bon HB1.out hB.out) k hlt)
      have hcb := HCB.out k
      have HX := Lib.hid (cl_range l n k)
      unfold rsl at hcell
      generalize cb (ck l n k) = D at HC hcb HX
      have HG := Lib.hid fun w' => big_any (D : Int) 4 w' ⟨by omega, by omega⟩ (by decide)
      have hD62 : (D : Int) ≤ 4611686018427387903 := by omega
      have hs1 := HB1.out.size
      clear hcb
      go_wp2_with fail
      refine HC.out.mono ?_
      rintro e w2 ⟨rfl, hb2⟩
      go_wp2_with fail
      refine (HG.out w2).mono ?_
      rintro e w3 ⟨A3, c3, rfl, hR3, hb3⟩
      have hBB := bon hB.out (bon hb2 hb3)
      have hOw3 := Lib.hid (own_below hOw.out (bon hb2 hb3))
      have HS3 := Lib.hid hR3.src
      have HBB := Lib.hid hBB
      have hsz3 := hBB.size
      clear hR3 hb2 hb3 hBB
      go_wp2_with (at_builtin; refine append_bytes rfl _ _ rfl w1.heap.size (.slice A (4 * k) cp) (4 * k) _ rfl hOw3.out A3 4 c3 (le 4 (D : Int)) rfl (le_length _ _) HS3.out (by omega) (by omega) ?_)
      intro v4 w4 hown4 hb4
      obtain ⟨A4, c4, rfl⟩ := own_form8 hown4
      rw [← List.map_append, ← HX.out] at hown4
      have HO4 := Lib.hid hown4
      have HB4 := Lib.hid (HBB.out.trans hb4)
      clear hown4 hb4
      go_wp2
      go_roundw
      case rel => exact ⟨k + 1, by omega, by go_num, A4, c4, by rw [Nat.mul_add], by rw [show 4 * (k + 1) = 4 * k + 4 by omega]; exact HO4, HB4⟩
      case measure => simp [intOf]; omega
    · have hkM : k = M := by omega
      subst hkM
      go_wp2
      go_ret2
      obtain ⟨A2, c2, he, hR, -, -⟩ := Rw.of_own hOw.out (cl_U8 l n _)
      injection he with e1 e2 e3
      subst e1 e3
      exact ⟨⟨_, _, rfl, hR⟩, bon HB1.out hB.out⟩
end Go.Proofs.Ytdcpbbfaakddaaa
