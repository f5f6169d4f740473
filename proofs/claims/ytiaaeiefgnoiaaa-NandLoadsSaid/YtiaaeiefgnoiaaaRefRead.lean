/-
  The document's chip in memory: a page is read.
-/
import Derived.Test.YtiaaeiefgnoiaaaRefDo
import Derived.Deep.RegionHeld3
namespace Go.Proofs.Ytiaaeiefgnoiaaa
open Go.RowKit Crcm Go.ChangeShapes

theorem Kp.of_two {F : Nat → Prop} {a b c : World} (h : Kp F a b) (hb : Below b.heap.size b c) : Kp F a c := h.trans (Kp.of_below hb)

theorem RcAt.page {w : World} {X : Nat → Prop} {o : Rb} {nb np sz : Nat} {dn : Bool} (h : RcAt w X o nb np sz dn) {i : Nat} (hi : i < nb * np) : ∃ A l c, w.cell? ⟨o.p, i, none⟩ = some (.slice A l.length c) ∧ l.length ≤ c ∧ RwX w X A l := by
  obtain ⟨cs, h1, -, h2⟩ := h.pages
  obtain ⟨v, g1, A, l, c, rfl, g2, g3⟩ := h2 i hi
  exact ⟨A, l, c, (h1.cell i).trans g1, g2, g3⟩
theorem page_ix {nb np k page : Nat} (hk : k < nb) (hp : page < np) : k * np + page < nb * np := by
  have : (k + 1) * np ≤ nb * np := Nat.mul_le_mul_right _ hk
  rw [Nat.succ_mul] at this
  omega

/-- the numbers with which a page is found -/
theorem page_no {nb np n q : Nat} (hn : n < nb) (hq : q < np) (hnb : nb < 129) (hnp : np < 33) :
    ∃ P N I : Nat, n * np = P ∧ nb * np = N ∧ n * np + q = I ∧ IntKind.i64.wrap ((n : Int) * (np : Int)) = (P : Int) ∧ IntKind.i64.wrap ((P : Int) + (q : Int)) = (I : Int) ∧ I < N ∧ N ≤ 4224 ∧ (0 : Int) ≤ (I : Int) ∧ (I : Int) < (N : Int) := by
  have h1 := page_ix hn hq
  have h2 : nb * np ≤ 128 * 33 := Nat.mul_le_mul (by omega) (by omega)
  refine ⟨n * np, nb * np, n * np + q, rfl, rfl, rfl, ?_, ?_, h1, by omega, by omega, by omega⟩
  · have e : (n : Int) * (np : Int) = ((n * np : Nat) : Int) := by push_cast; rfl
    rw [e]
    exact IntWalk.i64_in _ ⟨by omega, by omega⟩
  · have e : ((n * np : Nat) : Int) + (q : Int) = ((n * np + q : Nat) : Int) := by push_cast; rfl
    rw [e]
    exact IntWalk.i64_in _ ⟨by omega, by omega⟩

set_option maxRecDepth 100000 in
set_option maxHeartbeats 600000 in
theorem rread2_any {w : World} {X : Nat → Prop} {o : Rb} {nb np sz : Nat} {dn : Bool} (h : RcAt w X o nb np sz dn) (k page : Int) :
    Calls Try.prog 41 #[.pointer (some ⟨o.g, 0, none⟩), .int .i64 k, .int .i64 page] w fun e w' =>
      (∃ a c l r, e = .returned (.tuple #[.slice a l.length c, .int .i64 r]) ∧ l.length ≤ c ∧ Rw w' a l) ∧ RcAt w' X o nb np sz dn ∧ Kp o.F w w' := by
  have HP := Lib.hid (rplace_any h k page)
  by_cases hp : placeF nb np dn k page = 0
  · rw [hp] at HP
    obtain ⟨-, h0, h1, h2, h3⟩ := placeF_ok hp
    obtain ⟨n, rfl⟩ : ∃ n : Nat, k = n := ⟨k.toNat, by omega⟩
    obtain ⟨q, rfl⟩ : ∃ n : Nat, page = n := ⟨page.toNat, by omega⟩
    have hn : n < nb := by omega
    have hq : q < np := by omega
    have hix := page_ix hn hq
    have hnb : nb < 129 := h.good.2.1
    have hnp : np < 33 := h.good.2.2.2.1
    obtain ⟨_, _, _, _, rd, hb, -⟩ := h.chip
    have c12 := hb.cell 12
    simp [rcV] at c12
    have f12 := (h.froz 12).1
    have HR := Lib.hid (h.putr (wrap64 (rd + 1)))
    have HK := Lib.hid (kp_set (i := 12) (u := .int .i64 (wrap64 (rd + 1))) (q := o.g) (Kp.refl o.F w) (.inl rfl))
    clear hp hb
    go_enter Try.func41, Try.ntmps41
    go_wp2_with fail
    refine HP.out.mono ?_
    rintro e w' ⟨rfl, rfl⟩
    go_wp2_with fail
    generalize hW : w.setCell ⟨o.g, 12, none⟩ (.int .i64 (wrap64 (rd + 1))) = W at HR HK ⊢
    obtain ⟨A, l, c, cp, hlc, hrw⟩ := HR.out.page hix
    obtain ⟨g0, g1, -, -, -⟩ := HR.out.geo
    obtain ⟨r3, -⟩ := HR.out.rows
    obtain ⟨m, hm⟩ : ∃ m, l.length = m := ⟨_, rfl⟩
    rw [hm] at cp
    obtain ⟨P, N, I, hP, hN, hI, hPw, hIw, hIN, hN4, hi0, hi1⟩ := page_no hn hq hnb hnp
    rw [hN] at r3
    rw [hI] at cp
    have FF := Lib.hid (fun (w' : World) (hb : Below W.heap.size W w') => (rfull_any (HR.out.below hb) A m c l (hrw.1.below hb) hm).mono (fun e w1 (hh : _ ∧ Below w'.heap.size w' w1) =>
      (⟨(let ⟨g, c', h1, h2, h3, h4⟩ := hh.1; ⟨g, c', h1, h2, Nat.le_trans hb.size h3, h4⟩ : ∃ g c', e = .returned (.slice (some ⟨g, 0, none⟩) (sz + 32 : Nat) c') ∧ sz + 32 ≤ c' ∧ W.heap.size ≤ g ∧ Rw w1 (some ⟨g, 0, none⟩) (flF l (sz + 32))),
        ((hb.trans (hh.2.mono hb.size)).cell (block_lt_of_cell cp)).trans cp, ((hb.trans (hh.2.mono hb.size)).cell (block_lt_of_cell r3)).trans r3, ((hb.trans (hh.2.mono hb.size)).cell (block_lt_of_cell g1)).trans g1, hb.trans (hh.2.mono hb.size)⟩ :
        (∃ g c', e = .returned (.slice (some ⟨g, 0, none⟩) (sz + 32 : Nat) c') ∧ sz + 32 ≤ c' ∧ W.heap.size ≤ g ∧ Rw w1 (some ⟨g, 0, none⟩) (flF l (sz + 32))) ∧
        w1.cell? ⟨o.p, I, none⟩ = some (.slice A m c) ∧ w1.cell? ⟨o.g, 3, none⟩ = some (.slice (some ⟨o.p, 0, none⟩) N N) ∧ w1.cell? ⟨o.g, 1, none⟩ = some (.int .i64 np) ∧ Below W.heap.size W w1)))
    clear h0 h1 h2 h3 c12 f12 hP hN hrw hlc hm hW g0 hI hix
    go_region_held3 (fun w' => w'.cell? ⟨o.p, I, none⟩ = some (.slice A m c) ∧ w'.cell? ⟨o.g, 3, none⟩ = some (.slice (some ⟨o.p, 0, none⟩) N N) ∧ w'.cell? ⟨o.g, 1, none⟩ = some (.int .i64 np) ∧ Below W.heap.size W w')
      ((go_split_ands; refine ⟨?_, ?_, ?_, ?_⟩ <;> first | assumption | exact Below.drew (by assumption) | exact (Below.refl _ W).drew | go_keep))
      (first | (go_at_call 62; refine (FF.out _ ?_).mono ?_; (go_split_ands; assumption); rintro e w1 ⟨⟨gg, cc, rfl, hcc, hgg, hrr⟩, hk1, hk2, hk3, hb1⟩))
    clear hk1 hk2 hk3 hPw hIw hi0 hi1
    have HR2 := Lib.hid (HR.out.below hb1)
    have HK2 := Lib.hid (HK.out.of_two hb1)
    clear hb1
    go_wp2
    go_ret2
    exact ⟨⟨_, cc, flF l (sz + 32), 0, by rw [flF_len]; rfl, by rw [flF_len]; exact hcc, hrr⟩, HR2.out, HK2.out⟩
  · have H := Lib.hid h
    generalize placeF nb np dn k page = r at hp HP ⊢
    have q : (r != 0) = true := by simp [hp]
    clear h hp
    go_enter Try.func41, Try.ntmps41
    go_wp2_with fail
    refine HP.out.mono ?_
    rintro e w' ⟨rfl, rfl⟩
    go_wp2
    go_ret2
    exact ⟨⟨none, 0, [], r, rfl, Nat.le_refl _, Rw.nil⟩, H.out, Kp.refl _ _⟩

end Go.Proofs.Ytiaaeiefgnoiaaa
