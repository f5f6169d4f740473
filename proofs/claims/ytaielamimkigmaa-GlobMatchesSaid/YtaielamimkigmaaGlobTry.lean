/-
  A row that is laid over places: the program's closure that calls itself.
-/
import Derived.Test.YtaielamimkigmaaGlobMemo
namespace Go.Proofs.Ytaielamimkigmaa
open Go.RowKit Go.ChangeShapes Globm Go.ChangeMaps

/-- a row of pieces as its function values tell of it, in each world that is later than w -/
structure RowOn {α : Type} (f1 f2 f3 : Nat) (c1 c2 c3 : Array Value) (l : List (Mk α)) (s : List α) (bey : Nat → Bool) (w : World) : Prop where
  run : ∀ (W : World) (i : Nat) (x : Mk α), l[i]? = some x → Below w.heap.size w W → Calls Try.prog f1 (#[.int .i64 i] ++ c1) W fun e w' => e = .returned (.bool x.run) ∧ Below W.heap.size W w'
  fits : ∀ (W : World) (i k : Nat) (S : α → Bool) (x : α), l[i]? = some (.one S) → s[k]? = some x → Below w.heap.size w W → Calls Try.prog f2 (#[.int .i64 i, .int .i64 k] ++ c2) W fun e w' => e = .returned (.bool (S x)) ∧ Below W.heap.size W w'
  beyond : ∀ (W : World) (i : Nat) (S : α → Bool), l[i]? = some (.one S) → Below w.heap.size w W → Calls Try.prog f3 (#[.int .i64 i] ++ c3) W fun e w' => e = .returned (.bool (bey i)) ∧ Below W.heap.size W w'
  e1 : ∀ args w, (callFunc f1 args).run Try.prog w = .ok (.enter f1 args) w
  e2 : ∀ args w, (callFunc f2 args).run Try.prog w = .ok (.enter f2 args) w
  e3 : ∀ args w, (callFunc f3 args).run Try.prog w = .ok (.enter f3 args) w

/-- what the pieces from i on over the places from k on come to -/
def cv {α : Type} (l : List (Mk α)) (s : List α) (bey : Nat → Bool) (i k : Nat) : Bool := cov l s bey (l.length - i) k
def rn {α : Type} (l : List (Mk α)) (i : Nat) : Bool := match l[i]? with | some x => x.run | none => false

/-- the world while the closure is at work: G is where the row lies -/
structure TW {α : Type} (f1 f2 f3 : Nat) (c1 c2 c3 : Array Value) (l : List (Mk α)) (s : List α) (bey : Nat → Bool) (w W : World) (G : Nat) : Prop where
  hb : Below w.heap.size w W
  le : w.heap.size ≤ G
  row : Blk W G 81 #[.int .i64 l.length, .int .i64 s.length, .func (.func f1) #[] c1, .func (.func f2) #[] c2, .func (.func f3) #[] c3]
  vn : Vn W (G + 1) l.length (rn l) (cv l s bey)
  vv : Blk W (G + 2) 99 #[.map (some (G + 1))]
  fv : Blk W (G + 3) 79 #[.func (.func 60) #[] #[.pointer (some ⟨G, 0, none⟩), .pointer (some ⟨G + 2, 0, none⟩), .pointer (some ⟨G + 3, 0, none⟩)]]
theorem TW.below {α : Type} {f1 f2 f3 : Nat} {c1 c2 c3 : Array Value} {l : List (Mk α)} {s : List α} {bey : Nat → Bool} {w W W' : World} {G : Nat} (h : TW f1 f2 f3 c1 c2 c3 l s bey w W G) (hb : Below W.heap.size W W') : TW f1 f2 f3 c1 c2 c3 l s bey w W' G :=
  ⟨h.hb.trans (hb.mono h.hb.size), h.le, h.row.below hb h.row.lt, h.vn.below hb, h.vv.below hb h.vv.lt, h.fv.below hb h.fv.lt⟩

theorem TW.cells {α : Type} {f1 f2 f3 : Nat} {c1 c2 c3 : Array Value} {l : List (Mk α)} {s : List α} {bey : Nat → Bool} {w W : World} {G N M : Nat} (h : TW f1 f2 f3 c1 c2 c3 l s bey w W G) (hN : l.length = N) (hM : s.length = M) :
    W.cell? ⟨G, 0, none⟩ = some (.int .i64 N) ∧ W.cell? ⟨G, 1, none⟩ = some (.int .i64 M) ∧ W.cell? ⟨G, 2, none⟩ = some (.func (.func f1) #[] c1) ∧ W.cell? ⟨G, 3, none⟩ = some (.func (.func f2) #[] c2) ∧ W.cell? ⟨G, 4, none⟩ = some (.func (.func f3) #[] c3) ∧
    W.cell? ⟨G + 2, 0, none⟩ = some (.map (some (G + 1))) ∧ W.cell? ⟨G + 3, 0, none⟩ = some (.func (.func 60) #[] #[.pointer (some ⟨G, 0, none⟩), .pointer (some ⟨G + 2, 0, none⟩), .pointer (some ⟨G + 3, 0, none⟩)]) := by
  subst hN; subst hM
  exact ⟨h.row.cell 0, h.row.cell 1, h.row.cell 2, h.row.cell 3, h.row.cell 4, h.vv.cell 0, h.fv.cell 0⟩

theorem cv_end {α : Type} (l : List (Mk α)) (s : List α) (bey : Nat → Bool) (k : Nat) : cv l s bey l.length k = (k == s.length) := by unfold cv; rw [Nat.sub_self]; rfl
theorem cv_many {α : Type} {l : List (Mk α)} {s : List α} {bey : Nat → Bool} {i k : Nat} (h : l[i]? = some .many) : cv l s bey i k = (List.range (s.length + 1 - k)).any (fun d => cv l s bey (i + 1) (k + d)) := by
  have hi := (List.getElem?_eq_some_iff.1 h).1
  unfold cv
  rw [show l.length - i = (l.length - (i + 1)) + 1 by omega]
  exact cov_many (by rw [show l.length - (l.length - (i + 1) + 1) = i by omega]; exact h)
theorem cv_vain {α : Type} {l : List (Mk α)} {s : List α} {bey : Nat → Bool} {i k k' : Nat} (h : l[i]? = some .many) (hf : cv l s bey i k = false) (hk : k ≤ k') : cv l s bey i k' = false := by
  have hi := (List.getElem?_eq_some_iff.1 h).1
  unfold cv at hf ⊢
  rw [show l.length - i = (l.length - (i + 1)) + 1 by omega] at hf ⊢
  exact cov_vain (by rw [show l.length - (l.length - (i + 1) + 1) = i by omega]; exact h) hf hk
theorem cv_last {α : Type} {l : List (Mk α)} {s : List α} {bey : Nat → Bool} {i : Nat} {S : α → Bool} (h : l[i]? = some (.one S)) : cv l s bey i s.length = bey i := by
  have hi := (List.getElem?_eq_some_iff.1 h).1
  unfold cv
  have e : l.length - (l.length - (i + 1) + 1) = i := by omega
  rw [show l.length - i = (l.length - (i + 1)) + 1 by omega, cov_one (by rw [e]; exact h), e]
  simp
theorem cv_one {α : Type} {l : List (Mk α)} {s : List α} {bey : Nat → Bool} {i k : Nat} {S : α → Bool} {x : α} (h : l[i]? = some (.one S)) (hx : s[k]? = some x) : cv l s bey i k = (S x && cv l s bey (i + 1) (k + 1)) := by
  have hi := (List.getElem?_eq_some_iff.1 h).1
  unfold cv
  have e : l.length - (l.length - (i + 1) + 1) = i := by omega
  rw [show l.length - i = (l.length - (i + 1)) + 1 by omega, cov_one (by rw [e]; exact h), hx]

set_option maxRecDepth 100000 in
set_option maxHeartbeats 2000000 in
theorem try_any {α : Type} (f1 f2 f3 : Nat) (c1 c2 c3 : Array Value) (l : List (Mk α)) (s : List α) (bey : Nat → Bool) (w : World) (hR : RowOn f1 f2 f3 c1 c2 c3 l s bey w) (N M : Nat) (hN : l.length = N) (hM : s.length = M) (n1 : N ≤ 100000) (m1 : M ≤ 100000) (G : Nat) :
    ∀ r, ∀ (i k : Nat) (W : World), N < i + r → i ≤ N → k ≤ M → TW f1 f2 f3 c1 c2 c3 l s bey w W G →
      Calls Try.prog 60 #[.int .i64 i, .int .i64 k, .pointer (some ⟨G, 0, none⟩), .pointer (some ⟨G + 2, 0, none⟩), .pointer (some ⟨G + 3, 0, none⟩)] W fun e w' =>
        e = .returned (.bool (cv l s bey i k)) ∧ TW f1 f2 f3 c1 c2 c3 l s bey w w' G := by
  intro r
  induction r with
  | zero => intro i k W hi hiN; omega
  | succ r ih =>
    intro i k W hi hiN hk hT
    obtain ⟨res, hres⟩ : ∃ res, cv l s bey i k = res := ⟨_, rfl⟩
    rw [hres]
    have HR := Lib.hid hR
    have IH := Lib.hid ih
    have HT := Lib.hid hT
    have HRes := Lib.hid hres
    have HN := Lib.hid hN
    have HM := Lib.hid hM
    have q1 := hR.e1
    have q2 := hR.e2
    have q3 := hR.e3
    clear hR ih hT hres hN hM
    go_enter Try.func60, Try.ntmps60
    go_wp2_with fail
    go_loopw [0, 1] (fun x y wr => ∃ i' k' : Nat, x = .int .i64 i' ∧ y = .int .i64 k' ∧ i ≤ i' ∧ i' ≤ N ∧ k' ≤ M ∧ Hid (cv l s bey i' k' = res) ∧ Hid (TW f1 f2 f3 c1 c2 c3 l s bey w wr G)) (fun x _ _ => N - (intOf x).toNat)
    case atStart => exact ⟨i, k, rfl, rfl, Nat.le_refl _, hiN, hk, HRes, HT⟩
    case round =>
      obtain ⟨i', k', rfl, rfl, hii, hiN', hk', hres', hT'⟩ := hrel
      obtain ⟨c0, c1', c2', c3', c4', v0, v1⟩ := hT'.out.cells HN.out HM.out
      rcases Nat.lt_or_ge i' N with hlt | hge
      · obtain ⟨x, hx⟩ : ∃ x, l[i']? = some x := ⟨_, List.getElem?_eq_getElem (by rw [HN.out]; exact hlt)⟩
        have CR := Lib.hid (HR.out.run wr i' x hx hT'.out.hb)
        have ilt : (i' : Int) < (N : Int) := by omega
        cases x with
        | many =>
          go_wp2_with fail
          refine CR.out.mono ?_
          rintro e w1 ⟨rfl, hb1⟩
          have hT1 := Lib.hid (hT'.out.below hb1)
          clear c0 c1' c2' c3' c4' v0 v1
          obtain ⟨c0, c1', -, -, -, v0, v1⟩ := hT1.out.cells HN.out HM.out
          obtain ⟨D, ho, hs, hD⟩ := hT1.out.vn
          have hDH := Lib.hid hD
          have hsH := Lib.hid hs
          rw [HN.out] at ho
          have hoH := Lib.hid ho
          have hkey := keyI (i := i') (by omega)
          have hin : i' < l.length := by rw [HN.out]; exact hlt
          by_cases hh : Maps.has D (ki i') = true ∧ ∃ k0 : Nat, D.atKey (ki i') (.lit (.int .i64 0)) = .lit (.int .i64 k0) ∧ k0 ≤ k'
          · obtain ⟨hh, k0, hat, hk0⟩ := hh
            have hf : cv l s bey i' k' = false := by
              obtain ⟨_, k1, hat1, hf1⟩ := hD i' hin hh
              rw [hat] at hat1
              have : k0 = k1 := by injection hat1 with h; injection h with _ h; omega
              subst this
              exact cv_vain hx hf1 hk0
            have HF := Lib.hid (hf.symm.trans hres'.out)
            have ik : (k0 : Int) ≤ (k' : Int) := by omega
            clear hD hs hf hb1
            go_wp2_with (first
              | (at_lookup; refine wpList_lookup_own_ok_int _ rfl _ _ 99 rfl 3 3 .i64 intKeyed Try.underlying99 Try.underlying3 (zeroI _) (G + 1) N D rfl ho _ (ki i') rfl hkey ?_; intro c hc hwc; rw [hh]; obtain rfl : c = (k0 : Int) := (by rw [hat] at hc; injection hc with h; injection h with _ h; exact h.symm))
              | fail)
            rw [← HF.out]
            go_ret
            exact ⟨rfl, hT1.out⟩
          · have hno : Maps.has D (ki i') = false ∨ Maps.has D (ki i') = true ∧ ∃ k0 : Nat, D.atKey (ki i') (.lit (.int .i64 0)) = .lit (.int .i64 k0) ∧ k' < k0 := by
              cases hc : Maps.has D (ki i') with
              | false => exact .inl rfl
              | true =>
                obtain ⟨_, k0, hat, hf⟩ := hD i' hin hc
                refine .inr ⟨rfl, k0, hat, ?_⟩
                rcases Nat.lt_or_ge k' k0 with h | h
                · exact h
                · exact absurd ⟨hc, k0, hat, h⟩ hh
            have hm := Lib.hid (cv_many (l := l) (s := s) (bey := bey) (k := k') hx)
            clear hh hD hs hb1
            rcases hno with hh | ⟨hh, k0, hat, hk0⟩
            · go_wp2_with (first
                | (at_lookup; refine wpList_lookup_own_ok_int _ rfl _ _ 99 rfl 3 3 .i64 intKeyed Try.underlying99 Try.underlying3 (zeroI _) (G + 1) N D rfl ho _ (ki i') rfl hkey ?_; intro c hc hwc; rw [hh])
                | fail)
              go_loopw [10] (fun a wr2 => ∃ t : Nat, a = .int .i64 t ∧ k' ≤ t ∧ t ≤ M + 1 ∧ Hid (∀ d, d < t - k' → cv l s bey (i' + 1) (k' + d) = false) ∧ Hid (TW f1 f2 f3 c1 c2 c3 l s bey w wr2 G)) (fun a _ => M + 1 - (intOf a).toNat)
              case atStart => exact ⟨k', rfl, Nat.le_refl _, by omega, Lib.hid (fun d hd => by omega), hT1⟩
              case round =>
                clear c0 c1' v0 v1 ho hkey
                obtain ⟨t, rfl, ht1, ht2, hall, hT2⟩ := hrel
                obtain ⟨-, d1, -, -, -, u0, u1⟩ := hT2.out.cells HN.out HM.out
                rcases Nat.lt_or_ge M t with hgt | hle
                · have hf : cv l s bey i' k' = false := by
                    rw [hm.out, List.any_eq_false]
                    intro d hd
                    have h1 := List.mem_range.1 hd
                    rw [HM.out] at h1
                    rw [hall.out d (by omega)]
                    exact Bool.false_ne_true
                  have HF := Lib.hid (hf.symm.trans hres'.out)
                  have hvn := hT2.out.vn
                  rw [HN.out] at hvn
                  obtain ⟨D2, ho2, hs2, hD2⟩ := hvn
                  have hs2' := Lib.hid hs2
                  have hD2' := Lib.hid hD2
                  have hf' := Lib.hid hf
                  have hkey := keyI (i := i') (by omega)
                  have hval : plainElem (H := Unit) Try.prog 3 (.int .i64 k') = some (.lit (.int .i64 k'), []) := plainElem_int Try.underlying3 (wfN (by omega))
                  have hNm : N < maxLen := by unfold maxLen; omega
                  clear hs2 hD2 hf
                  go_wp2_with (first
                    | (at_mapUpdate; refine wpList_mapUpdate_own _ rfl _ _ _ 99 rfl 3 3 intKeyed Try.underlying99 (plainElem Try.prog 3) (G + 1) N D2 rfl ho2 hNm _ _ (ki i') rfl rfl hkey (.lit (.int .i64 k')) [] hval ?_; intro w4 hown4 hgrow4)
                    | fail)
                  rw [← HF.out]
                  go_ret
                  refine ⟨rfl, hT2.out.hb.grown hgrow4 hT2.out.hb.size (fun g hg => by injection hg with h; have := hT2.out.le; omega), hT2.out.le, (hgrow4.block G hT2.out.row.lt (by simp)).trans hT2.out.row, ?_, (hgrow4.block _ hT2.out.vv.lt (by simp)).trans hT2.out.vv, (hgrow4.block _ hT2.out.fv.lt (by simp)).trans hT2.out.fv⟩
                  rw [HN.out]
                  exact Vn.put ho2 hs2'.out hD2'.out hlt n1 (by unfold rn; rw [hx]; rfl) hf'.out hown4
                · have CT := Lib.hid (IH.out (i' + 1) t wr (by omega) (by omega) hle hT2.out)
                  have e1 : ((i' + 1 : Nat) : Int) = (i' : Int) + 1 := by omega
                  rw [e1] at CT
                  cases hq : cv l s bey (i' + 1) t with
                  | true =>
                    rw [hq] at CT
                    have hf : cv l s bey i' k' = true := by
                      rw [hm.out, List.any_eq_true]
                      refine ⟨t - k', List.mem_range.2 (by rw [HM.out]; omega), ?_⟩
                      rw [show k' + (t - k') = t by omega]; exact hq
                    have HF := Lib.hid (hf.symm.trans hres'.out)
                    clear hf
                    go_wp2_with fail
                    refine CT.out.mono ?_
                    rintro e w2 ⟨rfl, hT3⟩
                    have HT3 := Lib.hid hT3
                    clear hT3
                    go_wp2
                    rw [← HF.out]
                    go_ret
                    exact ⟨rfl, HT3.out⟩
                  | false =>
                    rw [hq] at CT
                    have HA : Hid (∀ d, d < t + 1 - k' → cv l s bey (i' + 1) (k' + d) = false) := Lib.hid (fun d hd => by
                      rcases Nat.lt_or_ge d (t - k') with h | h
                      · exact hall.out d h
                      · rw [show k' + d = t by omega]; exact hq)
                    clear hq
                    go_wp2_with fail
                    refine CT.out.mono ?_
                    rintro e w2 ⟨rfl, hT3⟩
                    have HT3 := Lib.hid hT3
                    clear hT3
                    go_wp2
                    go_roundw
                    case rel => exact ⟨t + 1, by go_num, by omega, by omega, HA, HT3⟩
                    case measure => simp [intOf]; omega
            · have ik : ¬ (k0 : Int) ≤ (k' : Int) := by omega
              go_wp2_with (first
                | (at_lookup; refine wpList_lookup_own_ok_int _ rfl _ _ 99 rfl 3 3 .i64 intKeyed Try.underlying99 Try.underlying3 (zeroI _) (G + 1) N D rfl ho _ (ki i') rfl hkey ?_; intro c hc hwc; rw [hh]; have ic : ¬ c ≤ (k' : Int) := (by have : c = (k0 : Int) := (by rw [hat] at hc; injection hc with h; injection h with _ h; exact h.symm); omega); clear ik hat hk0)
                | fail)
              go_loopw [10] (fun a wr2 => ∃ t : Nat, a = .int .i64 t ∧ k' ≤ t ∧ t ≤ M + 1 ∧ Hid (∀ d, d < t - k' → cv l s bey (i' + 1) (k' + d) = false) ∧ Hid (TW f1 f2 f3 c1 c2 c3 l s bey w wr2 G)) (fun a _ => M + 1 - (intOf a).toNat)
              case atStart => exact ⟨k', rfl, Nat.le_refl _, by omega, Lib.hid (fun d hd => by omega), hT1⟩
              case round =>
                clear c0 c1' v0 v1 ho hkey
                obtain ⟨t, rfl, ht1, ht2, hall, hT2⟩ := hrel
                obtain ⟨-, d1, -, -, -, u0, u1⟩ := hT2.out.cells HN.out HM.out
                rcases Nat.lt_or_ge M t with hgt | hle
                · have hf : cv l s bey i' k' = false := by
                    rw [hm.out, List.any_eq_false]
                    intro d hd
                    have h1 := List.mem_range.1 hd
                    rw [HM.out] at h1
                    rw [hall.out d (by omega)]
                    exact Bool.false_ne_true
                  have HF := Lib.hid (hf.symm.trans hres'.out)
                  have hvn := hT2.out.vn
                  rw [HN.out] at hvn
                  obtain ⟨D2, ho2, hs2, hD2⟩ := hvn
                  have hs2' := Lib.hid hs2
                  have hD2' := Lib.hid hD2
                  have hf' := Lib.hid hf
                  have hkey := keyI (i := i') (by omega)
                  have hval : plainElem (H := Unit) Try.prog 3 (.int .i64 k') = some (.lit (.int .i64 k'), []) := plainElem_int Try.underlying3 (wfN (by omega))
                  have hNm : N < maxLen := by unfold maxLen; omega
                  clear hs2 hD2 hf
                  go_wp2_with (first
                    | (at_mapUpdate; refine wpList_mapUpdate_own _ rfl _ _ _ 99 rfl 3 3 intKeyed Try.underlying99 (plainElem Try.prog 3) (G + 1) N D2 rfl ho2 hNm _ _ (ki i') rfl rfl hkey (.lit (.int .i64 k')) [] hval ?_; intro w4 hown4 hgrow4)
                    | fail)
                  rw [← HF.out]
                  go_ret
                  refine ⟨rfl, hT2.out.hb.grown hgrow4 hT2.out.hb.size (fun g hg => by injection hg with h; have := hT2.out.le; omega), hT2.out.le, (hgrow4.block G hT2.out.row.lt (by simp)).trans hT2.out.row, ?_, (hgrow4.block _ hT2.out.vv.lt (by simp)).trans hT2.out.vv, (hgrow4.block _ hT2.out.fv.lt (by simp)).trans hT2.out.fv⟩
                  rw [HN.out]
                  exact Vn.put ho2 hs2'.out hD2'.out hlt n1 (by unfold rn; rw [hx]; rfl) hf'.out hown4
                · have CT := Lib.hid (IH.out (i' + 1) t wr (by omega) (by omega) hle hT2.out)
                  have e1 : ((i' + 1 : Nat) : Int) = (i' : Int) + 1 := by omega
                  rw [e1] at CT
                  cases hq : cv l s bey (i' + 1) t with
                  | true =>
                    rw [hq] at CT
                    have hf : cv l s bey i' k' = true := by
                      rw [hm.out, List.any_eq_true]
                      refine ⟨t - k', List.mem_range.2 (by rw [HM.out]; omega), ?_⟩
                      rw [show k' + (t - k') = t by omega]; exact hq
                    have HF := Lib.hid (hf.symm.trans hres'.out)
                    clear hf
                    go_wp2_with fail
                    refine CT.out.mono ?_
                    rintro e w2 ⟨rfl, hT3⟩
                    have HT3 := Lib.hid hT3
                    clear hT3
                    go_wp2
                    rw [← HF.out]
                    go_ret
                    exact ⟨rfl, HT3.out⟩
                  | false =>
                    rw [hq] at CT
                    have HA : Hid (∀ d, d < t + 1 - k' → cv l s bey (i' + 1) (k' + d) = false) := Lib.hid (fun d hd => by
                      rcases Nat.lt_or_ge d (t - k') with h | h
                      · exact hall.out d h
                      · rw [show k' + d = t by omega]; exact hq)
                    clear hq
                    go_wp2_with fail
                    refine CT.out.mono ?_
                    rintro e w2 ⟨rfl, hT3⟩
                    have HT3 := Lib.hid hT3
                    clear hT3
                    go_wp2
                    go_roundw
                    case rel => exact ⟨t + 1, by go_num, by omega, by omega, HA, HT3⟩
                    case measure => simp [intOf]; omega
        | one S =>
          rcases Nat.lt_or_ge k' M with hkm | hkm
          · obtain ⟨y, hy⟩ : ∃ y, s[k']? = some y := ⟨_, List.getElem?_eq_getElem (by rw [HM.out]; exact hkm)⟩
            have he := cv_one (bey := bey) hx hy
            have hne : ((k' : Int) == (M : Int)) = false := by simp; omega
            go_wp2_with fail
            refine CR.out.mono ?_
            rintro e w1 ⟨rfl, hb1⟩
            have hT1 := Lib.hid (hT'.out.below hb1)
            clear c0 c1' c2' c3' c4' v0 v1
            obtain ⟨c0, c1', -, c3', -, -, -⟩ := hT1.out.cells HN.out HM.out
            have CF := Lib.hid (HR.out.fits w1 i' k' S y hx hy hT1.out.hb)
            cases hS : S y with
            | false =>
              rw [hS] at CF he
              have HF := Lib.hid (he.symm.trans hres'.out)
              clear hb1 he
              go_wp2_with fail
              refine CF.out.mono ?_
              rintro e w2 ⟨rfl, hb2⟩
              have hT2 := Lib.hid (hT1.out.below hb2)
              clear hb2
              go_wp2
              rw [← HF.out]
              go_ret
              exact ⟨rfl, hT2.out⟩
            | true =>
              rw [hS, Bool.true_and] at he
              rw [hS] at CF
              have HF := Lib.hid (he.symm.trans hres'.out)
              clear hb1 he
              go_wp2_with fail
              refine CF.out.mono ?_
              rintro e w2 ⟨rfl, hb2⟩
              have hT2 := Lib.hid (hT1.out.below hb2)
              clear hb2
              go_wp2
              go_roundw
              case rel => exact ⟨i' + 1, k' + 1, by go_num, by go_num, by omega, by omega, by omega, HF, hT2⟩
              case measure => simp [intOf]; omega
          · obtain rfl : k' = M := by omega
            have he := cv_last (s := s) (bey := bey) hx
            rw [HM.out] at he
            have HF := Lib.hid (he.symm.trans hres'.out)
            clear he
            go_wp2_with fail
            refine CR.out.mono ?_
            rintro e w1 ⟨rfl, hb1⟩
            have hT1 := Lib.hid (hT'.out.below hb1)
            clear c0 c1' c2' c3' c4' v0 v1
            obtain ⟨c0, c1', -, -, c4', -, -⟩ := hT1.out.cells HN.out HM.out
            have CB := Lib.hid (HR.out.beyond w1 i' S hx hT1.out.hb)
            rw [HF.out] at CB
            clear hb1
            go_wp2_with fail
            refine CB.out.mono ?_
            rintro e w2 ⟨rfl, hb2⟩
            have hT2 := Lib.hid (hT1.out.below hb2)
            clear hb2
            go_wp2
            go_ret
            exact ⟨rfl, hT2.out⟩
      · obtain rfl : i' = N := by omega
        have he : ((k' : Int) == (M : Int)) = res := by
          rw [← hres'.out]; have := cv_end l s bey k'; rw [HN.out, HM.out] at this; rw [this, Bool.eq_iff_iff]; simp; omega
        go_wp2
        go_ret
        exact ⟨rfl, hT'.out⟩
end Go.Proofs.Ytaielamimkigmaa
