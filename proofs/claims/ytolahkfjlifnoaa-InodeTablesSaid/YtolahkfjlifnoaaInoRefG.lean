/-
  Inodes got from table pages and put there: the document's answers.
-/
import Derived.Test.YtolahkfjlifnoaaInoBytesW
import Derived.Test.YtolahkfjlifnoaaInoGet
import Derived.Deep.RegionLaw
namespace Go.Proofs.Ytolahkfjlifnoaa
open Go.RowKit Crcm Tagm Inom Go.ChangeShapes

theorem wp_append_bytes {w : World} {o : Oper} {a : Act} {K : Act → World → Prop} {Q : Exit → Act → World → Prop} (s x : Operand)
    (ho : o.op = .call { callee := .builtin .append, args := #[s, x], argTypes := #[25, 25] })
    (base : Nat) (v : Value) (n : Nat) (xs : List Int) (hs : a.eval s = v) (hown : w.ownsRow base 5 1 v n (xs.map (Value.int .u8)))
    (A : Option Addr) (m c : Nat) (l : List Int) (hx : a.eval x = .slice A m c) (hl : l.length = m) (hsrc : Src w A l) (h63 : n + m ≤ 1000000) (hbase : base ≤ w.heap.size)
    (h : ∀ v' w', w'.ownsRow base 5 1 v' (n + m) ((xs ++ l).map (Value.int .u8)) → Below base w w' → K (a.put o.dst v') w') : o.wp Try.prog a w K Q := by
  obtain ⟨i0, hi, hz0, hz1, hz2⟩ := info_parts Try.info8
  rcases hsrc with ⟨rfl, rfl⟩ | ⟨ad, rfl, hc⟩
  · simp at hl
    subst hl
    exact wp_append_nothing s x 25 ho base 5 i0 1 Try.underlying25 hi v n _ hs hown c hx (h v w (by simpa using hown) (Below.refl _ _))
  · refine wp_append_own w s x 25 ho base 5 i0 (.int .u8 0) 1 1 Try.underlying25 hi hz0 hz1 hz2 rfl (by decide) v n _ hs hown ad m c (l.map (Value.int .u8)) hx (by simp [hl]) ?_ ?_ (by unfold maxLen; omega) (by omega) hbase ?_
    · intro j u hu
      rw [List.getElem?_map] at hu
      by_cases hj : j < l.length
      · rw [hc j hj]
        simpa [hj] using hu
      · simp [List.getElem?_eq_none (by omega : l.length ≤ j)] at hu
    · intro u hu; obtain ⟨n, -, rfl⟩ := List.mem_map.1 hu; rfl
    · intro v' w' h1 h2 _
      rw [← List.map_append] at h1
      exact h v' w' h1 ((Below.refl _ _).grown h2 hbase (fun g hg => (hown.lt g hg).1))

/-- an append of bytes onto a row of the call's own, as one step of a region that draws -/
theorem step_bytes {ops : Array Oper} {o : Oper} {a : Act} {w : World} {K : Act → World → Prop} {Q : Exit → Act → World → Prop} {E : Prop}
    (hg : o.guard = none) (s x : Operand) (hop : o.op = Op.call { callee := Callee.builtin Builtin.append, args := #[s, x], argTypes := #[25, 25] })
    (base : Nat) (v : Value) (n : Nat) (xs : List Int) (hs : a.eval s = v) (hown : w.ownsRow base 5 1 v n (xs.map (Value.int .u8)))
    (A : Option Addr) (m c : Nat) (l : List Int) (hx : a.eval x = .slice A m c) (hl : l.length = m) (hsrc : Src w A l) (h63 : n + m ≤ 1000000) (hbase : base ≤ w.heap.size)
    (hK : ∀ v' w', w'.ownsRow base 5 1 v' (n + m) ((xs ++ l).map (Value.int .u8)) → Below base w w' → K (a.put o.dst v') w') :
    if Region.wanted o (yielded ops a.tmps) = true then Oper.wp Try.prog o a w K Q else E := by
  have hw : Region.wanted o (yielded ops a.tmps) = true := by simp [Region.wanted, hg]
  rw [if_pos hw]
  exact wp_append_bytes s x hop base v n xs hs hown A m c l hx hl hsrc h63 hbase hK

set_option maxRecDepth 100000 in
set_option maxHeartbeats 1000000 in
theorem irefget_any (a : Option Addr) (n cap : Nat) (K : Int) (l : List Int) (w : World) (hr : Rw w a l) (hn : l.length = n) (hc : n ≤ cap) :
    Calls Try.prog 28 #[.slice a n cap, .int .i64 K] w fun e w' => e = .returned (.tuple #[iv (gI l K), .int .i64 (gE l K)]) ∧ Below w.heap.size w w' := by
  subst hn
  have HI := Lib.hid (fun w => refper_any (l.length : Int) w)
  by_cases h : Inn l.length K
  · have eI : gI l K = rdI ((l.drop (K.toNat * 24)).take 24) := if_pos h
    have eE : gE l K = rdE ((l.drop (K.toNat * 24)).take 24) := if_pos h
    obtain ⟨h0, h1⟩ := id h
    obtain ⟨k, rfl, hk, hk2⟩ := h.sz
    rw [eI, eE, Int.toNat_natCast]
    obtain ⟨b, off, rfl⟩ := hr.addr (by omega)
    have hq : Rw w (some ⟨b, off + 24 * k, none⟩) ((l.drop (k * 24)).take 24) := (hr.drop (k * 24) (a' := some ⟨b, off + 24 * k, none⟩) (fun b' off' e _ => by injection e with e; injection e with e1 e2; subst e1 e2; rw [Nat.mul_comm])).take 24
    have hb0 : Below w.heap.size w (w.alloc (.cells #[.int .i64 0, .int .i64 0, .int .i64 0, .int .i64 0, .int .i64 0, .int .i64 0, .int .i64 0, .int .i64 0, .int .i64 0, .int .i64 0, .int .i64 0] 24)) := (Below.refl _ _).alloc (Nat.le_refl _) _
    have hx := irefread_24 b (off + 24 * k) (cap - 24 * k) _ _ (hq.below hb0) (by rw [List.length_take, List.length_drop]; omega) (by omega)
    rw [rdV_eq] at hx
    have HX := Lib.hid hx
    have HB0 := Lib.hid hb0
    have A0 := Lib.hid (Blk.new w 24 #[.int .i64 0, .int .i64 0, .int .i64 0, .int .i64 0, .int .i64 0, .int .i64 0, .int .i64 0, .int .i64 0, .int .i64 0, .int .i64 0, .int .i64 0])
    generalize rdI ((l.drop (k * 24)).take 24) = i at HX ⊢
    generalize rdE ((l.drop (k * 24)).take 24) = f at HX ⊢
    generalize per (l.length : Int) = pp at HI h1
    clear hx hb0 hq eI eE h hr
    obtain ⟨ak, al, as_, a0, a1, a2, a3, a4, a5, asg, adb⟩ := i
    unfold iv at HX
    have es : 24 * k + 24 - 24 * k = 24 := by omega
    have HES := Lib.hid es
    clear es
    go_enter Try.func28, Try.ntmps28
    go_wp2_with fail
    refine (HI.out _).mono ?_
    rintro e w' ⟨rfl, rfl⟩
    go_wp2_with fail
    rw [HES.out]
    refine HX.out.mono ?_
    rintro e w1 ⟨rfl, hb⟩
    have hA := A0.out.below hb A0.out.lt
    have HA := Lib.hid hA
    have HB := Lib.hid (HB0.out.trans (hb.mono (by simp)))
    obtain ⟨e0, e1, e2, e3, e4, e5, e6, e7, e8, e9, e10⟩ := hA.eleven
    have hf := fun j => hA.frozen j
    clear hA hb A0 HB0 HX HI
    go_wp2
    obtain ⟨x0, x1, x2, x3, x4, x5, x6, x7, x8, x9, x10⟩ := (ovI_blk (i := ⟨ak, al, as_, a0, a1, a2, a3, a4, a5, asg, adb⟩) HA.out).eleven
    have XB := ovI_below (i := ⟨ak, al, as_, a0, a1, a2, a3, a4, a5, asg, adb⟩) HB.out (Nat.le_refl w.heap.size)
    unfold ovI at x0 x1 x2 x3 x4 x5 x6 x7 x8 x9 x10 XB
    simp only at x0 x1 x2 x3 x4 x5 x6 x7 x8 x9 x10 XB
    exact bodyPost_ret (v := .tuple #[iv ⟨ak, al, as_, a0, a1, a2, a3, a4, a5, asg, adb⟩, .int .i64 f]) (by simp [iv, results, Try.results28, go_sem, x0, x1, x2, x3, x4, x5, x6, x7, x8, x9, x10]) rfl ⟨rfl, XB⟩
  · have eI : gI l K = zi := if_neg h
    have eE : gE l K = 1 := if_neg h
    rw [eI, eE]
    unfold iv zi
    unfold Inn at h
    by_cases h0 : K < 0
    · clear eI eE h hr hc
      go_enter Try.func28, Try.ntmps28
      go_wp2
      exact bodyPost_ret (v := .tuple #[.agg #[.int .i64 0, .int .i64 0, .int .i64 0, .int .i64 0, .int .i64 0, .int .i64 0, .int .i64 0, .int .i64 0, .int .i64 0, .int .i64 0, .int .i64 0], .int .i64 1]) (by simp [results, Try.results28, go_sem]) rfl ⟨rfl, (Below.refl _ _).alloc (Nat.le_refl _) _⟩
    · have h1 : per (l.length : Int) ≤ K := by by_cases g : per (l.length : Int) ≤ K; exact g; exact absurd ⟨by omega, by omega⟩ h
      generalize per (l.length : Int) = pp at HI h1
      clear eI eE h hr hc
      go_enter Try.func28, Try.ntmps28
      go_wp2_with fail
      refine (HI.out _).mono ?_
      rintro e w' ⟨rfl, rfl⟩
      go_wp2
      exact bodyPost_ret (v := .tuple #[.agg #[.int .i64 0, .int .i64 0, .int .i64 0, .int .i64 0, .int .i64 0, .int .i64 0, .int .i64 0, .int .i64 0, .int .i64 0, .int .i64 0, .int .i64 0], .int .i64 1]) (by simp [results, Try.results28, go_sem]) rfl ⟨rfl, (Below.refl _ _).alloc (Nat.le_refl _) _⟩

theorem elem8 : Try.prog.elem 25 = 5 := by simp [Program.elem, Try.underlying25]
theorem rest_mv (b off len cap x : Nat) (X : Int) (hx : X = (x : Int)) (h1 : x ≤ len) (W : World) :
    (Instr.slice 25 (.slice (some ⟨b, off, none⟩) len cap) (some (.int .i64 X)) none none).run Try.prog W = .ok (.slice (mv (some ⟨b, off, none⟩) cap x) (len - x) (cap - x)) W := by
  subst hx
  have he : Try.prog.underlying 25 = some (.slice (Try.prog.elem 25)) := by rw [elem8, Try.underlying25]
  rw [run_slice_l W _ _ _ _ he .i64 _ (by omega) (by omega), elem8, Try.size8]
  unfold mv
  by_cases hne : cap = x <;> simp [Result.andThen, sliced, hne, Go.WideShapes.add_plain]
theorem top_at (b off len cap x : Nat) (X : Int) (hx : X = (x : Int)) (h1 : x ≤ cap) (W : World) :
    (Instr.slice 25 (.slice (some ⟨b, off, none⟩) len cap) none (some (.int .i64 X)) none).run Try.prog W = .ok (.slice (some ⟨b, off, none⟩) x cap) W := by
  subst hx
  have he : Try.prog.underlying 25 = some (.slice (Try.prog.elem 25)) := by rw [elem8, Try.underlying25]
  rw [run_slice_h W _ _ _ _ he .i64 _ (by omega) (by omega), elem8, Try.size8]
  simp [Result.andThen, sliced, Addr.add]

set_option maxRecDepth 100000 in
set_option maxHeartbeats 1000000 in
theorem irefputs_out (a : Option Addr) (n cap : Nat) (K : Int) (i : Ind) (w : World) (h : ¬ Inn n K) :
    Calls Try.prog 30 #[.slice a n cap, .int .i64 K, iv i] w fun e w' => e = .returned (.tuple #[.slice none 0 0, .int .i64 1]) ∧ Below w.heap.size w w' := by
  have HI := Lib.hid (fun w => refper_any (n : Int) w)
  unfold Inn at h
  unfold iv
  by_cases h0 : K < 0
  · clear h
    go_enter Try.func30, Try.ntmps30
    go_wp2
    go_ret2
    exact ⟨rfl, (Below.refl _ _).alloc (Nat.le_refl _) _⟩
  · have h1 : per (n : Int) ≤ K := by by_cases g : per (n : Int) ≤ K; exact g; exact absurd ⟨by omega, by omega⟩ h
    generalize per (n : Int) = pp at HI h1
    clear h
    go_enter Try.func30, Try.ntmps30
    go_wp2_with fail
    refine (HI.out _).mono ?_
    rintro e w' ⟨rfl, rfl⟩
    go_wp2
    go_ret2
    exact ⟨rfl, (Below.refl _ _).alloc (Nat.le_refl _) _⟩

set_option maxRecDepth 100000 in
set_option maxHeartbeats 1000000 in
theorem irefputs_no (a : Option Addr) (n cap : Nat) (K : Int) (i : Ind) (w : World) (h : Inn n K) (h2 : ¬ IR i) :
    Calls Try.prog 30 #[.slice a n cap, .int .i64 K, iv i] w fun e w' => e = .returned (.tuple #[.slice none 0 0, .int .i64 51]) ∧ Below w.heap.size w w' := by
  have HI := Lib.hid (fun w => refper_any (n : Int) w)
  have HW := Lib.hid (fun w => irefwrite_no i w h2)
  obtain ⟨h0, h1⟩ := h
  generalize per (n : Int) = pp at HI h1
  clear h2
  unfold iv at *
  go_enter Try.func30, Try.ntmps30
  go_wp2_with fail
  refine (HI.out _).mono ?_
  rintro e w' ⟨rfl, rfl⟩
  go_wp2_with fail
  refine (HW.out _).mono ?_
  rintro e w1 ⟨rfl, hb⟩
  go_wp2
  go_ret2
  exact ⟨rfl, ((Below.refl _ _).alloc (Nat.le_refl _) _).trans (hb.mono (by simp))⟩

set_option maxRecDepth 100000 in
set_option maxHeartbeats 4000000 in
theorem irefputs_yes (a : Option Addr) (cap k : Nat) (i : Ind) (l : List Int) (w : World) (hr : Rw w a l) (h : Inn l.length k) (h2 : IR i) (hk : k * 24 + 24 ≤ l.length) (hk2 : l.length ≤ 512) (hc : l.length ≤ cap) :
    Calls Try.prog 30 #[.slice a l.length cap, .int .i64 k, iv i] w fun e w' => (∃ A cc, e = .returned (.tuple #[.slice A l.length cc, .int .i64 0]) ∧ Rw w' A (splice l (k * 24) (wb i))) ∧ Below w.heap.size w w' := by
  have HI := Lib.hid (fun w => refper_any (l.length : Int) w)
  obtain ⟨b, off, rfl⟩ := hr.addr (by omega)
  have HW := Lib.hid (fun w => irefwrite_yes i w h2)
  obtain ⟨h0, h1⟩ := h
  have HU := Lib.hid hr.1
  have S1 := Lib.hid (fun (w' : World) (hb : Below w.heap.size w w') => (((hr.take (24 * k)).below hb)).src)
  have S3 := Lib.hid (fun (w' : World) (hb : Below w.heap.size w w') => ((hr.mv (24 * k + 24) cap hc).below hb).src)
  obtain ⟨n, hn⟩ : ∃ n, l.length = n := ⟨_, rfl⟩
  rw [hn] at HI hk hk2 hc h1 ⊢
  have HN := Lib.hid hn
  have e1 := top_at b off n cap (24 * k) (24 * k) rfl (by omega)
  have e3 := rest_mv b off n cap (24 * k + 24) (24 * k + 24) rfl (by omega)
  generalize per (n : Int) = pp at HI h1
  clear h2 hr hn
  unfold iv at *
  go_enter Try.func30, Try.ntmps30
  go_wp2_with fail
  refine (HI.out _).mono ?_
  rintro e w' ⟨rfl, rfl⟩
  go_wp2_with fail
  refine (HW.out _).mono ?_
  rintro e w1 ⟨v, rfl, hown, hb⟩
  have hb1 := ((Below.refl w.heap.size w).alloc (Nat.le_refl _) (.cells #[.int .i64 i.k, .int .i64 i.l, .int .i64 i.s, .int .i64 i.d0, .int .i64 i.d1, .int .i64 i.d2, .int .i64 i.d3, .int .i64 i.d4, .int .i64 i.d5, .int .i64 i.sg, .int .i64 i.db] 24)).trans (hb.mono (by simp))
  obtain ⟨a2, cap2, rfl, hrw2, hlen2, hcap2⟩ := Rw.of_own hown (wb_U8 i)
  have HB1 := Lib.hid hb1
  have HR2 := Lib.hid hrw2
  clear hb1 hrw2 hlen2 hcap2 hown hb HW HI
  go_wp2_with fail
  have s1 : IntKind.i64.wrap (24 * (k : Int)) = 24 * (k : Int) := IntWalk.i64_in _ (by omega)
  have s2 : IntKind.i64.wrap (24 * (k : Int) + 24) = 24 * (k : Int) + 24 := IntWalk.i64_in _ (by omega)
  have hd : Below w1.heap.size w1 w1.drew := (Below.refl _ _).drew
  have HD := Lib.hid hd
  clear hd
  go_region_law (first
    | (refine step_bytes rfl (.tmp 28) (.tmp 32) rfl w1.heap.size (.slice none 0 0) 0 [] (by simp [Act.eval, Act.put]) (World.ownsRow_nil _ _ _ _) (some ⟨b, off, none⟩) (24 * k) cap (l.take (24 * k)) (by simp [Act.eval, Act.put]) (by have := HN.out; rw [List.length_take]; omega) (S1.out _ HB1.out.drew) (by omega) (by simp) ?_; intro v2 w2 hown2 hbel2)
    | (refine step_bytes rfl (.tmp 33) (.tmp 34) rfl w1.heap.size v2 (24 * k) (l.take (24 * k)) (by simp [Act.eval]) (by simpa using hown2) a2 24 cap2 (wb i) (by simp [Act.eval]) (wb_len i) ((HR2.out.below (HD.out.trans hbel2)).src) (by omega) (HD.out.trans hbel2).size ?_; intro v3 w3 hown3 hbel3)
    | (refine step_bytes rfl (.tmp 35) (.tmp 40) rfl w1.heap.size v3 (24 * k + 24) (l.take (24 * k) ++ wb i) (by simp [Act.eval]) (by simpa using hown3) (mv (some ⟨b, off, none⟩) cap (24 * k + 24)) (n - (24 * k + 24)) (cap - (24 * k + 24)) (l.drop (24 * k + 24)) (by simp [Act.eval]) (by have := HN.out; rw [List.length_drop]; omega) (S3.out _ (HB1.out.trans (((HD.out.trans hbel2).trans hbel3).mono HB1.out.size))) (by omega) ((HD.out.trans hbel2).trans hbel3).size ?_; intro v4 w4 hown4 hbel4))
  all_goals
    have hB4 := Lib.hid (HB1.out.trans ((((HD.out.trans hbel2).trans hbel3).trans hbel4).mono HB1.out.size))
    have e4 : w4.ownsRow w1.heap.size 5 1 v4 n ((splice l (k * 24) (wb i)).map (Value.int .u8)) := by
      have e5 : 24 * k + 24 + (n - (24 * k + 24)) = n := by omega
      rw [e5] at hown4
      have e6 : splice l (k * 24) (wb i) = l.take (24 * k) ++ wb i ++ l.drop (24 * k + 24) := by
        unfold splice
        rw [wb_len, Nat.mul_comm k 24, List.append_assoc]
      rw [e6]
      exact hown4
    have HO4 := Lib.hid e4
    clear hown2 hown3 hown4 hbel2 hbel3 hbel4 e4 e1 e3 s1 s2
    go_wp2
    go_ret2
    obtain ⟨a4, cap4, rfl, hrw4, hlen4, hcap4⟩ := Rw.of_own HO4.out (splice_u8 HU.out (wb_U8 i))
    exact ⟨⟨a4, cap4, rfl, hrw4⟩, hB4.out⟩

end Go.Proofs.Ytolahkfjlifnoaa
