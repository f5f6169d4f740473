/-
  The translation writes a page where nothing is to be done ahead of it and nothing fails. Nothing of one statement alone stands here.
-/
import Derived.Test.YtbfifppdcmimaaaGreatFtTag
import Derived.Test.YtbfifppdcmimaaaGreatFtReady
import Derived.Test.YtbfifppdcmimaaaGreatFtPrg
import Derived.Test.YtbfifppdcmimaaaGreatFtForget
import Derived.Deep.RegionHeld3
import Derived.BigRegion
import Derived.Deep.CutBlock
import Derived.Deep.CutRange
import Derived.Deep.DeepCutAuto
import Derived.WalkMore
import Derived.Test.YtbfifppdcmimaaaGreatFtAt
import Derived.Test.YtbfifppdcmimaaaGreatFtB
import Derived.Test.YtbfifppdcmimaaaGreatFtThere
import Derived.Test.YtbfifppdcmimaaaGreatFtDue
import Derived.Test.YtbfifppdcmimaaaGreatKI
import Derived.Test.YtbfifppdcmimaaaGreatKA
import Derived.Test.YtbfifppdcmimaaaGreatFtRo
import Derived.Test.YtbfifppdcmimaaaGreatFtE
import Derived.Test.YtbfifppdcmimaaaGreatFtTl
import Derived.Test.YtbfifppdcmimaaaGreatFtMan
namespace Go.Proofs.YtbfifppdcmimaaaGreat
open Go.RowKit Crcm Gcm Go.ChangeShapes

/-- nothing is to be done ahead of a writing -/
structure Nomi (c : Ch) (m : Mg) (v : Fv) : Prop where
  st : v.st = false
  bg : v.bg = false
  n3 : v.n3 = 0
  d : ∀ z, v.d z = false
  lt : ∀ j, j < c.nb → v.lt j = false
  bw : ∀ x ∈ wk c.wear m.l c.nb, Bw x
  cz : 0 ≤ cnt 4 m.l m.l.length ∧ cnt 4 m.l m.l.length ≤ 1000
  res : 0 ≤ m.r ∧ m.r ≤ 100000
  bad : 0 ≤ m.b ∧ m.b ≤ 100000
  ro : 0 ≤ m.r - (cnt 4 m.l m.l.length - m.b)
  sh : shB c m.l (m.r - (cnt 4 m.l m.l.length - m.b)) = false

section
variable {w : World} {X : Nat → Prop} {o : Own} {c : Ch} {m : Mg} {a : Fa} {v : Fv}
theorem fready_at (h : FtAt w X o c m a v) (q : Nomi c m v) (sg : Bool) :
    Calls Tryz.prog 68 #[.pointer (some ⟨a.F, 0, none⟩), .bool sg] w fun e w' => e = .returned (.int .i64 0) ∧ Below w.heap.size w w' := by
  obtain ⟨c4, b4, b4'⟩ := h.b4
  have hF := h.ft
  unfold ftV at hF
  rw [q.st, q.bg] at hF
  have h3 := h.m3
  rw [q.n3] at h3
  exact fready_none h.mg h.ch h.cp h.ml hF q.bw _ rfl q.cz q.res q.bad q.ro q.sh h3 b4 (fun j hj => by rw [b4' j hj, q.lt j hj]) sg
theorem fprogram_at (h : FtAt w X o c m a v) (A : Option Addr) (n cap : Nat) (l : List Int) (hr : RwX w X A l) (hl : l.length = n) (k i : Int) (l2 : List Bk) (c2 : Ch) (hR : prgT l m.l c = ((k, i, 0), l2, c2)) (hn2 : c2.nb = c.nb) (hl2 : l2.length = m.l.length) :
    Calls Tryz.prog 69 #[.pointer (some ⟨a.F, 0, none⟩), .slice A n cap] w fun e w' => e = .returned (.tuple #[pv (k, i), .int .i64 0]) ∧ FtAt w' X o c2 { m with l := l2 } a v ∧ Kp (Fm o c.nb m.g) w w' := by
  have q := h.ne
  refine (fprogram_ok h.mg h.ch h.cp h.ml (h.inX _ (.inr (.inr (.inl rfl)))) q.oM q.og (h.ft.cell 1) A n cap l hr hl k i l2 c2 hR hn2).mono ?_
  rintro e w' ⟨rfl, h1, h2, h3⟩
  exact ⟨rfl, h.prg h3 h2 h1 hn2 hl2, h3⟩
theorem fforget_at (h : FtAt w X o c m a v) {k : Int} (hk : 0 ≤ k ∧ k < 4294967296) (hn : v.wr k = none) :
    Calls Tryz.prog 43 #[.pointer (some ⟨a.F, 0, none⟩), .int .u32 k] w fun e w' => e = .returned (.tuple #[]) ∧ Below w.heap.size w w' :=
  fforget_no h.ft rfl h.m2 hk hn
end

theorem rm_none {d : Int → Bool} (k : Int) (hd : ∀ z, d z = false) : rmM (drM d) k = drM d := by
  funext z
  unfold rmM drM
  rw [hd z]
  split <;> rfl
theorem up_pl (q : Int → Option (Int × Int)) (k : Int) (p : Int × Int) : upM (plM q) k (pv p) = plM (fun z => if z = k then some p else q z) := by
  funext z
  unfold upM plM
  by_cases e : z = k
  · simp only [if_pos e]; rfl
  · simp only [if_neg e]

set_option maxRecDepth 100000 in
set_option maxHeartbeats 4000000 in
theorem fwrite_ok {w : World} {X : Nat → Prop} {o : Own} {c : Ch} {m : Mg} {a : Fa} {v : Fv} (h : FtAt w X o c m a v) (q : Nomi c m v) {kd p : Int} (s0 e0 : Int) {A : Option Addr} {n cap : Nat} {z : List Int} (hr : RwX w X A z) (hl : z.length = n) (hs : Tagm.Sz n)
    (ht : Tagm.Rt kd p (v.seq + 1) (v.ep + 1)) (hp : v.wr p = none) {k i : Int} {l2 : List Bk} {c2 : Ch} (hR : prgT (Tagm.pg kd p (v.seq + 1) (v.ep + 1) z) m.l c = ((k, i, 0), l2, c2)) (hn2 : c2.nb = c.nb) (hl2 : l2.length = m.l.length) :
    Calls Tryz.prog 42 #[.pointer (some ⟨a.F, 0, none⟩), tg kd p s0 e0, .slice A n cap] w fun e w' => e = .returned (.int .i64 0) ∧
      FtAt w' X o c2 { m with l := l2 } a { v with seq := v.seq + 1, wr := fun y => if y = p then some (k, i) else v.wr y, n2 := v.n2 + 1 } ∧ Kp (fun b => o.F c.nb b ∨ FO a m.g b) w w' := by
  obtain ⟨N, hN⟩ : ∃ N, w.heap.size = N := ⟨_, rfl⟩
  have f11 := h.ft.cell 11
  have f12 := h.ft.cell 12
  have hFl := h.ft.lt
  have hs1 : IntKind.u64.wrap (v.seq + 1) = v.seq + 1 := IntWalk.u64_in _ ⟨by have := ht.2.2.1; omega, by have := ht.2.2.1; omega⟩
  have he1 : IntKind.u64.wrap (v.ep + 1) = v.ep + 1 := IntWalk.u64_in _ ⟨by have := ht.2.2.2; omega, by have := ht.2.2.2; omega⟩
  change w.cell? ⟨a.F, 11, none⟩ = some (.int .u64 v.seq) at f11
  change w.cell? ⟨a.F, 12, none⟩ = some (.int .u64 v.ep) at f12
  have HH := Lib.hid h
  have HQ := Lib.hid q
  have HR := Lib.hid hr
  have HL := Lib.hid hl
  have HS := Lib.hid hs
  have HT := Lib.hid ht
  have HP := Lib.hid hp
  have HG := Lib.hid hR
  have HN2 := Lib.hid hn2
  have HL2 := Lib.hid hl2
  have HN := Lib.hid hN
  have hne : ¬ N = a.F := by omega
  have hne2 : ¬ a.F = N := by omega
  have t0 : Blk (w.alloc (.cells #[.int .i64 kd, .int .u32 p, .int .u64 s0, .int .u64 e0] 61)) N 61 #[.int .i64 kd, .int .u32 p, .int .u64 s0, .int .u64 e0] := by rw [← hN]; exact heap_alloc_new w _
  have hB : Below w.heap.size w (w.alloc (.cells #[.int .i64 kd, .int .u32 p, .int .u64 s0, .int .u64 e0] 61)) := (Below.refl _ _).alloc (Nat.le_refl _) _
  have HB := Lib.hid hB
  have g11 : (w.alloc (.cells #[.int .i64 kd, .int .u32 p, .int .u64 s0, .int .u64 e0] 61)).cell? ⟨a.F, 11, none⟩ = some (.int .u64 v.seq) := (hB.cell hFl).trans f11
  have g12 : (w.alloc (.cells #[.int .i64 kd, .int .u32 p, .int .u64 s0, .int .u64 e0] 61)).cell? ⟨a.F, 12, none⟩ = some (.int .u64 v.ep) := (hB.cell hFl).trans f12
  have z2 := t0.frozen 2
  have z3 := t0.frozen 3
  have y2 := t0.cell 2
  have y3 := t0.cell 3
  have HT0 := Lib.hid t0
  have HE : Hid (IntKind.u64.wrap (v.seq + 1) = v.seq + 1 ∧ IntKind.u64.wrap (v.ep + 1) = v.ep + 1) := Lib.hid ⟨hs1, he1⟩
  obtain ⟨sq, hsq⟩ : ∃ s, v.seq + 1 = s := ⟨_, rfl⟩
  obtain ⟨ep, hep⟩ : ∃ s, v.ep + 1 = s := ⟨_, rfl⟩
  rw [hsq] at hs1
  rw [hep] at he1
  have HSq := Lib.hid hsq
  have HEp := Lib.hid hep
  clear h q hr hl hs ht hp hR hn2 hl2 hB t0 f11 f12 hFl hsq hep
  unfold tg
  go_enter Tryz.func42, Tryz.ntmps42
  go_wp2_with fail
  go_step3
  go_wp2_with fail
  generalize (w.alloc (.cells #[.int .i64 kd, .int .u32 p, .int .u64 s0, .int .u64 e0] 61)) = W at g11 g12 z2 z3 y2 y3 HT0 HB ⊢
  go_region_held3 (fun w' => w'.cell? ⟨a.F, 11, none⟩ = some (.int .u64 v.seq) ∧ w'.cell? ⟨a.F, 12, none⟩ = some (.int .u64 v.ep)) ((go_keep)) ((fail))
  rw [HE.out.1, HE.out.2]
  have hT2 : Blk ((W.setCell ⟨N, 2, none⟩ (.int .u64 (v.seq + 1))).setCell ⟨N, 3, none⟩ (.int .u64 (v.ep + 1))).drew N 61 #[.int .i64 kd, .int .u32 p, .int .u64 (v.seq + 1), .int .u64 (v.ep + 1)] := by
    have := (HT0.out.put 2 (.int .u64 (v.seq + 1))).put 3 (.int .u64 (v.ep + 1))
    simp at this
    exact this
  have hB2 : Below w.heap.size w ((W.setCell ⟨N, 2, none⟩ (.int .u64 (v.seq + 1))).setCell ⟨N, 3, none⟩ (.int .u64 (v.ep + 1))).drew :=
    ((HB.out.setCell (p := ⟨N, 2, none⟩) (Nat.le_of_eq HN.out) _).setCell (p := ⟨N, 3, none⟩) (Nat.le_of_eq HN.out) _).drew
  generalize ((W.setCell ⟨N, 2, none⟩ (.int .u64 (v.seq + 1))).setCell ⟨N, 3, none⟩ (.int .u64 (v.ep + 1))).drew = W2 at hT2 hB2 ⊢
  clear g11 g12 z2 z3 y2 y3 HT0 HB hs1 he1 HSq HEp
  have c0 := hT2.cell 0
  have c1 := hT2.cell 1
  have c2' := hT2.cell 2
  have c3' := hT2.cell 3
  have HW := Lib.hid (twrite_x (cap := cap) (X := X) HT.out HS.out (HR.out.1.below hB2) HL.out (fun b hb => Nat.lt_of_lt_of_le (HH.out.ch.old b hb) hB2.size))
  unfold tg at HW
  have HT2 := Lib.hid hT2
  have HB2 := Lib.hid hB2
  clear hT2 hB2
  go_wp2_with fail
  refine HW.out.mono ?_
  rintro e w3 ⟨g, cp, rfl, hrow, hb3⟩
  have hB4 := hb3.alloc hb3.size (.cells #[.int .i64 0, .int .i64 0] 47)
  have hB5 := HB2.out.trans (hB4.mono HB2.out.size)
  have hT4 := HT2.out.below hB4 HT2.out.lt
  have d0 := hT4.cell 0
  clear c0 c1 c2' c3' HW
  go_wp2_with fail
  obtain ⟨P, hP⟩ : ∃ P, w3.heap.size = P := ⟨_, rfl⟩
  have hPk : Blk (w3.alloc (.cells #[.int .i64 0, .int .i64 0] 47)) P 47 #[.int .i64 0, .int .i64 0] := by rw [← hP]; exact heap_alloc_new w3 _
  have hPl : w.heap.size ≤ P := by rw [← hP]; exact Nat.le_trans HB2.out.size hb3.size
  have hrow4 : RwX (w3.alloc (.cells #[.int .i64 0, .int .i64 0] 47)) (fun b => X b ∨ b = P) (some ⟨g, 0, none⟩) (Tagm.pg kd p (v.seq + 1) (v.ep + 1) z) := hrow.widen ((Below.refl _ _).alloc (Nat.le_refl _) _) (fun b hb => hb.imp id (fun e => Nat.le_of_eq (hP.trans e.symm)))
  rw [hP]
  generalize w3.alloc (.cells #[.int .i64 0, .int .i64 0] 47) = W4 at hB4 hB5 hT4 d0 hPk hrow4 ⊢
  have h4 : FtAt W4 (fun b => X b ∨ b = P) o c m a v := HH.out.widen hB5 (fun b hb => hb.imp id (fun e => by rw [e]; exact hPl)) (fun b hb => hb.elim (fun e => Nat.lt_of_lt_of_le (HH.out.ch.old b e) hB5.size) (fun e => by rw [e]; exact hPk.lt)) (fun b hb => .inl hb)
  have HRdy := Lib.hid (fready_at h4 HQ.out)
  have HH4 := Lib.hid h4
  clear h4
  have HT4 := Lib.hid hT4
  have HB5 := Lib.hid hB5
  have HPk := Lib.hid hPk
  have HPl := Lib.hid hPl
  have HRow := Lib.hid hrow4
  clear hP hB4 hb3 hrow hT4 hB5 hPk hPl hrow4
  go_step3
  go_wp2_with fail
  refine wp_loop_once ?_
  go_wp2_with fail
  refine (HRdy.out _).mono ?_
  rintro e w5 ⟨rfl, hb5⟩
  have hB6 := HB5.out.trans (hb5.mono HB5.out.size)
  have hrow5 := HRow.out.kp (F := fun _ => False) (Kp.of_below hb5) (fun _ g => g.elim)
  have HPrg := Lib.hid (fprogram_at (HH4.out.below hb5) (some ⟨g, 0, none⟩) (n + 32) cp _ hrow5 (by rw [Tagm.pg_bs, List.length_append, HL.out, Tagm.bs_length]) k i l2 c2 HG.out HN2.out HL2.out)
  have HT6 := Lib.hid (HT4.out.below hb5 HT4.out.lt)
  have HP6 := Lib.hid (HPk.out.below hb5 HPk.out.lt)
  have HB6 := Lib.hid hB6
  clear d0 HRdy hb5 hB6 hrow5 HT4 HPk HB5 HRow
  go_wp2_with fail
  refine HPrg.out.mono ?_
  rintro e w7 ⟨rfl, h7, hk7⟩
  have hFm : ∀ b, Fm o c.nb m.g b → b < w.heap.size := fun b hb => HH.out.lt b (hb.elim .inl (fun e => .inr (.inr (.inr (.inl e)))))
  have hN7 := HT6.out.kp hk7 (fun e => by have := hFm _ e; have := HN.out; omega)
  have hP7 := HP6.out.kp hk7 (fun e => by have := hFm _ e; have := HPl.out; omega)
  have hPF : ¬ P = a.F := by have := HH.out.ft.lt; have := HPl.out; omega
  have hPF2 : ¬ a.F = P := fun e => hPF e.symm
  have hNP : ¬ N = P := fun e => by
    have h1 := hN7
    have h2 := hP7
    rw [e] at h1
    exact h1.ne h2 (by decide) rfl
  have hPN : ¬ P = N := fun e => hNP e.symm
  have hK8 : Kp (fun b => b = P) w7 ((w7.setCell ⟨P, 0, none⟩ (.int .i64 k)).setCell ⟨P, 1, none⟩ (.int .i64 i)) := (Kp.one w7 ⟨P, 0, none⟩ (.int .i64 k)).trans (Kp.one _ ⟨P, 1, none⟩ (.int .i64 i))
  have hP8 : Blk ((w7.setCell ⟨P, 0, none⟩ (.int .i64 k)).setCell ⟨P, 1, none⟩ (.int .i64 i)) P 47 #[.int .i64 k, .int .i64 i] := by
    have := (hP7.put 0 (.int .i64 k)).put 1 (.int .i64 i)
    simpa using this
  have hF8 := h7.ft.kp hK8 hPF2
  have hN8 := hN7.kp hK8 hNP
  have q0 := hP7.frozen 0
  have q1 := hP7.frozen 1
  have r0 := hP7.cell 0
  have r1 := hP7.cell 1
  have s11 := hF8.cell 11
  have x11 := hF8.frozen 11
  have y1 := (hN8.far (p := ⟨a.F, 11, none⟩) hne (.int .u64 (v.seq + 1))).cell 1
  change _ = some (Value.int IntKind.u64 v.seq) at s11
  have hb2 : w7.heap[P]? = some (.cells #[.int .i64 0, .int .i64 0] 47) := hP7
  have hwr := HE.out.1
  have H7 := Lib.hid h7
  have HK7 := Lib.hid hk7
  have HK8 := Lib.hid hK8
  have HP8 := Lib.hid hP8
  have HN8 := Lib.hid hN8
  have HF8 := Lib.hid hF8
  have HFm := Lib.hid hFm
  clear h7 hk7 hN7 hP7 hK8 hP8 hF8 hN8 HPrg HE HT6 HP6 hFm
  have h8 := H7.out.kp HK8.out (fun b e => .inr e) (fun b hb e => by have := HH.out.lt b (hb.imp (fun s => by rw [HN2.out] at s; exact s) id); have := HPl.out; omega)
  have hK9 : Kp (fun b => b = a.F) ((w7.setCell ⟨P, 0, none⟩ (.int .i64 k)).setCell ⟨P, 1, none⟩ (.int .i64 i)) (((w7.setCell ⟨P, 0, none⟩ (.int .i64 k)).setCell ⟨P, 1, none⟩ (.int .i64 i)).setCell ⟨a.F, 11, none⟩ (.int .u64 (v.seq + 1))) := Kp.one _ ⟨a.F, 11, none⟩ _
  have h9 := h8.nums hK9 (s := v.seq + 1) (e := v.ep) (HF8.out.put 11 (.int .u64 (v.seq + 1)))
  have hkp : 0 ≤ p ∧ p < 4294967296 := by have := HT.out.2.1; omega
  have HFg := Lib.hid (fforget_at h9 hkp HP.out)
  have HKa := Lib.hid (show Kp (fun b => o.F c.nb b ∨ FO a m.g b) w (((w7.setCell ⟨P, 0, none⟩ (.int .i64 k)).setCell ⟨P, 1, none⟩ (.int .i64 i)).setCell ⟨a.F, 11, none⟩ (.int .u64 (v.seq + 1))) from
    (((((Kp.of_below HB6.out).trans (HK7.out.mono (fun b hb => hb.elim .inl (fun e => .inr (.inr (.inr (.inl e))))))).setCell (p := ⟨P, 0, none⟩) (.inr HPl.out) _).setCell (p := ⟨P, 1, none⟩) (.inr HPl.out) _).setCell (p := ⟨a.F, 11, none⟩) (.inl (.inr (.inl rfl))) _))
  have HP9 := Lib.hid (HP8.out.kp hK9 hPF)
  have HN9 := Lib.hid (HN8.out.kp hK9 hne)
  have H9 := Lib.hid h9
  clear h8 h9 hK9 HK7 HK8 HP8 HN8 HF8 H7
  unfold pv
  go_wp2_with fail
  refine HFg.out.mono ?_
  rintro e w10 ⟨rfl, hb10⟩
  generalize (((w7.setCell ⟨P, 0, none⟩ (.int .i64 k)).setCell ⟨P, 1, none⟩ (.int .i64 i)).setCell ⟨a.F, 11, none⟩ (.int .u64 (v.seq + 1))) = W9 at hb10 HKa HP9 HN9 H9 ⊢
  have h10 := H9.out.below hb10
  have hP10 := HP9.out.below hb10 HP9.out.lt
  have hN10 := HN9.out.below hb10 HN9.out.lt
  have f10 := h10.ft.cell 10
  change _ = some (Value.map (some a.x3)) at f10
  have n1 := hN10.cell 1
  obtain ⟨x, hx, hm⟩ := h10.m3.drew.delete (t := 52) (e := 102) (ty := 0) (kt := 22) Tryz.underlying52 hkp
  have hKx : Kp (fun b => b = a.x3) w10.drew (ChangeMaps.setBlock w10.drew a.x3 x) := kp_block
  have hne10 := h10.ne
  have s10 : (ChangeMaps.setBlock w10.drew a.x3 x).cell? ⟨a.F, 10, none⟩ = some (.map (some a.x3)) := (hKx.cell (p := ⟨a.F, 10, none⟩) h10.ft.lt hne10.F3).trans f10
  have hN3 : ¬ N = a.x3 := (h10.m3.ne hN10).symm
  have s1 : (ChangeMaps.setBlock w10.drew a.x3 x).cell? ⟨N, 1, none⟩ = some (.int .u32 p) := (hKx.cell (p := ⟨N, 1, none⟩) hN10.lt hN3).trans n1
  have HKx := Lib.hid hKx
  have HM := Lib.hid hm
  have H10 := Lib.hid h10
  have HP10 := Lib.hid hP10
  have HN10 := Lib.hid hN10
  have HB10 := Lib.hid hb10
  have HN3 := Lib.hid hN3
  clear hKx hne10 hm h10 hP10 hN10 hb10 hN3
  go_wp2_with fail
  go_region_held3 (fun w' => w'.cell? ⟨a.F, 10, none⟩ = some (.map (some a.x3)) ∧ w'.cell? ⟨N, 1, none⟩ = some (.int .u32 p)) ((go_keep)) ((fail))
  have hk11 : Kp (fun b => b = a.x3) w10 (ChangeMaps.setBlock w10.drew a.x3 x) := ((Kp.refl _ w10).drew).trans HKx.out
  have hm11 : MpAt (ChangeMaps.setBlock w10.drew a.x3 x) a.x3 (drM v.d) v.n3 := by
    have hm := HM.out
    have e1 : rmM (drM v.d) p = drM v.d := rm_none p HQ.out.d
    have e2 : (drM v.d p).isSome = false := by unfold drM; rw [HQ.out.d p]; rfl
    change MpAt _ a.x3 (rmM (drM v.d) p) (if (drM v.d p).isSome = true then v.n3 - 1 else v.n3) at hm
    rw [e1, e2] at hm
    exact hm
  have h11 := H10.out.map3 hk11 (d := v.d) (n3 := v.n3) hm11
  have hP11 := HP10.out.kp hk11 (H10.out.m3.ne HP10.out).symm
  have hN11 := HN10.out.kp hk11 HN3.out
  have HK11 := Lib.hid ((HKa.out.trans (Kp.of_below HB10.out)).trans (hk11.mono (fun b hb => .inr (.inr (.inr (.inr (.inr (.inr (.inl hb)))))))))
  generalize (ChangeMaps.setBlock w10.drew a.x3 x) = W11 at hk11 hm11 h11 hP11 hN11 HK11 ⊢
  have f9 := h11.ft.cell 9
  change _ = some (Value.map (some a.x2)) at f9
  have n11 := hN11.cell 1
  have p0 := hP11.cell 0
  have p1 := hP11.cell 1
  obtain ⟨y, hy, hmy⟩ := h11.m2.drew.update (t := 51) (e := 47) Tryz.underlying51 hkp (pv (k, i))
  unfold pv at hy
  have hKy : Kp (fun b => b = a.x2) W11.drew (ChangeMaps.setBlock W11.drew a.x2 y) := kp_block
  have hne11 := h11.ne
  have t9 : (ChangeMaps.setBlock W11.drew a.x2 y).cell? ⟨a.F, 9, none⟩ = some (.map (some a.x2)) := (hKy.cell (p := ⟨a.F, 9, none⟩) h11.ft.lt hne11.F2).trans f9
  have hN2' : ¬ N = a.x2 := (h11.m2.ne hN11).symm
  have hP2' : ¬ P = a.x2 := (h11.m2.ne hP11).symm
  have t1 : (ChangeMaps.setBlock W11.drew a.x2 y).cell? ⟨N, 1, none⟩ = some (.int .u32 p) := (hKy.cell (p := ⟨N, 1, none⟩) hN11.lt hN2').trans n11
  have tp0 : (ChangeMaps.setBlock W11.drew a.x2 y).cell? ⟨P, 0, none⟩ = some (.int .i64 k) := (hKy.cell (p := ⟨P, 0, none⟩) hP11.lt hP2').trans p0
  have tp1 : (ChangeMaps.setBlock W11.drew a.x2 y).cell? ⟨P, 1, none⟩ = some (.int .i64 i) := (hKy.cell (p := ⟨P, 1, none⟩) hP11.lt hP2').trans p1
  have hk12 : Kp (fun b => b = a.x2) W11 (ChangeMaps.setBlock W11.drew a.x2 y) := ((Kp.refl _ W11).drew).trans hKy
  have hm12 : MpAt (ChangeMaps.setBlock W11.drew a.x2 y) a.x2 (plM (fun u => if u = p then some (k, i) else v.wr u)) (v.n2 + 1) := by
    have e2 : (plM v.wr p).isSome = false := by unfold plM; rw [HP.out]; rfl
    change MpAt _ a.x2 (upM (plM v.wr) p (pv (k, i))) (if (plM v.wr p).isSome = true then v.n2 else v.n2 + 1) at hmy
    rw [up_pl, e2] at hmy
    exact hmy
  have h12 := h11.map2 hk12 hm12
  have HEnd := Lib.hid (And.intro (h12.narrow (fun b hb => .inl hb) (fun b hb => (hb.imp (fun s => by rw [HN2.out] at s; exact s) id).elim (HH.out.ch.inX b) (HH.out.inX b))) (HK11.out.trans (hk12.mono (fun b hb => (.inr (.inr (.inr (.inr (.inr (.inl hb))))) : o.F c.nb b ∨ FO a m.g b)))))
  clear hk11 hm11 h11 hP11 hN11 HK11 hmy hKy hne11 hN2' hP2' hk12 hm12 h12 HKx HM H10 HP10 HN10 HB10 HN3 HKa HP9 HN9 H9
  go_wp2_with fail
  go_region_held3 (fun w' => w'.cell? ⟨a.F, 9, none⟩ = some (.map (some a.x2)) ∧ w'.cell? ⟨N, 1, none⟩ = some (.int .u32 p) ∧ w'.cell? ⟨P, 0, none⟩ = some (.int .i64 k) ∧ w'.cell? ⟨P, 1, none⟩ = some (.int .i64 i)) ((go_keep)) ((fail))
  go_wp2
  rw [Exit.noGoto_ret]
  go_ret
  exact ⟨rfl, HEnd.out⟩
end Go.Proofs.YtbfifppdcmimaaaGreat
/-
  The translation takes what was written for sealed, where nothing was dropped and no page was sealed before. Nothing of one statement alone stands here.
-/
namespace Go.Proofs.YtbfifppdcmimaaaGreat
open Go.RowKit Crcm Gcm Go.ChangeShapes Go.Maps

/-- what is sealed, while the rest is still to come -/
def seL (se wr : Int → Option (Int × Int)) (left : Int → Bool) (z : Int) : Option (Int × Int) := if (wr z).isSome = true ∧ left z = false then wr z else se z

theorem seL_start (se wr : Int → Option (Int × Int)) : seL se wr (fun z => (plM wr z).isSome) = se := by
  funext z
  unfold seL
  rw [if_neg]
  rintro ⟨h1, h2⟩
  unfold plM at h2
  cases q : wr z with
  | none => rw [q] at h1; cases h1
  | some p => simp [q] at h2
theorem seL_end (se wr : Int → Option (Int × Int)) {left : Int → Bool} (h : ∀ z, left z = false) : seL se wr left = fun z => if (wr z).isSome = true then wr z else se z := by
  funext z
  unfold seL
  simp [h z]
theorem seL_step (se wr : Int → Option (Int × Int)) {left : Int → Bool} {z : Int} {p : Int × Int} (hp : wr z = some p) : (fun y => if y = z then some p else seL se wr left y) = seL se wr (fun x => left x && x != z) := by
  funext y
  unfold seL
  by_cases e : y = z
  · subst e
    simp [hp]
  · have : (y != z) = true := by simpa using e
    simp [e, this]
theorem drM_none {d : Int → Bool} (hd : ∀ z, d z = false) : drM d = fun _ => none := by
  funext z
  unfold drM
  rw [hd z]
  rfl
theorem plM_none : plM (fun _ => none) = fun _ => none := rfl

set_option maxRecDepth 100000 in
set_option maxHeartbeats 4000000 in
theorem fsettle_one {w : World} {X : Nat → Prop} {o : Own} {c : Ch} {m : Mg} {a : Fa} {v : Fv} (h : FtAt w X o c m a v) (hd : ∀ z, v.d z = false) (h3 : v.n3 = 0) (hdis : ∀ z, (v.wr z).isSome = true → v.se z = none) :
    Calls Tryz.prog 45 #[.pointer (some ⟨a.F, 0, none⟩)] w fun e w' => e = .returned (.tuple #[]) ∧
      (∃ n1, FtAt w' X o c m a { v with se := fun z => if (v.wr z).isSome = true then v.wr z else v.se z, n1 := n1, wr := fun _ => none, n2 := 0 }) ∧ Kp (fun b => o.F c.nb b ∨ FO a m.g b) w w' := by
  have f10 := h.ft.cell 10
  change _ = some (Value.map (some a.x3)) at f10
  obtain ⟨o1, hr1, hrg1⟩ := h.m3.range (t := 52) (e := 102) Tryz.underlying52
  have hB1 : Below w.heap.size w (w.alloc o1) := (Below.refl _ _).alloc (Nat.le_refl _) _
  have h1 := h.below hB1
  have hB1 := Lib.hid hB1
  have HH := Lib.hid h
  clear h
  obtain ⟨R1, hR1⟩ : ∃ R1, w.heap.size = R1 := ⟨_, rfl⟩
  rw [hR1] at hr1 hrg1
  have hB1' := hB1.out
  generalize w.alloc o1 = W1 at hr1 hrg1 h1 hB1' hB1
  have f9 := h1.ft.cell 9
  change _ = some (Value.map (some a.x2)) at f9
  obtain ⟨o2, hr2, hrg2⟩ := h1.m2.range (t := 51) (e := 47) Tryz.underlying51
  have hB2 : Below W1.heap.size W1 (W1.alloc o2) := (Below.refl _ _).alloc (Nat.le_refl _) _
  obtain ⟨R, hR⟩ : ∃ R, W1.heap.size = R := ⟨_, rfl⟩
  rw [hR] at hr2 hrg2
  have hRl : w.heap.size ≤ R := by rw [← hR]; exact hB1'.size
  have h2 : FtAt (W1.alloc o2) (fun b => X b ∨ b = R) o c m a v := h1.widen hB2 (fun b hb => hb.imp id (fun e => by rw [hR, e]; exact Nat.le_refl _)) (fun b hb => hb.elim (fun e => Nat.lt_of_lt_of_le (h1.ch.old b e) hB2.size) (fun e => by rw [e]; exact hrg2.lt)) (fun b hb => .inl hb)
  have hK2 : Kp (fun b => o.F c.nb b ∨ FO a m.g b) w (W1.alloc o2) := (Kp.of_below hB1').trans (Kp.of_below hB2)
  generalize W1.alloc o2 = W2 at hr2 hrg2 h2 hK2
  have hn1 : ∀ ty, (Instr.next (.pointer (some ⟨R1, 0, none⟩)) false ty).run Tryz.prog W1 = .ok (.tuple #[.bool false]) W1 := by
    rcases hrg1.next with ⟨-, -, q⟩ | ⟨z, u, w', cnt', hl, hz, -⟩
    · exact q
    · exfalso
      have : drM v.d z = none := by unfold drM; rw [hd z]; rfl
      rw [this] at hz
      cases hz
  have H2 := Lib.hid h2
  have HRg := Lib.hid hrg2
  have HK := Lib.hid hK2
  have HRl := Lib.hid hRl
  clear h1 hB1 hB1' hB2 hrg1 h2 hrg2 hK2 hRl hR
  go_enter Tryz.func45, Tryz.ntmps45
  go_wp2_with fail
  refine wp_loop_once ?_
  go_wp2_with fail
  go_loopw [5] (fun _ wr => ∃ (left : Int → Bool) (cnt n1 : Nat), RgAt wr a.x2 R (plM v.wr) v.n2 left cnt ∧ FtAt wr (fun b => X b ∨ b = R) o c m a { v with se := seL v.se v.wr left, n1 := n1 } ∧ Kp (fun b => o.F c.nb b ∨ FO a m.g b) w wr) (fun _ wr => rgL wr a.x2 R)
  case atStart =>
    refine ⟨_, _, v.n1, HRg.out, ?_, HK.out⟩
    rw [seL_start]
    exact H2.out
  case round =>
    obtain ⟨left, cnt, n1, hrg, hf, hk⟩ := hrel
    rcases hrg.next with ⟨-, hl0, hnx⟩ | ⟨z, u, w1, cnt', hlz, hmz, hz, hnx, hrg1, hlt, hk1, hs1, hen⟩
    · have f10' := hf.ft.cell 10
      change _ = some (Value.map (some a.x3)) at f10'
      have hne := hf.ne
      obtain ⟨y1, hy1, hm1⟩ := hf.m3.clear (t := 52) (e := 102) (ty := 0) Tryz.underlying52
      have hk1 : Kp (fun b => b = a.x3) wr (ChangeMaps.setBlock wr a.x3 y1) := kp_block
      have hm1' : MpAt (ChangeMaps.setBlock wr a.x3 y1) a.x3 (drM v.d) v.n3 := by rw [drM_none hd, h3]; exact hm1
      have hf1 := hf.map3 hk1 (d := v.d) (n3 := v.n3) hm1'
      have hK1 := hk.trans (hk1.mono (fun b hb => (.inr (.inr (.inr (.inr (.inr (.inr (.inl hb)))))) : o.F c.nb b ∨ FO a m.g b)))
      generalize ChangeMaps.setBlock wr a.x3 y1 = V1 at hy1 hm1 hk1 hm1' hf1 hK1
      have f9' := hf1.ft.cell 9
      change _ = some (Value.map (some a.x2)) at f9'
      obtain ⟨y2, hy2, hm2⟩ := hf1.m2.clear (t := 51) (e := 47) (ty := 0) Tryz.underlying51
      have hk2 : Kp (fun b => b = a.x2) V1 (ChangeMaps.setBlock V1 a.x2 y2) := kp_block
      have hf2 := hf1.map2 hk2 (wr := fun _ => none) (n2 := 0) hm2
      have hK2 := hK1.trans (hk2.mono (fun b hb => (.inr (.inr (.inr (.inr (.inr (.inl hb))))) : o.F c.nb b ∨ FO a m.g b)))
      have hf3 := hf2.narrow (fun b hb => .inl hb) (fun b hb => hb.elim (HH.out.ch.inX b) (HH.out.inX b))
      have e := seL_end v.se v.wr hl0
      have HE : Hid ((∃ n1, FtAt (ChangeMaps.setBlock V1 a.x2 y2) X o c m a { v with se := fun z => if (v.wr z).isSome = true then v.wr z else v.se z, n1 := n1, wr := fun _ => none, n2 := 0 }) ∧ Kp (fun b => o.F c.nb b ∨ FO a m.g b) w (ChangeMaps.setBlock V1 a.x2 y2)) := Lib.hid ⟨⟨n1, by rw [← e]; exact hf3⟩, hK2⟩
      clear hm1 hk1 hm1' hf1 hK1 hm2 hk2 hf2 hK2 hf3 e hf hk hrg hne
      go_wp2
      go_end0
      exact ⟨rfl, HE.out⟩
    · obtain ⟨⟨k1, i1⟩, hwz, rfl⟩ : ∃ p, v.wr z = some p ∧ u = pv p := by
        unfold plM at hmz
        cases q : v.wr z with
        | none => rw [q] at hmz; cases hmz
        | some p => rw [q] at hmz; exact ⟨p, rfl, by injection hmz with e; exact e.symm⟩
      have hseN : seL v.se v.wr left z = none := by
        unfold seL
        rw [if_neg (by rintro ⟨-, e⟩; rw [hlz] at e; cases e)]
        exact hdis z (by rw [hwz]; rfl)
      have hRo : ∀ b, o.F c.nb b ∨ FO a m.g b → ¬ b = R := fun b hb e => by have := HH.out.lt b hb; have := HRl.out; omega
      have hf1 := hf.kp hk1 (fun b e => .inr e) hRo
      have hK1 : Kp (fun b => o.F c.nb b ∨ FO a m.g b) w w1 := ⟨hk1.os.trans hk.os, hk1.tape.trans hk.tape, hk1.output.trans hk.output, Nat.le_trans hk.size hk1.size, fun b hb hg => (hk1.block b (Nat.lt_of_lt_of_le hb hk.size) (fun e => by have e2 : b = R := e; have := HRl.out; omega)).trans (hk.block b hb hg)⟩
      obtain ⟨Q, hQ⟩ : ∃ Q, w1.heap.size = Q := ⟨_, rfl⟩
      have hQ0 : wr.heap.size = Q := hs1.symm.trans hQ
      clear hs1
      have hBa : Below w1.heap.size w1 (w1.alloc (.cells #[.int .i64 k1, .int .i64 i1] 47)) := (Below.refl _ _).alloc (Nat.le_refl _) _
      have hfa := hf1.below hBa
      have hbQ : Blk (w1.alloc (.cells #[.int .i64 k1, .int .i64 i1] 47)) Q 47 #[.int .i64 k1, .int .i64 i1] := by rw [← hQ]; exact heap_alloc_new w1 _
      have fa8 := hfa.ft.cell 8
      change _ = some (Value.map (some a.x1)) at fa8
      have hlk := look_pl hfa.m1 hz
      simp only [hseN] at hlk
      change _ = Result.ok (Value.tuple #[Value.agg #[Value.int .i64 0, Value.int .i64 0], Value.bool false]) _ at hlk
      have hBb := hBa.alloc hBa.size (.cells #[.int .i64 0, .int .i64 0] 47)
      have hfb := hf1.below hBb
      have hbQ2 := hbQ.alloc (.cells #[.int .i64 0, .int .i64 0] 47)
      have fb8 := hfb.ft.cell 8
      change _ = some (Value.map (some a.x1)) at fb8
      have b0 := hbQ2.cell 0
      have b1 := hbQ2.cell 1
      obtain ⟨y, hy, hm⟩ := hfb.m1.drew.update (t := 51) (e := 47) Tryz.underlying51 hz (pv (k1, i1))
      unfold pv at hy hnx hen
      have hne := hfb.ne
      have hKy : Kp (fun b => b = a.x1) ((w1.alloc (.cells #[.int .i64 k1, .int .i64 i1] 47)).alloc (.cells #[.int .i64 0, .int .i64 0] 47)).drew (ChangeMaps.setBlock ((w1.alloc (.cells #[.int .i64 k1, .int .i64 i1] 47)).alloc (.cells #[.int .i64 0, .int .i64 0] 47)).drew a.x1 y) := kp_block
      have fc8 := (hKy.cell (p := ⟨a.F, 8, none⟩) hfb.ft.lt hne.F1).trans fb8
      have hQ1 : ¬ Q = a.x1 := (hfb.m1.ne hbQ2).symm
      have d0 := (hKy.cell (p := ⟨Q, 0, none⟩) hbQ2.lt hQ1).trans b0
      have d1 := (hKy.cell (p := ⟨Q, 1, none⟩) hbQ2.lt hQ1).trans b1
      have hk12 : Kp (fun b => b = a.x1) ((w1.alloc (.cells #[.int .i64 k1, .int .i64 i1] 47)).alloc (.cells #[.int .i64 0, .int .i64 0] 47)) (ChangeMaps.setBlock ((w1.alloc (.cells #[.int .i64 k1, .int .i64 i1] 47)).alloc (.cells #[.int .i64 0, .int .i64 0] 47)).drew a.x1 y) := ((Kp.refl _ _).drew).trans hKy
      have hm12 : ∃ n1', MpAt (ChangeMaps.setBlock ((w1.alloc (.cells #[.int .i64 k1, .int .i64 i1] 47)).alloc (.cells #[.int .i64 0, .int .i64 0] 47)).drew a.x1 y) a.x1 (plM (seL v.se v.wr (fun x => left x && x != z))) n1' := by
        change MpAt _ a.x1 (upM (plM (seL v.se v.wr left)) z (pv (k1, i1))) _ at hm
        rw [up_pl, seL_step v.se v.wr hwz] at hm
        exact ⟨_, hm⟩
      obtain ⟨n1', hm12⟩ := hm12
      have hf12 := hfb.map1 hk12 hm12
      have hrg12 := (hrg1.below hBb).kp hk12 hne.n12.symm (fun e => hRo _ (.inr (.inr (.inr (.inr (.inl rfl))))) e.symm)
      have HRel := Lib.hid (And.intro hrg12 (And.intro hf12 ((hK1.trans (Kp.of_below hBb)).trans (hk12.mono (fun b hb => (.inr (.inr (.inr (.inr (.inl hb)))) : o.F c.nb b ∨ FO a m.g b))))))
      have HM := Lib.hid hrg.left_eq
      have HLt := Lib.hid hlt
      clear hne hKy hk12 hm12 hf12 hrg12 hfb hfa hf1 hK1 hBa hBb hbQ hbQ2 hm hRo hseN hrg hrg1 hf hk hk1 hlt
      go_wp2_with fail
      go_region_held3 (fun w' => w'.cell? ⟨a.F, 8, none⟩ = some (.map (some a.x1)) ∧ w'.cell? ⟨Q, 0, none⟩ = some (.int .i64 k1) ∧ w'.cell? ⟨Q, 1, none⟩ = some (.int .i64 i1)) ((go_keep)) ((fail))
      go_wp2
      go_roundw
      case rel => exact ⟨_, _, _, HRel.out⟩
      case measure => rw [HRel.out.1.left_eq, HM.out]; exact HLt.out
end Go.Proofs.YtbfifppdcmimaaaGreat
/-
  The translation seals where nothing is to be done ahead of it and nothing fails. Nothing of one statement alone stands here.
-/
namespace Go.Proofs.YtbfifppdcmimaaaGreat
open Go.RowKit Crcm Gcm Go.ChangeShapes Go.Maps

/-- the bytes of a seal -/
def slB (res bad : Int) (tx : List Int) : List Int := [res % 256, res / 256 % 256, bad % 256, bad / 256 % 256, 0, 0, 0, 0] ++ tx
theorem own_eight (w : World) (base g : Nat) (a b c d e f x y : Int) (hg : g = w.heap.size) (hb : base ≤ g) :
    (w.alloc (.cells #[.int .u8 a, .int .u8 b, .int .u8 c, .int .u8 d, .int .u8 e, .int .u8 f, .int .u8 x, .int .u8 y] 5)).ownsRow base 5 1 (.slice (some ⟨g, 0, none⟩) 8 8) 8 ([a, b, c, d, e, f, x, y].map (Value.int .u8)) := by
  subst hg
  refine ⟨rfl, .inr ⟨w.heap.size, 8, _, rfl, hb, heap_alloc_new w _, Nat.le_refl _, by decide, rfl, rfl⟩⟩

set_option maxRecDepth 100000 in
set_option maxHeartbeats 4000000 in
theorem fseal_ok {w : World} {X : Nat → Prop} {o : Own} {c : Ch} {m : Mg} {a : Fa} {v : Fv} (h : FtAt w X o c m a v) (q : Nomi c m v) (hup : c.up = true) (hres : 0 ≤ v.res ∧ v.res < 65536) (hbad : 0 ≤ v.bad ∧ v.bad < 65536)
    {b off n cap : Nat} {tx : List Int} (hr : RwX w X (some ⟨b, off, none⟩) tx) (hl : tx.length = n) (hn : n + 8 = c.sz)
    (ht : Tagm.Rt 2 0 (v.seq + 1) (v.ep + 1)) (hp : v.wr 0 = none) (hp0 : v.se 0 = none) (hdis : ∀ z, (v.wr z).isSome = true → v.se z = none) {k i : Int} {l2 : List Bk} {c2 : Ch}
    (hR : prgT (Tagm.pg 2 0 (v.seq + 1) (v.ep + 1) (slB v.res v.bad tx)) m.l c = ((k, i, 0), l2, c2)) (hn2 : c2.nb = c.nb) (hl2 : l2.length = m.l.length) :
    Calls Tryz.prog 12 #[.pointer (some ⟨a.F, 0, none⟩), .slice (some ⟨b, off, none⟩) n cap] w fun e w' => e = .returned (.int .i64 0) ∧
      (∃ n1 ta tc, FtAt w' X o c2 { m with l := l2 } a { v with seq := v.seq + 1, ep := v.ep + 1, ta := ta, tc := tc, tx := tx, se := fun z => if z = 0 then some (k, i) else if (v.wr z).isSome = true then v.wr z else v.se z, n1 := n1, wr := fun _ => none, n2 := 0 }) ∧ Kp (fun b => o.F c.nb b ∨ FO a m.g b) w w' := by
  have hsz := h.ch.good.2.2.2.2
  have hU := Lib.hid (fup_any h.ch (F := a.F) (h.ft.cell 0))
  rw [hup, if_pos rfl] at hU
  have f0 := h.ft.cell 0
  change _ = some (Value.pointer (some ⟨o.bc, 0, none⟩)) at f0
  have HG := Lib.hid (geo_any h.ch)
  have hop : o.p = .pointer (some ⟨o.bc, 0, none⟩) := rfl
  rw [hop] at HG
  have gf := gfield2
  have hws : wrap64 ((c.sz : Int) - 8) = (n : Int) := by
    rw [IntWalk.wrap64_in _ ⟨by omega, by omega⟩]
    omega
  have HH := Lib.hid h
  have HQ := Lib.hid q
  have HR := Lib.hid hr
  have HL := Lib.hid hl
  have HN := Lib.hid hn
  have HT := Lib.hid ht
  have HP := Lib.hid (And.intro hp (And.intro hp0 hdis))
  have HPr := Lib.hid hR
  have HN2 := Lib.hid (And.intro hn2 hl2)
  have HRb := Lib.hid (And.intro hres hbad)
  clear h q hr hl hn ht hp hp0 hdis hR hn2 hl2 hres hbad hsz hop
  go_enter Tryz.func12, Tryz.ntmps12
  go_wp2_with fail
  refine hU.out.mono ?_
  rintro e w0 ⟨rfl, rfl⟩
  go_wp2_with fail
  refine HG.out.mono ?_
  rintro e w1 ⟨rfl, hb1⟩
  have h1 := HH.out.below hb1
  have g2 := h1.ft.cell 2
  have g3 := h1.ft.cell 3
  change _ = some (Value.int .i64 v.res) at g2
  change _ = some (Value.int .i64 v.bad) at g3
  go_wp2_with fail
  go_region_held3 (fun w' => w'.cell? ⟨a.F, 2, none⟩ = some (.int .i64 v.res) ∧ w'.cell? ⟨a.F, 3, none⟩ = some (.int .i64 v.bad)) ((go_keep)) ((fail))
  have e8 : ∀ x : Int, IntKind.u8.wrap x = x % 256 := fun x => by unfold IntKind.wrap; simp [IntKind.signed, IntKind.bits]
  rw [e8, e8, e8, e8]
  have hO := (own_eight w1 w.heap.size w1.heap.size (v.res % 256) (v.res / 256 % 256) (v.bad % 256) (v.bad / 256 % 256) 0 0 0 0 rfl hb1.size)
  have hO2 := own_below hO ((Below.refl _ _).drew)
  have hb2 := (hb1.alloc hb1.size (.cells #[.int .u8 (v.res % 256), .int .u8 (v.res / 256 % 256), .int .u8 (v.bad % 256), .int .u8 (v.bad / 256 % 256), .int .u8 0, .int .u8 0, .int .u8 0, .int .u8 0] 5)).drew
  clear hO h1 g2 g3 hb1
  generalize w1.heap.size = g8 at hO2 ⊢
  generalize (w1.alloc (.cells #[.int .u8 (v.res % 256), .int .u8 (v.res / 256 % 256), .int .u8 (v.bad % 256), .int .u8 (v.bad / 256 % 256), .int .u8 0, .int .u8 0, .int .u8 0, .int .u8 0] 5)).drew = W2 at hO2 hb2 ⊢
  have hsrc := (HR.out.1.below hb2).src
  have HO2 := Lib.hid hO2
  have HB2 := Lib.hid hb2
  clear hO2 hb2
  go_wp2_with (at_builtin; refine append_bytes rfl _ _ rfl w.heap.size _ 8 _ rfl HO2.out (some ⟨b, off, none⟩) n cap tx rfl HL.out hsrc (by have := HH.out.ch.good.2.2.2.2; have := HN.out; omega) HB2.out.size ?_; intro v3 W3 hO3 hb3)
  obtain ⟨g3, cp3, rfl, hg3, hc3⟩ := own_shapeF hO3 (by omega)
  have hB3 : Below w.heap.size w W3 := HB2.out.trans hb3
  have hu : ∀ x ∈ slB v.res v.bad tx, U8 x := by
    intro x hx
    unfold slB at hx
    rcases List.mem_append.1 hx with hx | hx
    · have := HRb.out
      simp only [List.mem_cons, List.not_mem_nil, or_false] at hx
      unfold U8
      omega
    · exact HR.out.1.1 x hx
  have hrw3 : RwX W3 X (some ⟨g3, 0, none⟩) (slB v.res v.bad tx) := by
    obtain ⟨A, c', e1, hR, -, -⟩ := Rw.of_own hO3 hu
    injection e1 with e1 e2 e3
    subst e1
    exact hR.toX (fun q => by have := HH.out.ch.old g3 q; omega)
  have hlen : (slB v.res v.bad tx).length = 8 + n := by unfold slB; rw [List.length_append, HL.out]; rfl
  have hs : Tagm.Sz ((8 + n : Nat) : Int) := by have := HH.out.ch.good.2.2.2.2; have := HN.out; unfold Tagm.Sz; omega
  have HW := Lib.hid (fwrite_ok (HH.out.below hB3) HQ.out (kd := 2) (p := 0) 0 0 (cap := cp3) hrw3 hlen hs HT.out HP.out.1 HPr.out HN2.out.1 HN2.out.2)
  unfold tg at HW
  have HB3 := Lib.hid hB3
  clear hO3 hb3 hg3 hc3 hB3 hu hrw3 hlen hs HB2 HO2 hsrc
  generalize 8 + n = n8 at HW ⊢
  go_wp2_with fail
  refine HW.out.mono ?_
  rintro e w5 ⟨rfl, h5, hk5⟩
  have hX : ∀ b, o.F c.nb b ∨ FO a m.g b → X b := fun b hb => hb.elim (HH.out.ch.inX b) (HH.out.inX b)
  have HK5 := Lib.hid ((Kp.of_below HB3.out : Kp (fun b => o.F c.nb b ∨ FO a m.g b) w W3).trans hk5)
  have hr5 := HR.out.kp HK5.out hX
  have HCl := Lib.hid (clone_any n cap b off tx w5 hr5.1 HL.out (by have := HH.out.ch.good.2.2.2.2; have := HN.out; omega))
  have H5 := Lib.hid h5
  have HX := Lib.hid hX
  clear h5 hk5 hX hr5 HW
  go_wp2_with fail
  refine HCl.out.mono ?_
  rintro e w6 ⟨⟨g, cc, rfl, hcc, hg, hrw⟩, hb6⟩
  have h6 := H5.out.below hb6
  have z7 := h6.ft.frozen 7
  have z12 := h6.ft.frozen 12
  have y7 := h6.ft.cell 7
  have hsz5 : w.heap.size ≤ w5.heap.size := HK5.out.size
  have hrX6 : RwX w6 X (some ⟨g, 0, none⟩) tx := hrw.toX (fun q => by have := HH.out.ch.old g q; omega)
  have hk7 : Kp (fun b => b = a.F) w6 (w6.setCell ⟨a.F, 7, none⟩ (.slice (some ⟨g, 0, none⟩) n cc)) := Kp.one _ ⟨a.F, 7, none⟩ _
  have h7 := h6.text hk7 (ta := some ⟨g, 0, none⟩) (tc := cc) (tx := tx) (by
    have := h6.ft.put 7 (.slice (some ⟨g, 0, none⟩) n cc)
    unfold ftV
    rw [HL.out]
    exact this) (hrX6.kp hk7 (fun b e => HX.out b (.inr (.inl e))))
  have y12 := h7.ft.cell 12
  change _ = some (Value.int .u64 v.ep) at y12
  have hw12 : IntKind.u64.wrap (v.ep + 1) = v.ep + 1 := IntWalk.u64_in _ ⟨by have := HT.out.2.2.2; omega, by have := HT.out.2.2.2; omega⟩
  have hk8 : Kp (fun b => b = a.F) (w6.setCell ⟨a.F, 7, none⟩ (.slice (some ⟨g, 0, none⟩) n cc)) ((w6.setCell ⟨a.F, 7, none⟩ (.slice (some ⟨g, 0, none⟩) n cc)).setCell ⟨a.F, 12, none⟩ (.int .u64 (v.ep + 1))) := Kp.one _ ⟨a.F, 12, none⟩ _
  have h8 := h7.nums hk8 (s := v.seq + 1) (e := v.ep + 1) (h7.ft.put 12 (.int .u64 (v.ep + 1)))
  have HK8 := Lib.hid (HK5.out.trans ((Kp.of_below hb6 : Kp (fun b => o.F c.nb b ∨ FO a m.g b) w5 w6).trans ((hk7.trans hk8).mono (fun b hb => (.inr (.inl hb) : o.F c.nb b ∨ FO a m.g b)))))
  have HSt := Lib.hid (fsettle_one h8 HQ.out.d HQ.out.n3 (by
    intro z hz
    by_cases e : z = 0
    · subst e; exact HP.out.2.1
    · change (if z = 0 then some (k, i) else v.wr z).isSome = true at hz
      rw [if_neg e] at hz
      exact HP.out.2.2 z hz))
  clear h6 h7 h8 hk7 hk8 hrX6 hrw hb6 HCl hg hcc
  go_wp2_with fail
  refine HSt.out.mono ?_
  rintro e w9 ⟨rfl, ⟨n1, h9⟩, hk9⟩
  have HE := Lib.hid (And.intro h9 (HK8.out.trans (hk9.mono (fun b hb => hb.imp (fun s => by rw [HN2.out.1] at s; exact s) id))))
  clear h9 hk9 HSt HK8
  go_wp2
  go_ret
  refine ⟨rfl, ⟨n1, some ⟨g, 0, none⟩, cc, ?_⟩, HE.out.2⟩
  have q := HE.out.1
  have e : (fun z => if (if z = 0 then some (k, i) else v.wr z).isSome = true then (if z = 0 then some (k, i) else v.wr z) else v.se z) = fun z => if z = 0 then some (k, i) else if (v.wr z).isSome = true then v.wr z else v.se z := by
    funext z
    by_cases e : z = 0
    · simp [e]
    · simp only [if_neg e]
  simp only [e] at q
  exact q
end Go.Proofs.YtbfifppdcmimaaaGreat
/-
  The translation: how many pages are used. Nothing of one statement alone stands here.
-/
namespace Go.Proofs.YtbfifppdcmimaaaGreat
open Go.RowKit Crcm Go.ChangeShapes Go.Maps

theorem len_pl {w : World} {b n : Nat} {m : Int → Option Value} (h : MpAt w b m n) (ty : TypeId) : (Builtin.len_ #[51] ty #[.map (some b)]).run Tryz.prog w = .ok (.int .i64 n) w := by
  obtain ⟨es, clock, h1, h2, -⟩ := h.es
  have h3 := MapKept.run_getObj_map (P := Tryz.prog) h1
  simp [Builtin.len_, run_underlying Tryz.underlying51, h3, goInt, Result.andThen, h2]
set_option maxRecDepth 100000 in
theorem fused_any {w : World} {F x1 x2 n1 n2 : Nat} {m1 m2 : Int → Option Value} (h8 : w.cell? ⟨F, 8, none⟩ = some (.map (some x1))) (h9 : w.cell? ⟨F, 9, none⟩ = some (.map (some x2)))
    (hM1 : MpAt w x1 m1 n1) (hM2 : MpAt w x2 m2 n2) (hs : n1 + n2 < 1000000) :
    Calls Tryz.prog 14 #[.pointer (some ⟨F, 0, none⟩)] w fun e w' => e = .returned (.int .i64 ((n1 : Int) + n2)) ∧ Below w.heap.size w w' := by
  have q1 := fun (q : Later w) ty => len_pl (hM1.below q.bel) ty
  have q2 := fun (q : Later w) ty => len_pl (hM2.below q.bel) ty
  have l8 := fun q : Later w => q.cell h8
  have l9 := fun q : Later w => q.cell h9
  clear hM1 hM2 h8 h9
  go_enter Tryz.func14, Tryz.ntmps14
  go_upto_region 3 with (fail)
  refine wp_region_later (by kernel_rfl) (by kernel_rfl) ?_
  repeat (go_big_quiet_step (fail))
  refine wpQuiet_nil ?_
  rintro _ ⟨q, rfl⟩
  go_wp2
  go_ret
  exact ⟨rfl, q.bel⟩
end Go.Proofs.YtbfifppdcmimaaaGreat
/-
  The translation's calls Write and Read on a chip that is up. Nothing of one statement alone stands here.
-/
namespace Go.Proofs.YtbfifppdcmimaaaGreat
open Go.RowKit Crcm Gcm Go.ChangeShapes Go.Maps

variable {w w' : World} {X : Nat → Prop} {o : Own} {c : Ch} {m : Mg} {a : Fa} {v : Fv}
/-- its chip is turned -/
theorem FtAt.chip (h : FtAt w X o c m a v) {c2 : Ch} (hk : Kp (o.F c.nb) w w') (hc : ChAt w' X o c2) (hn : c2.nb = c.nb) : FtAt w' X o c2 m a v := by
  have q := h.ne
  obtain ⟨c4, b4, b4'⟩ := h.b4
  obtain ⟨c5, b5⟩ := h.b5
  have hX : ∀ b, o.F c.nb b → X b := fun b hb => h.ch.inX b hb
  exact ⟨hc, h.mg.kp hk q.oM q.og, h.cp, by rw [hn]; exact h.ml, by rw [hn]; exact h.ft.kp hk q.oF, h.tr.kp hk hX, h.m1.kp hk q.o1, h.m2.kp hk q.o2, h.m3.kp hk q.o3, ⟨c4, b4.kp hk q.o4, by rw [hn]; exact b4'⟩, ⟨c5, b5.kp hk q.o5⟩, h.n12, h.n13, h.n23, h.inX⟩

theorem fro_at (h : FtAt w X o c m a v) (hst : v.st = false) (cz : 0 ≤ cnt 4 m.l m.l.length ∧ cnt 4 m.l m.l.length ≤ 1000) (res : 0 ≤ m.r ∧ m.r ≤ 100000) (bad : 0 ≤ m.b ∧ m.b ≤ 100000) (ro : 0 ≤ m.r - (cnt 4 m.l m.l.length - m.b)) :
    Calls Tryz.prog 16 #[.pointer (some ⟨a.F, 0, none⟩)] w fun e w' => e = .returned (.bool false) ∧ Below w.heap.size w w' := by
  have q := freadOnly_any h.mg _ rfl cz res bad (F := a.F) (st := v.st) (fa := none) (nf := 0) (cf := 0) (h.ft.cell 1) (h.ft.cell 6) (h.ft.cell 15)
  refine q.mono ?_
  rintro e w' ⟨rfl, hb'⟩
  refine ⟨?_, hb'⟩
  rw [hst]
  have : decide (m.r - (cnt 4 m.l m.l.length - m.b) < ((0 : Nat) : Int)) = false := decide_eq_false (by omega)
  rw [this]
  rfl
theorem fused_at (h : FtAt w X o c m a v) (hs : v.n1 + v.n2 < 1000000) :
    Calls Tryz.prog 14 #[.pointer (some ⟨a.F, 0, none⟩)] w fun e w' => e = .returned (.int .i64 ((v.n1 : Int) + v.n2)) ∧ Below w.heap.size w w' :=
  fused_any (h.ft.cell 8) (h.ft.cell 9) h.m1 h.m2 hs

set_option maxRecDepth 100000 in
set_option maxHeartbeats 4000000 in
theorem fWrite_ok (h : FtAt w X o c m a v) (q : Nomi c m v) (hup : c.up = true) {p : Int} (hp : 1 ≤ p ∧ p < v.cap) {b off n cap : Nat} {z : List Int} (hr : RwX w X (some ⟨b, off, none⟩) z) (hl : z.length = n) (hn : n = c.sz)
    (ht : Tagm.Rt 1 p (v.seq + 1) (v.ep + 1)) (hpw : v.wr p = none) (hus : ((v.n1 : Int) + v.n2) < v.cap) (hcap : v.cap < 1000000) {k i : Int} {l2 : List Bk} {c2 : Ch} (hR : prgT (Tagm.pg 1 p (v.seq + 1) (v.ep + 1) z) m.l c = ((k, i, 0), l2, c2)) (hn2 : c2.nb = c.nb) (hl2 : l2.length = m.l.length) :
    Calls Tryz.prog 10 #[.pointer (some ⟨a.F, 0, none⟩), .int .u32 p, .slice (some ⟨b, off, none⟩) n cap] w fun e w' => e = .returned (.int .i64 0) ∧
      FtAt w' X o c2 { m with l := l2 } a { v with seq := v.seq + 1, wr := fun y => if y = p then some (k, i) else v.wr y, n2 := v.n2 + 1 } ∧ Kp (fun b => o.F c.nb b ∨ FO a m.g b) w w' := by
  have hpb : p < 8192 := ht.2.1.2
  have HU := Lib.hid (freach_any h.ch (F := a.F) (h.ft.cell 0) (cap := v.cap) (h.ft.cell 4) p (by omega))
  unfold rcE at HU
  rw [hup, if_pos rfl, if_neg (by omega)] at HU
  have f9 := h.ft.cell 9
  change _ = some (Value.map (some a.x2)) at f9
  have hlk := look_pl h.m2 (k := p) (by omega)
  rw [hpw] at hlk
  change _ = Result.ok (Value.tuple #[Value.agg #[Value.int .i64 0, Value.int .i64 0], Value.bool false]) _ at hlk
  have hB1 : Below w.heap.size w (w.alloc (.cells #[.int .i64 0, .int .i64 0] 47)) := (Below.refl _ _).alloc (Nat.le_refl _) _
  have h1 := h.below hB1
  have f0 := h1.ft.cell 0
  change _ = some (Value.pointer (some ⟨o.bc, 0, none⟩)) at f0
  have HG := Lib.hid (geo_any h1.ch)
  have hop : o.p = .pointer (some ⟨o.bc, 0, none⟩) := rfl
  rw [hop] at HG
  have gf := gfield2
  have hne : decide ((n : Int) = (c.sz : Int)) = true := decide_eq_true (by omega)
  have hbe : ((n : Int) != (c.sz : Int)) = false := by rw [hn]; simp
  have HH := Lib.hid h
  have H1 := Lib.hid h1
  have HB1 := Lib.hid hB1
  have HQ := Lib.hid q
  have HR := Lib.hid hr
  have HL := Lib.hid hl
  have HT := Lib.hid ht
  have HN := Lib.hid hn
  have HP := Lib.hid (And.intro hpw (And.intro hp (And.intro hus hcap)))
  have HPr := Lib.hid hR
  have HN2 := Lib.hid (And.intro hn2 hl2)
  clear h h1 q hr hl ht hpw hus hcap hR hn2 hl2 hB1 hop hup hp hn
  go_enter Tryz.func10, Tryz.ntmps10
  go_wp2_with fail
  refine HU.out.mono ?_
  rintro e w0 ⟨rfl, rfl⟩
  go_wp2_with fail
  refine HG.out.mono ?_
  rintro e w1 ⟨rfl, hb1⟩
  have hb1' := HB1.out.trans (hb1.mono HB1.out.size)
  have hq := HQ.out
  have HRo := Lib.hid (fro_at (HH.out.below hb1') hq.st hq.cz hq.res hq.bad hq.ro)
  have HB2 := Lib.hid hb1'
  clear hb1 hb1' hq HG f0
  go_wp2_with fail
  refine HRo.out.mono ?_
  rintro e w2 ⟨rfl, hb2⟩
  have hb2' := HB2.out.trans (hb2.mono HB2.out.size)
  have HUs : Hid (∀ W, (W.cell? ⟨a.F, 4, none⟩ = some (.int .i64 v.cap) ∧ Below w.heap.size w W) → Calls Tryz.prog 14 #[.pointer (some ⟨a.F, 0, none⟩)] W fun e w' => e = .returned (.int .i64 ((v.n1 : Int) + v.n2)) ∧ (w'.cell? ⟨a.F, 4, none⟩ = some (.int .i64 v.cap) ∧ Below w.heap.size w w')) := Lib.hid (fun W hW => by
    refine (fused_at (HH.out.below hW.2) (by have := HP.out.2.2; omega)).mono ?_
    rintro e w' ⟨rfl, hb'⟩
    exact ⟨rfl, (hb'.cell (block_lt_of_cell hW.1)).trans hW.1, hW.2.trans (hb'.mono hW.2.size)⟩)
  have g4 := (HH.out.below hb2').ft.cell 4
  change _ = some (Value.int .i64 v.cap) at g4
  have hcp : decide (v.cap ≤ (v.n1 : Int) + v.n2) = false := decide_eq_false (by have := HP.out.2.2; omega)
  clear hb2 HB2 HRo
  go_wp2_with fail
  go_region_held3 (fun w' => w'.cell? ⟨a.F, 4, none⟩ = some (.int .i64 v.cap) ∧ Below w.heap.size w w') ((first | assumption | (go_split_ands; refine ⟨?_, ?_⟩ <;> first | assumption | exact Below.drew (by assumption)))) (first | (go_at_call 14; refine (HUs.out _ ?_).mono ?_; (go_split_ands; refine ⟨?_, ?_⟩ <;> assumption); rintro e w4 ⟨rfl, hq4⟩))
  have hb4 : Below w.heap.size w w4 := hq4.2
  have HW := Lib.hid (fwrite_ok (HH.out.below hb4) HQ.out (kd := 1) (p := p) 0 0 (cap := cap) (HR.out.kp (F := fun _ => False) (Kp.of_below hb4) (fun _ g => g.elim)) HL.out (by have := HH.out.ch.good.2.2.2.2; have := HN.out; unfold Tagm.Sz; omega) HT.out HP.out.1 HPr.out HN2.out.1 HN2.out.2)
  unfold tg at HW
  have HB4 := Lib.hid hb4
  clear hb4 hq4 hb2' HUs g4
  go_wp2_with fail
  refine HW.out.mono ?_
  rintro e w5 ⟨rfl, h5, hk5⟩
  have HE := Lib.hid (And.intro h5 ((Kp.of_below HB4.out : Kp (fun b => o.F c.nb b ∨ FO a m.g b) w w4).trans hk5))
  clear h5 hk5 HW HB4
  go_wp2
  go_ret
  exact ⟨rfl, HE.out⟩

/-- a page's bytes as they stand -/
def PgR (c : Ch) (p k i : Int) (l : List Int) : Prop := ∃ j y : Nat, k = j ∧ i = y ∧ rpE c j y = 0 ∧ rdL c j y = l ∧ Tagm.Vl c.sz l ∧ Tagm.tp c.sz l = p

set_option maxRecDepth 100000 in
set_option maxHeartbeats 4000000 in
theorem fRead_none (h : FtAt w X o c m a v) (hup : c.up = true) {p : Int} (hp : 1 ≤ p ∧ p < v.cap) (hp2 : p < 4294967296) (ht : thP v.wr v.se v.d p = none) :
    Calls Tryz.prog 4 #[.pointer (some ⟨a.F, 0, none⟩), .int .u32 p] w fun e w' => e = .returned (.tuple #[.slice none 0 0, .int .i64 60]) ∧ Below w.heap.size w w' := by
  have HU := Lib.hid (freach_any h.ch (F := a.F) (h.ft.cell 0) (cap := v.cap) (h.ft.cell 4) p (by omega))
  unfold rcE at HU
  rw [hup, if_pos rfl, if_neg (by omega)] at HU
  have HT := Lib.hid (fthere_any h.ft h.m1 h.m2 h.m3 (k := p) (by omega))
  rw [ht] at HT
  change Hid (Calls _ _ _ _ (fun e w' => e = .returned (Value.tuple #[Value.agg #[Value.int .i64 0, Value.int .i64 0], Value.bool false]) ∧ _)) at HT
  clear h ht hup hp hp2
  go_enter Tryz.func4, Tryz.ntmps4
  go_wp2_with fail
  refine HU.out.mono ?_
  rintro e w0 ⟨rfl, rfl⟩
  go_wp2_with fail
  refine HT.out.mono ?_
  rintro e w1 ⟨rfl, hb1⟩
  have HE := Lib.hid (hb1.alloc hb1.size (.cells #[.int .i64 0, .int .i64 0] 47))
  clear hb1 HT HU
  go_wp2
  go_ret2
  exact ⟨rfl, HE.out⟩

set_option maxRecDepth 100000 in
set_option maxHeartbeats 4000000 in
theorem fRead_some (h : FtAt w X o c m a v) (hup : c.up = true) {p : Int} (hp : 1 ≤ p ∧ p < v.cap) (hp2 : p < 4294967296) {k i : Nat} (ht : thP v.wr v.se v.d p = some ((k : Int), (i : Int))) (hk : rpE c k i = 0) {l : List Int} (hl : rdL c k i = l) (hv : Tagm.Vl c.sz l) (htp : Tagm.tp c.sz l = p) :
    Calls Tryz.prog 4 #[.pointer (some ⟨a.F, 0, none⟩), .int .u32 p] w fun e w' => (∃ g cc, e = .returned (.tuple #[.slice (some ⟨g, 0, none⟩) c.sz cc, .int .i64 0]) ∧ c.sz ≤ cc ∧ w.heap.size ≤ g ∧ Rw w' (some ⟨g, 0, none⟩) (l.take c.sz)) ∧
      FtAt w' X o { c with reads := wrap64 (c.reads + 1) } m a v ∧ Kp (o.F c.nb) w w' := by
  have hsz := h.ch.good.2.2.2.2
  have HU := Lib.hid (freach_any h.ch (F := a.F) (h.ft.cell 0) (cap := v.cap) (h.ft.cell 4) p (by omega))
  unfold rcE at HU
  rw [hup, if_pos rfl, if_neg (by omega)] at HU
  have HT := Lib.hid (fthere_any h.ft h.m1 h.m2 h.m3 (k := p) (by omega))
  rw [ht] at HT
  change Hid (Calls _ _ _ _ (fun e w' => e = .returned (Value.tuple #[Value.agg #[Value.int .i64 (k : Int), Value.int .i64 (i : Int)], Value.bool true]) ∧ _)) at HT
  have HH := Lib.hid h
  have HK := Lib.hid hk
  have HL := Lib.hid hl
  have HV := Lib.hid hv
  have HTp := Lib.hid htp
  clear h ht hup hp hp2 hk hl hv htp
  go_enter Tryz.func4, Tryz.ntmps4
  go_wp2_with fail
  refine HU.out.mono ?_
  rintro e w0 ⟨rfl, rfl⟩
  go_wp2_with fail
  refine HT.out.mono ?_
  rintro e w1 ⟨rfl, hb1⟩
  obtain ⟨P, hP⟩ : ∃ P, w1.heap.size = P := ⟨_, rfl⟩
  have hb2 := hb1.alloc hb1.size (.cells #[.int .i64 k, .int .i64 i] 47)
  have hPk : Blk (w1.alloc (.cells #[.int .i64 k, .int .i64 i] 47)) P 47 #[.int .i64 k, .int .i64 i] := by rw [← hP]; exact heap_alloc_new w1 _
  have hPl : w.heap.size ≤ P := by rw [← hP]; exact hb1.size
  go_wp2_with fail
  generalize w1.alloc (.cells #[.int .i64 k, .int .i64 i] 47) = W2 at hb2 hPk ⊢
  have h2 := HH.out.below hb2
  have f0 := h2.ft.cell 0
  change _ = some (Value.pointer (some ⟨o.bc, 0, none⟩)) at f0
  have p0 := hPk.cell 0
  have p1 := hPk.cell 1
  have hoP : ¬ o.F c.nb P := fun e => by have := HH.out.ch.old P (HH.out.ch.inX P e); omega
  have hoF := h2.ne.oF
  have hPk' : Blk W2.drew P 47 #[.int .i64 k, .int .i64 i] := hPk
  have hFl : a.F < W2.heap.size := h2.ft.lt
  have HRd : Hid (Calls Tryz.prog 20 #[.pointer (some ⟨o.bc, 0, none⟩), .int .i64 k, .int .i64 i] W2.drew fun e w' => ∃ g cc, e = .returned (.tuple #[.slice (some ⟨g, 0, none⟩) (c.sz + 32 : Nat) cc, .int .i64 0]) ∧ (w'.cell? ⟨a.F, 0, none⟩ = some (.pointer (some ⟨o.bc, 0, none⟩)) ∧ w'.cell? ⟨P, 0, none⟩ = some (.int .i64 k) ∧ w'.cell? ⟨P, 1, none⟩ = some (.int .i64 i)) ∧
      c.sz + 32 ≤ cc ∧ w.heap.size ≤ g ∧ Rw w' (some ⟨g, 0, none⟩) l ∧ l.length = c.sz + 32 ∧ FtAt w' X o { c with reads := wrap64 (c.reads + 1) } m a v ∧ Kp (o.F c.nb) w w') := Lib.hid (by
    have hd : FtAt W2.drew X o c m a v := h2.kp (G := fun _ => False) ((Kp.refl _ W2).drew) (fun _ g => g.elim) (fun _ _ g => g)
    refine (read_yes hd.ch k i HK.out).mono ?_
    rintro e w' ⟨⟨g, cc, rfl, hc, hg, hr, hrl⟩, hch, hk⟩
    rw [HL.out] at hr hrl
    refine ⟨g, cc, rfl, ⟨(hk.cell (p := ⟨a.F, 0, none⟩) hFl hoF).trans f0, (hk.cell (p := ⟨P, 0, none⟩) hPk'.lt hoP).trans p0, (hk.cell (p := ⟨P, 1, none⟩) hPk'.lt hoP).trans p1⟩, hc, Nat.le_trans hb2.size hg, hr, hrl, hd.chip hk hch rfl, ?_⟩
    exact ((Kp.of_below hb2 : Kp (o.F c.nb) w W2).drew).trans hk)
  clear hb1 hb2 hP hPl h2 hoP hoF hPk' hFl hPk
  go_wp2_with fail
  go_region_held3 (fun w' => w'.cell? ⟨a.F, 0, none⟩ = some (.pointer (some ⟨o.bc, 0, none⟩)) ∧ w'.cell? ⟨P, 0, none⟩ = some (.int .i64 k) ∧ w'.cell? ⟨P, 1, none⟩ = some (.int .i64 i)) ((first | assumption | (go_split_ands; refine ⟨?_, ?_, ?_⟩ <;> first | assumption))) (first | (go_at_call 20; refine HRd.out.mono ?_; rintro e w4 ⟨g, cc, rfl, ⟨s0, s1, s2⟩, hcc, hg, hrw, hrl, h4, hk4⟩))
  have hsz2 : Tagm.Sz c.sz := by unfold Tagm.Sz; omega
  have HRp := Lib.hid (read_page _ c.sz cc l w4 hsz2 hrw hrl hcc (Tagm.Vl_not_Er HV.out))
  have hkp := hk4
  have H4 := Lib.hid (And.intro h4 hk4)
  clear s0 s1 s2 hrw hrl h4 hk4 HRd f0 p0 p1
  go_wp2_with fail
  refine HRp.out.mono ?_
  rintro e w5 ⟨hb5, hcase⟩
  rcases hcase with ⟨hnv, -⟩ | ⟨-, A, c5, rfl, hr5⟩
  · exact absurd HV.out hnv
  rw [HTp.out]
  unfold tg
  have hltk : (l.take c.sz).length = c.sz := by
    have := Tagm.pg_length (Tagm.tk c.sz l) (Tagm.tp c.sz l) (Tagm.ts c.sz l) (Tagm.te c.sz l) (l.take c.sz)
    rw [HV.out.2] at this
    rw [List.length_take] at this ⊢
    omega
  obtain ⟨b5, off5, rfl⟩ : ∃ b5 off5, A = some ⟨b5, off5, none⟩ := by
    obtain ⟨-, -, h0 | ⟨b, off, e, -⟩⟩ := hr5
    · rw [h0] at hltk
      simp at hltk
      omega
    · exact ⟨b, off, e⟩
  generalize Tagm.tk c.sz l = tk
  generalize Tagm.ts c.sz l = ts
  generalize Tagm.te c.sz l = te
  have hb6 := hb5.alloc hb5.size (.cells #[.int .i64 tk, .int .u32 p, .int .u64 ts, .int .u64 te] 61)
  have hTg : Blk (w5.alloc (.cells #[.int .i64 tk, .int .u32 p, .int .u64 ts, .int .u64 te] 61)) w5.heap.size 61 #[.int .i64 tk, .int .u32 p, .int .u64 ts, .int .u64 te] := heap_alloc_new w5 _
  have t1 := hTg.cell 1
  have HCl := Lib.hid (clone_any c.sz c5 b5 off5 (l.take c.sz) _ (hr5.below ((Below.refl _ w5).alloc (Nat.le_refl _) (.cells #[.int .i64 tk, .int .u32 p, .int .u64 ts, .int .u64 te] 61))) hltk (by omega))
  have HB6 := Lib.hid hb6
  have HLg := Lib.hid hkp.size
  clear hb5 hb6 hTg hr5 HRp hkp hltk
  go_wp2_with fail
  refine HCl.out.mono ?_
  rintro e w7 ⟨⟨g7, c7, rfl, hc7, hg7, hr7⟩, hb7⟩
  have hb8 := HB6.out.trans (hb7.mono HB6.out.size)
  have HE := Lib.hid (And.intro (And.intro hc7 (And.intro (show w.heap.size ≤ g7 by have := HB6.out.size; have := HLg.out; omega) hr7)) (And.intro (H4.out.1.below hb8) (H4.out.2.trans (Kp.of_below hb8 : Kp (o.F c.nb) w4 w7))))
  clear hb7 hb8 hr7 hc7 hg7 HCl HB6
  go_wp2
  go_ret2
  exact ⟨⟨g7, c7, rfl, HE.out.1.1, HE.out.1.2.1, HE.out.1.2.2⟩, HE.out.2.1, HE.out.2.2⟩
end Go.Proofs.YtbfifppdcmimaaaGreat
/-
  The translation is formatted where nothing fails. Nothing of one statement alone stands here.
-/
namespace Go.Proofs.YtbfifppdcmimaaaGreat
open Go.RowKit Crcm Gcm Go.ChangeShapes Go.Maps

theorem ChAt.grow {w w' : World} {X X' G : Nat → Prop} {o : Own} {c : Ch} (h : ChAt w X o c) (hk : Kp G w w') (hG : ∀ b, G b → X b) (hd : ∀ b, o.F c.nb b → ¬ G b) (hX : ∀ b, X' b → X b ∨ w.heap.size ≤ b) (hO : ∀ b, X' b → b < w'.heap.size) (hI : ∀ b, X b → X' b) : ChAt w' X' o c := by
  refine ⟨h.good, hO, fun b hb => hI _ (h.inX b hb), h.neb, h.nep, h.inj, ?_, ?_, fun k hkn => ?_⟩
  · obtain ⟨fv, h1, h2⟩ := h.chip
    exact ⟨fv, h1.kp hk (hd _ (.inl rfl)), (h2.widen (Below.refl _ _) hX).kp hk (fun b hb => hI _ (hG b hb))⟩
  · obtain ⟨cs, h1, h2⟩ := h.blocks
    exact ⟨cs, h1.kp hk (hd _ (.inr (.inl rfl))), h2⟩
  · obtain ⟨cs, h1, h2, h3⟩ := h.pages k hkn
    refine ⟨cs, h1.kp hk (hd _ (.inr (.inr ⟨k, hkn, rfl⟩))), h2, fun i hi => ?_⟩
    obtain ⟨v, g1, g2⟩ := h3 i hi
    exact ⟨v, g1, (g2.widen (Below.refl _ _) hX).kp hk (fun b hb => hI _ (hG b hb))⟩

theorem Kp.then_ {G G' : Nat → Prop} {w a b : World} (h : Kp G w a) (k : Kp G' a b) (hg : ∀ x, G' x → G x ∨ w.heap.size ≤ x) : Kp G w b :=
  ⟨k.os.trans h.os, k.tape.trans h.tape, k.output.trans h.output, Nat.le_trans h.size k.size, fun i hi hf => (k.block i (Nat.lt_of_lt_of_le hi h.size) (fun e => (hg i e).elim hf (fun q => by omega))).trans (h.block i hi hf)⟩
/-- a translation that holds nothing yet -/
def fvN (res z1 cap : Int) (ap : Bool) : Fv :=
  { res := res, bad := z1, cap := cap, ap := ap, st := false, ta := none, tc := 0, tx := [], se := fun _ => none, wr := fun _ => none, d := fun _ => false, n1 := 0, n2 := 0, n3 := 0, seq := 0, ep := 0, lt := fun _ => false, bg := false, bk := 0 }
/-- a translation that holds nothing but its seal -/
def fv0 (res z1 cap : Int) (ap : Bool) (ta : Option Addr) (tc : Nat) (tx : List Int) (k i : Int) (n1 : Nat) : Fv :=
  { res := res, bad := z1, cap := cap, ap := ap, st := false, ta := ta, tc := tc, tx := tx, se := fun z => if z = 0 then some (k, i) else none, wr := fun _ => none, d := fun _ => false, n1 := n1, n2 := 0, n3 := 0, seq := 1, ep := 1, lt := fun _ => false, bg := false, bk := 0 }

set_option maxRecDepth 100000 in
set_option maxHeartbeats 4000000 in
theorem fformat_ok {w : World} {X : Nat → Prop} {o : Own} {c : Ch} (h : ChAt w X o c) (hup : c.up = true) {res : Int} (hres : 1 ≤ res ∧ res ≤ 32768) {b off n cp : Nat} {tx : List Int} (hr : RwX w X (some ⟨b, off, none⟩) tx) (hl : tx.length = n) (hn : n + 8 = c.sz)
    (hc0 : 2 ≤ (c.nb : Int) - nbd c.bad c.nb - res - 1) {c1 : Ch} {f1 : Nat → Bool} (hE : eaF c c.nb = (0, c1, f1)) (hs1 : c1.np = c.np ∧ c1.sz = c.sz ∧ c1.up = true) {z1 : Nat} (hz1 : nbd c1.bad c.nb = z1) (hc1 : 2 ≤ (c.nb : Int) - z1 - res - 1)
    {l1 : List Bk} (hl1 : rows c1.bad f1 (fun _ => 0) c.nb = l1) (hwr : ∀ k, k < c.nb → I64 (c1.wear k))
    (hN : ∀ (m : Mg) (v : Fv), m.l = l1 → m.r = res → m.b = (z1 : Int) → v.st = false → v.bg = false → v.n3 = 0 → (∀ z, v.d z = false) → (∀ j, v.lt j = false) → Nomi c1 m v)
    {k i : Int} {l2 : List Bk} {c2 : Ch} (hR : prgT (Tagm.pg 2 0 1 1 (slB res z1 tx)) l1 c1 = ((k, i, 0), l2, c2)) (hn2 : c2.nb = c.nb) (hl2 : l2.length = c.nb) :
    Calls Tryz.prog 5 #[.pointer (some ⟨o.bc, 0, none⟩), .int .i64 res, .slice (some ⟨b, off, none⟩) n cp] w fun e w' => (∃ a m n1 ta tc X', e = .returned (.tuple #[.pointer (some ⟨a.F, 0, none⟩), .int .i64 0]) ∧
      FtAt w' X' o c2 m a (fv0 res z1 (((c.nb : Int) - z1 - res - 1) * c.np - 2) (apB c1 l1) ta tc tx k i n1) ∧ m.l = l2 ∧ m.r = res ∧ m.b = (z1 : Int) ∧ (∀ b, X b → X' b) ∧ (∀ b, X' b → X b ∨ w.heap.size ≤ b)) ∧ Kp (o.F c.nb) w w' := by
  have hsz := h.good.2.2.2.2
  have hnb := h.good.2.1
  have hnb1 : c1.nb = c.nb := by have := eaF_nb c c.nb; rw [hE] at this; exact this
  have HG := Lib.hid (geo_any h)
  have HU := Lib.hid (fun W (hW : Below w.heap.size w W) => up_any (h.below hW))
  have hop : o.p = .pointer (some ⟨o.bc, 0, none⟩) := rfl
  rw [hop] at HG
  simp only [hop, hup] at HU
  have hws : wrap64 ((c.sz : Int) - 8) = (n : Int) := by
    rw [IntWalk.wrap64_in _ ⟨by omega, by omega⟩]
    omega
  have hr1 : decide (res < 1) = false := decide_eq_false (by omega)
  have hr2 : decide (32768 < res) = false := decide_eq_false (by omega)
  have HBd := Lib.hid (fun W (hW : Below w.heap.size w W) => badBlocks_any (h.below hW))
  obtain ⟨z0, hz0⟩ : ∃ z, nbd c.bad c.nb = z := ⟨_, rfl⟩
  have hz0l := nbd_le c.bad c.nb
  have hz1l := nbd_le c1.bad c.nb
  rw [hz0] at HBd hc0 hz0l
  rw [hz1] at hz1l
  have HDb := Lib.hid (fun (z : Int) (hz : 0 ≤ z ∧ z ≤ 1000000) W => dataBlocks_any c.nb c.np c.sz z res W hnb hz (by omega))
  have hd0 : decide ((c.nb : Int) - (z0 : Int) - res - 1 < 2) = false := decide_eq_false (by omega)
  have hd1 : decide ((c.nb : Int) - (z1 : Int) - res - 1 < 2) = false := decide_eq_false (by omega)
  have HH := Lib.hid h
  have HR := Lib.hid hr
  have HL := Lib.hid hl
  have HN := Lib.hid hn
  have HE := Lib.hid hE
  have HS1 := Lib.hid hs1
  have HZ1 := Lib.hid hz1
  have HL1 := Lib.hid hl1
  have HWr := Lib.hid hwr
  have HNo := Lib.hid hN
  have HPr := Lib.hid hR
  have HN2 := Lib.hid (And.intro hn2 hl2)
  have HNb := Lib.hid hnb1
  have HRs := Lib.hid hres
  clear h hr hl hn hE hs1 hz1 hl1 hwr hN hR hn2 hl2 hnb1 hop hup hsz hres hz0
  obtain ⟨i3, hi3, hz3, hs3, hb3⟩ := info_parts Tryz.infoInt
  have hmI := fun W => run_make (P := Tryz.prog) W 56 3 i3 _ Tryz.underlying56 hi3 hz3 .i64 .i64 c.nb c.nb (by omega) (Int.le_refl _) (by rw [hb3]; omega) (by omega)
  simp only [Int.toNat_natCast, hs3, Nat.mul_one] at hmI
  have eI : (Value.int .i64 0).cells = #[.int .i64 0] := rfl
  rw [eI] at hmI
  clear hi3 hz3 hs3 hb3 eI
  go_enter Tryz.func5, Tryz.ntmps5
  go_wp2_with fail
  refine HG.out.mono ?_
  rintro e w1 ⟨rfl, hb1⟩
  obtain ⟨N, hNn⟩ : ∃ N, w1.heap.size = N := ⟨_, rfl⟩
  have hb1' := hb1.size
  have hb2 := hb1.alloc hb1.size (.cells #[.int .i64 c.nb, .int .i64 c.np, .int .i64 c.sz] 38)
  have hGe : Blk (w1.alloc (.cells #[.int .i64 c.nb, .int .i64 c.np, .int .i64 c.sz] 38)) N 38 #[.int .i64 c.nb, .int .i64 c.np, .int .i64 c.sz] := by rw [← hNn]; exact heap_alloc_new w1 _
  have HU1 := Lib.hid (HU.out _ hb2)
  have q0 := hGe.cell 0
  have q1 := hGe.cell 1
  have q2 := hGe.cell 2
  clear HU HG
  go_wp2_with fail
  refine HU1.out.mono ?_
  rintro e w' ⟨rfl, rfl⟩
  have HBe := Lib.hid hb2
  have HGe := Lib.hid hGe
  generalize w1.alloc (.cells #[.int .i64 c.nb, .int .i64 c.np, .int .i64 c.sz] 38) = W2 at hb2 hGe q0 q1 q2 HBe HGe ⊢
  have HS3 : Hid (∀ W W', (W.cell? ⟨N, 0, none⟩ = some (.int .i64 c.nb) ∧ W.cell? ⟨N, 1, none⟩ = some (.int .i64 c.np) ∧ W.cell? ⟨N, 2, none⟩ = some (.int .i64 c.sz) ∧ Below w.heap.size w W) → Below W.heap.size W W' →
      (W'.cell? ⟨N, 0, none⟩ = some (.int .i64 c.nb) ∧ W'.cell? ⟨N, 1, none⟩ = some (.int .i64 c.np) ∧ W'.cell? ⟨N, 2, none⟩ = some (.int .i64 c.sz) ∧ Below w.heap.size w W')) := Lib.hid (fun W W' h hb => ⟨(hb.cell (block_lt_of_cell h.1)).trans h.1, (hb.cell (block_lt_of_cell h.2.1)).trans h.2.1, (hb.cell (block_lt_of_cell h.2.2.1)).trans h.2.2.1, h.2.2.2.trans (hb.mono h.2.2.2.size)⟩)
  have HBd3 := Lib.hid (fun W (h : W.cell? ⟨N, 0, none⟩ = some (.int .i64 c.nb) ∧ W.cell? ⟨N, 1, none⟩ = some (.int .i64 c.np) ∧ W.cell? ⟨N, 2, none⟩ = some (.int .i64 c.sz) ∧ Below w.heap.size w W) => (HBd.out W h.2.2.2).mono (fun e w' q => And.intro q.1 (HS3.out W w' h q.2)))
  have HDb3 := Lib.hid (fun W (h : W.cell? ⟨N, 0, none⟩ = some (.int .i64 c.nb) ∧ W.cell? ⟨N, 1, none⟩ = some (.int .i64 c.np) ∧ W.cell? ⟨N, 2, none⟩ = some (.int .i64 c.sz) ∧ Below w.heap.size w W) => (HDb.out (z0 : Int) (by omega) W).mono (fun e w' q => And.intro q.1 (HS3.out W w' h q.2)))
  clear hb1 hGe HU1
  go_wp2_with fail
  go_region_held3 (fun w' => w'.cell? ⟨N, 0, none⟩ = some (.int .i64 c.nb) ∧ w'.cell? ⟨N, 1, none⟩ = some (.int .i64 c.np) ∧ w'.cell? ⟨N, 2, none⟩ = some (.int .i64 c.sz) ∧ Below w.heap.size w w') ((first | assumption | (go_split_ands; refine ⟨?_, ?_, ?_, ?_⟩ <;> first | assumption | exact Below.drew (by assumption)))) (first | (go_at_call 26; refine (HBd3.out _ ?_).mono ?_; (go_split_ands; refine ⟨?_, ?_, ?_, ?_⟩ <;> assumption); rintro e w4 ⟨rfl, hq4⟩) | (go_at_call 25; refine (HDb3.out _ ?_).mono ?_; (go_split_ands; refine ⟨?_, ?_, ?_, ?_⟩ <;> assumption); rintro e w5 ⟨rfl, hq5⟩))
  have hb5 : Below w.heap.size w w5 := hq5.2.2.2
  have hG5 : w5.cell? ⟨N, 0, none⟩ = some (.int .i64 c.nb) ∧ w5.cell? ⟨N, 1, none⟩ = some (.int .i64 c.np) ∧ w5.cell? ⟨N, 2, none⟩ = some (.int .i64 c.sz) := ⟨hq5.1, hq5.2.1, hq5.2.2.1⟩
  have HEa := Lib.hid (eraseAll_any (HH.out.below hb5))
  unfold EaP at HEa
  rw [HE.out] at HEa
  have hNl : w.heap.size ≤ N := by rw [← hNn]; exact hb1'
  have HB5 := Lib.hid hb5
  have HG5 := Lib.hid hG5
  clear hb5 hG5 hq5 hq4 HBd3 HDb3 HS3 HBd q0 q1 q2 hb2 HBe HGe
  go_wp2_with fail
  refine HEa.out.mono ?_
  rintro e w6 ⟨hcase, h6, hk6⟩
  rcases hcase with ⟨-, g1, rfl, hg1, hfr⟩ | ⟨hne, -⟩
  rotate_left
  · exact absurd rfl hne
  have h6' : ChAt w6 X o c1 := h6
  have hoN : ¬ o.F c.nb N := fun e => by have := HH.out.old N (HH.out.inX N e); omega
  have n0 := (hk6.cell (p := ⟨N, 0, none⟩) (block_lt_of_cell HG5.out.1) hoN).trans HG5.out.1
  have n1 := (hk6.cell (p := ⟨N, 1, none⟩) (block_lt_of_cell HG5.out.2.1) hoN).trans HG5.out.2.1
  have n2 := (hk6.cell (p := ⟨N, 2, none⟩) (block_lt_of_cell HG5.out.2.2) hoN).trans HG5.out.2.2
  have HB1 := Lib.hid (badBlocks_any h6')
  rw [HNb.out, HZ1.out] at HB1
  have H6 := Lib.hid h6'
  have HK6 := Lib.hid ((Kp.of_below HB5.out : Kp (o.F c.nb) w w5).trans hk6)
  have HFr := Lib.hid hfr
  have HG1 := Lib.hid (Nat.le_trans HB5.out.size hg1)
  clear h6 h6' hk6 hfr hg1 hoN HG5 HEa
  go_wp2_with fail
  refine HB1.out.mono ?_
  rintro e w7 ⟨rfl, hb7⟩
  have m0 := (hb7.cell (block_lt_of_cell n0)).trans n0
  have m1 := (hb7.cell (block_lt_of_cell n1)).trans n1
  have m2 := (hb7.cell (block_lt_of_cell n2)).trans n2
  have HD7 := Lib.hid (HDb.out (z1 : Int) (by omega) w7)
  have HB7 := Lib.hid hb7
  clear hb7 n0 n1 n2 HB1
  go_wp2_with fail
  refine HD7.out.mono ?_
  rintro e w8 ⟨rfl, hb8⟩
  have hb8' := HB7.out.trans (hb8.mono HB7.out.size)
  have k0 := (hb8.cell (block_lt_of_cell m0)).trans m0
  have HTl := Lib.hid (translation_any (H6.out.below hb8') res (z1 : Int) (by omega) (by have := HRs.out; omega))
  rw [HNb.out, HS1.out.1] at HTl
  have HB8 := Lib.hid hb8'
  clear hb8 hb8' m0 m1 m2 HD7 HB7
  go_wp2_with fail
  refine HTl.out.mono ?_
  rintro e w9 ⟨⟨x1, x2, x3, x4, x5, F, rfl, hF, hm1, hm2, hm3, h4, h5, ⟨l1', l2', l3', l4', l5'⟩, ⟨n12, n13, n14, n15, n23, n24, n25, n34, n35, n45⟩, ⟨y1, y2, y3, y4, y5⟩⟩, hb9⟩
  have e0 := (hb9.cell (block_lt_of_cell k0)).trans k0
  clear HTl k0
  have hb69 : Below w6.heap.size w6 w9 := HB8.out.trans (hb9.mono HB8.out.size)
  have h68 : w6.heap.size ≤ w8.heap.size := HB8.out.size
  have hw6 : w.heap.size ≤ w6.heap.size := HK6.out.size
  obtain ⟨L, hL⟩ : ∃ L, w9.heap.size = L := ⟨_, rfl⟩
  have hbA : Below w9.heap.size w9 (w9.alloc (.cells (madeCells #[.int .i64 0] c.nb) 3)) := (Below.refl _ _).alloc (Nat.le_refl _) _
  have hbL : Blk (w9.alloc (.cells (madeCells #[.int .i64 0] c.nb) 3)) L 3 (madeCells #[.int .i64 0] c.nb) := by rw [← hL]; exact heap_alloc_new w9 _
  have hFl := hF.lt
  have hb10 := hb69.trans (hbA.mono hb69.size)
  have hFA := hF.below hbA hFl
  have hm1A := hm1.below hbA
  have hm2A := hm2.below hbA
  have hm3A := hm3.below hbA
  have h4A := h4.below hbA h4.lt
  have h5A := h5.below hbA h5.lt
  have hLs : L < (w9.alloc (.cells (madeCells #[.int .i64 0] c.nb) 3)).heap.size := hbL.lt
  have hX1 : ∀ b, (X b ∨ b = F ∨ b = x1 ∨ b = x2 ∨ b = x3 ∨ b = x4 ∨ b = x5) → X b ∨ w6.heap.size ≤ b := fun b hb => hb.imp id (fun e => by omega)
  have hcA : ChAt (w9.alloc (.cells (madeCells #[.int .i64 0] c.nb) 3)) (fun b => X b ∨ b = F ∨ b = x1 ∨ b = x2 ∨ b = x3 ∨ b = x4 ∨ b = x5) o c1 := H6.out.widen hb10 hX1 (fun b hb => by
    rcases hb with hb | hb
    · exact Nat.lt_of_lt_of_le (H6.out.old b hb) hb10.size
    · have := hFA.lt; omega) (fun b hb => .inl hb)
  have hfrl : FrLv (w9.alloc (.cells (madeCells #[.int .i64 0] c.nb) 3)) c1.nb c1.np f1 (fun _ => 0) g1 0 L 0 := by
    obtain ⟨cs, hbc, -, hcs⟩ := HFr.out
    refine ⟨fun j hj => ?_, fun j hj => ?_, fun j hj => ⟨Int.le_refl _, by omega, fun _ => rfl⟩⟩
    · rw [Nat.zero_add]
      exact ((hbc.below hb10 hbc.lt).cell j).trans (hcs j (by rw [HNb.out] at hj; exact hj))
    · rw [Nat.zero_add]
      exact (hbL.cell j).trans (made_get (by rw [HNb.out] at hj; exact hj))
  have hoF : ¬ o.F c1.nb F := fun e => by have := H6.out.old F (H6.out.inX F e); omega
  have HMa := Lib.hid (fmanage_any hcA HS1.out.2.2 (fun k hk => HWr.out k (by rw [HNb.out] at hk; exact hk)) f1 (fun _ => 0) g1 0 c.nb L 0 c.nb hfrl hFA (by have := HRs.out; omega) (by omega) (.inr (.inl rfl)) hoF)
  rw [HNb.out, HL1.out] at HMa
  have HcA := Lib.hid hcA
  have HM1 := Lib.hid hm1A
  have HM2 := Lib.hid hm2A
  have HM3 := Lib.hid hm3A
  have H4 := Lib.hid h4A
  have H5 := Lib.hid h5A
  have HoF := Lib.hid hoF
  have HX1 := Lib.hid hX1
  have Hb10 := Lib.hid hb10
  clear hcA hm1A hm2A hm3A h4A h5A hoF hX1 hfrl hbL hm1 hm2 hm3 h4 h5 hF hb9 hb69 HB8 hbA hb10
  go_wp2_with fail
  generalize w9.alloc (.cells (madeCells #[.int .i64 0] c.nb) 3) = WA at hFA HcA HM1 HM2 HM3 H4 H5 Hb10 HMa hLs ⊢
  refine HMa.out.mono ?_
  rintro e w11 ⟨rfl, ⟨M, m, hmg, ⟨hcp, hml, hmr, hmb, hmap⟩, hF11, hMl, hgl⟩, hk11⟩
  have hWA := hFA.lt
  have hX' : ∀ b, ((X b ∨ b = F ∨ b = x1 ∨ b = x2 ∨ b = x3 ∨ b = x4 ∨ b = x5) ∨ b = M ∨ b = m.g) → (X b ∨ b = F ∨ b = x1 ∨ b = x2 ∨ b = x3 ∨ b = x4 ∨ b = x5) ∨ WA.heap.size ≤ b := fun b hb => hb.imp id (fun e => by omega)
  have h11 : FtAt w11 (fun b => (X b ∨ b = F ∨ b = x1 ∨ b = x2 ∨ b = x3 ∨ b = x4 ∨ b = x5) ∨ b = M ∨ b = m.g) o c1 m ⟨F, M, x1, x2, x3, x4, x5⟩ (fvN res z1 (((c.nb : Int) - z1 - res - 1) * c.np - 2) (apB c1 l1)) := by
    refine ⟨HcA.out.grow hk11 (fun b e => .inr (.inl e)) (fun b hb e => HoF.out (e ▸ hb)) hX' (fun b hb => ?_) (fun b hb => .inl hb), hmg, hcp, ?_, ?_, RwX.nil, HM1.out.kp hk11 (by intro e; have e2 : x1 = F := e; omega), HM2.out.kp hk11 (by intro e; have e2 : x2 = F := e; omega), HM3.out.kp hk11 (by intro e; have e2 : x3 = F := e; omega),
      ⟨_, H4.out.kp hk11 (by intro e; have e2 : x4 = F := e; omega), fun j hj => made_get (by rw [HNb.out] at hj; exact hj)⟩, ⟨_, H5.out.kp hk11 (by intro e; have e2 : x5 = F := e; omega)⟩, n12, n13, n23, ?_⟩
    · rcases hb with hb | rfl | rfl
      · exact Nat.lt_of_lt_of_le (HcA.out.old b hb) hk11.size
      · exact hmg.blk.lt
      · exact hmg.own.lt
    · rw [hml, ← HL1.out, rows_length, HNb.out]
    · rw [HNb.out]
      exact hF11
    · rintro b (e | e | e | e | e | e | e | e)
      · exact .inl (.inr (.inl e))
      · exact .inr (.inl e)
      · exact .inr (.inr e)
      · exact .inl (.inr (.inr (.inl e)))
      · exact .inl (.inr (.inr (.inr (.inl e))))
      · exact .inl (.inr (.inr (.inr (.inr (.inl e)))))
      · exact .inl (.inr (.inr (.inr (.inr (.inr (.inl e))))))
      · exact .inl (.inr (.inr (.inr (.inr (.inr (.inr e))))))
  have hno := HNo.out m (fvN res z1 (((c.nb : Int) - z1 - res - 1) * c.np - 2) (apB c1 l1)) hml hmr hmb rfl rfl rfl (fun _ => rfl) (fun _ => rfl)
  have hrw : RwX w11 (fun b => (X b ∨ b = F ∨ b = x1 ∨ b = x2 ∨ b = x3 ∨ b = x4 ∨ b = x5) ∨ b = M ∨ b = m.g) (some ⟨b, off, none⟩) tx := by
    have q6 := HR.out.kp HK6.out (fun b hb => HH.out.inX b hb)
    have qA := q6.widen (X' := fun b => (X b ∨ b = F ∨ b = x1 ∨ b = x2 ∨ b = x3 ∨ b = x4 ∨ b = x5) ∨ b = M ∨ b = m.g) Hb10.out (fun b hb => by
      rcases hb with hb | hb
      · exact HX1.out b hb
      · right; have := Hb10.out.size; omega)
    exact qA.kp hk11 (fun b e => .inl (.inr (.inl e)))
  have HSl := Lib.hid (fseal_ok h11 hno HS1.out.2.2 (by have := HRs.out; show 0 ≤ res ∧ res < 65536; omega) (by show 0 ≤ (z1 : Int) ∧ (z1 : Int) < 65536; omega) (cap := cp) hrw HL.out (by rw [HS1.out.2.1]; exact HN.out) (show Tagm.Rt 2 0 1 1 by unfold Tagm.Rt; omega) rfl rfl (fun z hz => by cases hz) (k := k) (i := i) (l2 := l2) (c2 := c2) (by
    show prgT (Tagm.pg 2 0 1 1 (slB res z1 tx)) m.l c1 = _
    rw [hml]; exact HPr.out) (by rw [HNb.out]; exact HN2.out.1) (by rw [hml, ← HL1.out, rows_length]; exact HN2.out.2))
  have hKw : Kp (o.F c.nb) w w11 := (HK6.out.then_ (G' := fun _ => False) (Kp.of_below Hb10.out) (fun x e => e.elim)).then_ hk11 (fun x e => .inr (by have e2 : x = F := e; omega))
  have HKw := Lib.hid hKw
  have HX2 : Hid (∀ b, ((X b ∨ b = F ∨ b = x1 ∨ b = x2 ∨ b = x3 ∨ b = x4 ∨ b = x5) ∨ b = M ∨ b = m.g) → X b ∨ w.heap.size ≤ b) := Lib.hid (fun b hb => by
    rcases hb with hb | hb
    · rcases HX1.out b hb with q | q
      · exact .inl q
      · right; omega
    · right; have := Hb10.out.size; omega)
  have HFO : Hid (∀ b, FO ⟨F, M, x1, x2, x3, x4, x5⟩ m.g b → w.heap.size ≤ b) := Lib.hid (fun b hb => by
    have := Hb10.out.size
    rcases hb with e | e | e | e | e | e | e | e
    · have e2 : b = F := e; omega
    · have e2 : b = M := e; omega
    · have e2 : b = m.g := e; omega
    · have e2 : b = x1 := e; omega
    · have e2 : b = x2 := e; omega
    · have e2 : b = x3 := e; omega
    · have e2 : b = x4 := e; omega
    · have e2 : b = x5 := e; omega)
  have HMm := Lib.hid (And.intro hmr hmb)
  clear hno hrw h11 hKw hX' hk11 hF11 hmg HMa HcA HM1 HM2 HM3 H4 H5 HX1 Hb10 hFA
  go_wp2_with fail
  refine HSl.out.mono ?_
  rintro e w12 ⟨rfl, ⟨n1', ta, tc, h12⟩, hk12⟩
  have HE12 := Lib.hid h12
  have HKE := Lib.hid (HKw.out.then_ hk12 (fun x e => e.elim (fun q => .inl (by rw [HNb.out] at q; exact q)) (fun q => .inr (HFO.out x q))))
  clear h12 hk12 HSl
  go_wp2
  go_ret2
  refine ⟨⟨⟨F, M, x1, x2, x3, x4, x5⟩, { m with l := l2 }, n1', ta, tc, _, rfl, ?_, rfl, HMm.out.1, HMm.out.2, fun b hb => .inl (.inl hb), HX2.out⟩, HKE.out⟩
  have q := HE12.out
  have e : (fun z : Int => if z = 0 then some (k, i) else if (((fvN res z1 (((c.nb : Int) - z1 - res - 1) * c.np - 2) (apB c1 l1)).wr z).isSome = true) then (fvN res z1 (((c.nb : Int) - z1 - res - 1) * c.np - 2) (apB c1 l1)).wr z else (fvN res z1 (((c.nb : Int) - z1 - res - 1) * c.np - 2) (apB c1 l1)).se z) = fun z => if z = 0 then some (k, i) else none := by
    funext z
    by_cases e : z = 0
    · simp [e]
    · simp [e, fvN]
  rw [e] at q
  exact q
end Go.Proofs.YtbfifppdcmimaaaGreat
