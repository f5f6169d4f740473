/-
  A page read: what of memory turns thereby. Nothing of one statement alone stands here.
-/
import Derived.Test.YtbfifppdcmimaaaGreatKE
import Derived.Test.YtbfifppdcmimaaaGreatFtTl
namespace Go.Proofs.YtbfifppdcmimaaaGreat
open Go.RowKit Crcm Go.ChangeShapes

/-- nothing but the number of readings turns -/
def Rdp (o : Own) (c : Ch) (w w' : World) : Prop := Kp (fun b => b = o.bc) w w' ∧ ∀ cs, Blk w o.bc 96 cs → Blk w' o.bc 96 (cs.setIfInBounds 8 (.int .i64 (wrap64 (c.reads + 1))))
theorem Rdp.one (o : Own) (c : Ch) (w : World) : Rdp o c w (w.setCell ⟨o.bc, 8, none⟩ (.int .i64 (wrap64 (c.reads + 1)))) := ⟨Kp.one _ ⟨o.bc, 8, none⟩ _, fun _ h => h.put 8 _⟩
theorem Rdp.step {o : Own} {c : Ch} {w w1 w2 : World} (h : Rdp o c w w1) (hb : Below w1.heap.size w1 w2) : Rdp o c w w2 := ⟨h.1.trans (Kp.of_below hb), fun cs q => (h.2 cs q).below hb (h.2 cs q).lt⟩

set_option maxRecDepth 100000 in
set_option maxHeartbeats 1000000 in
theorem read_bc {w : World} {X : Nat → Prop} {o : Own} {c : Ch} (h : ChAt w X o c) (k page : Nat) (hk : rpE c k page = 0) :
    Calls Tryz.prog 20 #[o.p, .int .i64 k, .int .i64 page] w fun e w' => (∃ g cc, e = .returned (.tuple #[.slice (some ⟨g, 0, none⟩) (c.sz + 32 : Nat) cc, .int .i64 0]) ∧ c.sz + 32 ≤ cc ∧ w.heap.size ≤ g ∧ Rw w' (some ⟨g, 0, none⟩) (rdL c k page) ∧ (rdL c k page).length = c.sz + 32) ∧
      ChAt w' X o { c with reads := wrap64 (c.reads + 1) } ∧ Rdp o c w w' := by
  obtain ⟨h0, h1, h2⟩ := rpE_zero hk
  have hkn : k < c.nb := by have := (reE_zero h0).2.2; omega
  have hpn : page < c.np := by omega
  obtain ⟨-, -, -, -, -, -, -, c8⟩ := h.cell
  have f8 := h.froz 8
  have HR := Lib.hid (reachPage_yes h k page hk)
  have hP := h.putReads (wrap64 (c.reads + 1))
  have hgz : c.sz ≤ 512 := by have := h.good; unfold Gd at this; omega
  have hX := Lib.hid h.old
  have K1 : Hid (Rdp o c w (w.setCell ⟨o.bc, 8, none⟩ (.int .i64 (wrap64 (c.reads + 1))))) := Lib.hid (Rdp.one o c w)
  obtain ⟨x0, -⟩ := hP.bcell (k := k) hkn
  have x0 : (w.setCell ⟨o.bc, 8, none⟩ (.int .i64 (wrap64 (c.reads + 1)))).cell? ⟨o.bb, k * 4, none⟩ = some (.slice (some ⟨o.pb k, 0, none⟩) c.np c.np) := x0
  obtain ⟨v, y0, hv⟩ := hP.pcell (k := k) (i := page) hkn hpn
  have hv : PgAt _ X v (c.sz + 32) (c.pg k page) := hv
  have hsz : (w.setCell ⟨o.bc, 8, none⟩ (.int .i64 (wrap64 (c.reads + 1)))).heap.size = w.heap.size := by simp [World.setCell]
  have HP := Lib.hid hP
  have HWd : Hid (Calls Tryz.prog 49 #[o.p] (w.setCell ⟨o.bc, 8, none⟩ (.int .i64 (wrap64 (c.reads + 1)))) fun e w' => e = .returned (.int .i64 ((c.sz + 32 : Nat) : Int)) ∧ (w.setCell ⟨o.bc, 8, none⟩ (.int .i64 (wrap64 (c.reads + 1)))) = w') := Lib.hid (by have := width_any hP; exact this)
  have p0 : (0 : Int) ≤ (page : Int) := by omega
  have p1 : (page : Int) < (c.np : Int) := by omega
  have en := fun W a n c => Lib.run_eql_slice_nil (P := Tryz.prog) W 23 5 a n c 0 0 Tryz.underlying23
  have hrd : rdL c k page = (c.pg k page).getD (List.replicate (c.sz + 32) 255) := rfl
  have hwd0 : c.sz + 32 ≤ 1000 := by omega
  have hwd1 : 0 < c.sz + 32 := by omega
  generalize c.sz + 32 = wd at HWd hrd hv hwd0 hwd1 ⊢
  generalize rdL c k page = rl at hrd ⊢
  have HRd := Lib.hid hrd
  clear h hk h0 h1 h2 hP hrd hgz
  go_enter Tryz.func20, Tryz.ntmps20
  go_wp2_with fail
  refine HR.out.mono ?_
  rintro r w' ⟨rfl, rfl⟩
  cases hpg : c.pg k page with
  | none =>
    rw [hpg] at hv HRd
    have hv : v = .slice none 0 0 := hv
    subst hv
    have HRl : Hid (rl = List.replicate wd 255) := Lib.hid HRd.out
    have HF := Lib.hid (filled_any wd 255 (w.setCell ⟨o.bc, 8, none⟩ (.int .i64 (wrap64 (c.reads + 1)))) (by omega) (by unfold U8; omega))
    rw [hsz] at HF
    clear hpg HRd hsz
    go_wp2_with fail
    refine HWd.out.mono ?_
    rintro r w' ⟨rfl, rfl⟩
    go_wp2_with fail
    refine HF.out.mono ?_
    rintro r w3 ⟨rfl, ⟨cs, hb, hf⟩, hB⟩
    have HRB := Lib.hid (Fil.rb hb hf)
    have HC3 := Lib.hid (HP.out.below (show Below (w.setCell ⟨o.bc, 8, none⟩ (.int .i64 (wrap64 (c.reads + 1)))).heap.size _ w3 from ⟨hB.os, hB.tape, hB.output, hB.size, fun k hk => hB.block k (by simpa [World.setCell] using hk)⟩))
    have HK3 := Lib.hid (K1.out.step (id (show Below (w.setCell ⟨o.bc, 8, none⟩ (.int .i64 (wrap64 (c.reads + 1)))).heap.size _ w3 from ⟨hB.os, hB.tape, hB.output, hB.size, fun k hk => hB.block k (by simpa [World.setCell] using hk)⟩)))
    clear hb hf hB
    go_wp2
    go_ret2
    refine ⟨⟨w.heap.size, wd, rfl, Nat.le_refl _, Nat.le_refl _, ?_, ?_⟩, HC3.out, HK3.out⟩
    · rw [HRl.out]
      exact HRB.out.rw (fun y hy => by rw [(List.mem_replicate.1 hy).2]; unfold U8; omega) (by rw [List.length_replicate]; unfold maxLen; omega)
    · rw [HRl.out, List.length_replicate]
  | some l =>
    rw [hpg] at hv HRd
    obtain ⟨b, off, cc, rfl, hcc, hll, hrw⟩ := hv
    have HRl : Hid (rl = l) := Lib.hid HRd.out
    have HLl := Lib.hid hll
    have HCl := Lib.hid (clone_any wd cc b off l (w.setCell ⟨o.bc, 8, none⟩ (.int .i64 (wrap64 (c.reads + 1)))) hrw.1 hll ⟨hwd1, by omega⟩)
    have HSz := Lib.hid hsz
    clear hpg HRd hll hrw hsz
    go_wp2_with fail
    refine HCl.out.mono ?_
    rintro r w3 ⟨⟨g, c2, rfl, hc2, hg, hrw2⟩, hB⟩
    have HC3 := Lib.hid (HP.out.below hB)
    have HK3 := Lib.hid (K1.out.step (id hB))
    have HRw := Lib.hid hrw2
    clear hB hrw2
    go_wp2
    go_ret2
    refine ⟨⟨g, c2, rfl, hc2, by have := HSz.out; omega, ?_, ?_⟩, HC3.out, HK3.out⟩
    · rw [HRl.out]; exact HRw.out
    · rw [HRl.out]; exact HLl.out

/-- so many readings more -/
def rdW (a : Int) : Nat → Int
  | 0 => a
  | q + 1 => wrap64 (a + (q + 1 : Nat))
theorem rdW_succ (a : Int) (q : Nat) : wrap64 (rdW a q + 1) = rdW a (q + 1) := by
  cases q with
  | zero => rfl
  | succ q =>
    simp only [rdW]
    unfold wrap64
    omega
/-- a chip of which so many pages more were read -/
def chR (c : Ch) (q : Nat) : Ch := { c with reads := rdW c.reads q }
theorem chR_succ (c : Ch) (q : Nat) : { chR c q with reads := wrap64 ((chR c q).reads + 1) } = chR c (q + 1) := by
  unfold chR
  simp only [rdW_succ]
theorem chR_zero (c : Ch) : chR c 0 = c := rfl
/-- only the number of readings has turned of what was there -/
def RdS (o : Own) (c : Ch) (q : Nat) (w w' : World) : Prop := Kp (fun b => b = o.bc) w w' ∧ ∀ fv, Blk w o.bc 96 (chV o c fv) → Blk w' o.bc 96 (chV o (chR c q) fv)
theorem RdS.refl (o : Own) (c : Ch) (w : World) : RdS o c 0 w w := ⟨Kp.refl _ _, fun _ h => h⟩
theorem RdS.read {o : Own} {c : Ch} {q : Nat} {w w1 w2 : World} (h : RdS o c q w w1) (k : Rdp o (chR c q) w1 w2) : RdS o c (q + 1) w w2 := by
  refine ⟨h.1.trans k.1, fun fv hb => ?_⟩
  have q2 := k.2 _ (h.2 fv hb)
  have e : (chV o (chR c q) fv).setIfInBounds 8 (.int .i64 (wrap64 ((chR c q).reads + 1))) = chV o (chR c (q + 1)) fv := by
    rw [← chR_succ]
    rfl
  rw [e] at q2
  exact q2
/-- what turns none of the chip's blocks, nor what was there -/
theorem RdS.new {o : Own} {c : Ch} {q : Nat} {w w1 w2 : World} {B : Nat} (h : RdS o c q w w1) (hb : Below B w1 w2) (hB : w.heap.size ≤ B) (hc : o.bc < w.heap.size) : RdS o c q w w2 :=
  ⟨⟨hb.os.trans h.1.os, hb.tape.trans h.1.tape, hb.output.trans h.1.output, Nat.le_trans h.1.size hb.size, fun i hi hf => (hb.block i (by omega)).trans (h.1.block i hi hf)⟩, fun fv q => (h.2 fv q).below hb (by omega)⟩
theorem RdS.kp {o : Own} {c : Ch} {q : Nat} {w w1 : World} (h : RdS o c q w w1) (n : Nat) : Kp (o.F n) w w1 := h.1.mono (fun _ e => .inl e)
/-- the chip, where only that has turned -/
theorem ChAt.rds {w w' : World} {X X' : Nat → Prop} {o : Own} {c : Ch} {q : Nat} (h : ChAt w X o c) (k : RdS o c q w w') (hX : ∀ b, X' b → X b ∨ w.heap.size ≤ b) (hO : ∀ b, X' b → b < w'.heap.size) (hI : ∀ b, X b → X' b) : ChAt w' X' o (chR c q) := by
  have hG : ∀ b, b = o.bc → X' b := fun b e => hI _ (h.inX b (.inl e))
  refine ⟨h.good, hO, fun b hb => hI _ (h.inX b hb), h.neb, h.nep, h.inj, ?_, ?_, fun j hj => ?_⟩
  · obtain ⟨fv, h1, h2⟩ := h.chip
    exact ⟨fv, k.2 fv h1, (h2.widen (Below.refl _ _) hX).kp k.1 hG⟩
  · obtain ⟨cs, h1, h2⟩ := h.blocks
    exact ⟨cs, h1.kp k.1 (fun e => h.neb e.symm), h2⟩
  · obtain ⟨cs, h1, h2, h3⟩ := h.pages j hj
    refine ⟨cs, h1.kp k.1 (fun e => (h.nep j hj).1 e), h2, fun i hi => ?_⟩
    obtain ⟨v, g1, g2⟩ := h3 i hi
    exact ⟨v, g1, (g2.widen (Below.refl _ _) hX).kp k.1 hG⟩
theorem ChAt.rds0 {w w' : World} {X : Nat → Prop} {o : Own} {c : Ch} {q : Nat} (h : ChAt w X o c) (k : RdS o c q w w') : ChAt w' X o (chR c q) :=
  h.rds k (fun _ hb => .inl hb) (fun b hb => Nat.lt_of_lt_of_le (h.old b hb) k.1.size) (fun _ hb => hb)
end Go.Proofs.YtbfifppdcmimaaaGreat
