/-
  The greatest Seq of each page of those that count. Nothing of one statement alone stands here.
-/
import Derived.Test.YtbfifppdcmimaaaGreatFtSc
namespace Ftlm
/-- of each page the greatest Seq of those that count -/
def nw1 (last : Int) (q : Int → Option Int) (f : Fo) : Int → Option Int := if cts last f.kd f.ep = true then (fun z => if z = f.pg then some (max ((q f.pg).getD 0) f.sq) else q z) else q
def nwF (last : Int) (L : List Fo) : Int → Option Int := L.foldl (nw1 last) (fun _ => none)
theorem nwF_snoc (last : Int) (L : List Fo) (f : Fo) : nwF last (L ++ [f]) = nw1 last (nwF last L) f := by unfold nwF; rw [List.foldl_append]; rfl
end Ftlm
namespace Go.Proofs.YtbfifppdcmimaaaGreat
open Go.RowKit Crcm Gcm Ftlm Go.ChangeShapes Go.Maps

set_option maxRecDepth 100000 in
/-- a look-up without 'ok' -/
theorem MpAt.get {w : World} {b : Nat} {m : Int → Option Value} {n : Nat} (h : MpAt w b m n) {t e : TypeId} (ht : Tryz.prog.underlying t = some (.map 22 e)) {z : Value} (hz : ∀ u : World, (zeroValue e).run Tryz.prog u = .ok z u) {k : Int} (hk : 0 ≤ k ∧ k < 4294967296) :
    (Instr.lookup t (.map (some b)) (.int .u32 k) false).run Tryz.prog w = .ok ((m k).getD z) w := by
  obtain ⟨es, clock, h1, h2, h3, h4, h5, h6, h7⟩ := h.es
  have hkeys : ∀ y ∈ es.toList, ∃ l, keyOf Tryz.prog 22 y.key = some l := fun y hy => by
    obtain ⟨q, hq, e1, -⟩ := h4 y hy
    exact ⟨_, by rw [e1]; exact u32_key hq⟩
  rcases u32Keyed.find w (u32_key hk) es.toList hkeys with ⟨g1, g2⟩ | ⟨j, e0, g1, g2, g3⟩
  · have hm : m k = none := by
      rcases hq : m k with _ | v
      · rfl
      · obtain ⟨e0, he, e1, -⟩ := h5 k v hq
        exact absurd e1 (g2 e0 he)
    rw [hm]
    simp [Instr.lookup, run_underlying ht, MapKept.run_getObj_map h1, u32Keyed.check w _ (u32_key hk), g1, hz, Result.andThen]
  · have hmem := List.mem_of_getElem? g2
    obtain ⟨q, hq, e1, e2⟩ := h4 e0 hmem
    rw [g3] at e1
    injection e1 with _ e1
    subst e1
    rw [e2]
    simp [Instr.lookup, run_underlying ht, MapKept.run_getObj_map h1, u32Keyed.check w _ (u32_key hk), g1, Result.andThen]
/-- numbers by pages, as a map in memory -/
def umM (q : Int → Option Int) (k : Int) : Option Value := (q k).map (Value.int .u64)
theorem zeroU64 (w : World) : (zeroValue 53).run Tryz.prog w = .ok (.int .u64 0) w := by kernel_rfl
theorem get_um {w : World} {b n : Nat} {q : Int → Option Int} (h : MpAt w b (umM q) n) {k : Int} (hk : 0 ≤ k ∧ k < 4294967296) :
    (Instr.lookup 81 (.map (some b)) (.int .u32 k) false).run Tryz.prog w = .ok (.int .u64 ((q k).getD 0)) w := by
  rw [h.get Tryz.underlying81 zeroU64 hk]
  unfold umM
  cases q k <;> rfl
theorem up_um (q : Int → Option Int) (k x : Int) : upM (umM q) k (.int .u64 x) = umM (fun z => if z = k then some x else q z) := by
  funext z
  unfold upM umM
  by_cases e : z = k
  · simp only [if_pos e]; rfl
  · simp only [if_neg e]

set_option maxRecDepth 100000 in
set_option maxHeartbeats 2000000 in
theorem snewest_any {w : World} {B S gF gE nb : Nat} {s : Sn} (h : ScAt w B S gF gE nb s) (hL : s.L.length ≤ 5000) (hok : ∀ f ∈ s.L, f.ok) :
    Calls Tryz.prog 32 #[.pointer (some ⟨S, 0, none⟩)] w fun e w' => (∃ mb n, e = .returned (.map (some mb)) ∧ w.heap.size ≤ mb ∧ MpAt w' mb (umM (nwF s.last s.L)) n) ∧ Below w.heap.size w w' := by
  obtain ⟨v, hb, hr⟩ := h.blk
  obtain ⟨A, cp, rfl⟩ := hr.form
  have hB1 : Below w.heap.size w (w.alloc (.map #[] 0)) := (Below.refl _ _).alloc (Nat.le_refl _) _
  have hm0 := MpAt.new w
  obtain ⟨mb, hmb⟩ : ∃ b, w.heap.size = b := ⟨_, rfl⟩
  rw [hmb] at hm0
  have hb1 := hb.below hB1 hb.lt
  have c0 := hb1.cell 0
  change _ = some (Value.slice A s.L.length cp) at c0
  have HR := Lib.hid hr
  have HBk := Lib.hid hb
  have HOk := Lib.hid hok
  have HM0 := Lib.hid hm0
  have HB1 := Lib.hid hB1
  have hmm := @run_makeMap Tryz.prog
  clear h hb hr hok hm0 hB1 hb1
  obtain ⟨n, hn⟩ : ∃ n, s.L.length = n := ⟨_, rfl⟩
  have HN := Lib.hid hn
  rw [hn] at c0 hL
  clear hn
  go_enter Tryz.func32, Tryz.ntmps32
  go_wp2_with fail
  go_loopw [12] (fun i wr => ∃ k q : Nat, k ≤ n ∧ i = .int .i64 k ∧ Hid (MpAt wr mb (umM (nwF s.last (s.L.take k))) q) ∧ Hid (Below w.heap.size w wr)) (fun i _ => n - (intOf i).toNat)
  case atStart => exact ⟨0, 0, by omega, rfl, HM0, HB1⟩
  case round =>
    obtain ⟨k, q, hk, rfl, HM, hbw⟩ := hrel
    by_cases hlt : k < n
    · have hkl : k < s.L.length := by rw [HN.out]; exact hlt
      obtain ⟨g, c, e1, hat⟩ := HR.out.at hkl
      injection e1 with e1 _ ec
      subst e1
      subst ec
      have hS1 : Hid (nwF s.last (s.L.take (k + 1)) = nw1 s.last (nwF s.last (s.L.take k)) s.L[k]) := Lib.hid (by rw [List.take_succ_eq_append_getElem hkl, nwF_snoc])
      have hfo := HOk.out s.L[k] (List.getElem_mem hkl)
      generalize s.L[k] = f at hat hS1 hfo
      generalize nwF s.last (s.L.take k) = nq at hS1 HM
      obtain ⟨fk, fi, fd, fp, fs, fe⟩ := f
      simp only [FoA] at hat
      obtain ⟨d0, d1, d2, d3, d4, d5⟩ := hat
      have e0 := (hbw.out.cell (block_lt_of_cell d0)).trans d0
      have e1 := (hbw.out.cell (block_lt_of_cell d1)).trans d1
      have e2 := (hbw.out.cell (block_lt_of_cell d2)).trans d2
      have e3 := (hbw.out.cell (block_lt_of_cell d3)).trans d3
      have e4 := (hbw.out.cell (block_lt_of_cell d4)).trans d4
      have e5 := (hbw.out.cell (block_lt_of_cell d5)).trans d5
      have kl : (k : Int) < (n : Int) := by omega
      obtain ⟨Q, hQ⟩ : ∃ Q, wr.heap.size = Q := ⟨_, rfl⟩
      have hb2 := hbw.out.alloc hbw.out.size (.cells #[.int .i64 fk, .int .i64 fi, .int .i64 fd, .int .u32 fp, .int .u64 fs, .int .u64 fe] 124)
      have hbQ : Blk (wr.alloc (.cells #[.int .i64 fk, .int .i64 fi, .int .i64 fd, .int .u32 fp, .int .u64 fs, .int .u64 fe] 124)) Q 124 #[.int .i64 fk, .int .i64 fi, .int .i64 fd, .int .u32 fp, .int .u64 fs, .int .u64 fe] := by rw [← hQ]; exact heap_alloc_new wr _
      have hm2 := HM.out.below ((Below.refl wr.heap.size wr).alloc (Nat.le_refl _) (.cells #[.int .i64 fk, .int .i64 fi, .int .i64 fd, .int .u32 fp, .int .u64 fs, .int .u64 fe] 124))
      have HCt := Lib.hid (counts_any S s.last fd fp fs fe (wr.alloc (.cells #[.int .i64 fk, .int .i64 fi, .int .i64 fd, .int .u32 fp, .int .u64 fs, .int .u64 fe] 124)) (((HBk.out.below hb2 HBk.out.lt).cell 3).trans rfl))
      unfold tg at HCt
      have HBQ := Lib.hid hbQ
      have HM2 := Lib.hid hm2
      have HB2 := Lib.hid hb2
      have q2 := hbQ.cell 2
      have q3 := hbQ.cell 3
      have q4 := hbQ.cell 4
      have q5 := hbQ.cell 5
      clear d0 d1 d2 d3 d4 d5 hb2 hbQ hm2 hbw HM
      generalize hct : cts s.last fd fe = ct at HCt
      go_wp2_with fail
      refine HCt.out.mono ?_
      rintro e w3 ⟨rfl, hb3⟩
      have hB3 := Lib.hid (HB2.out.trans (hb3.mono HB2.out.size))
      have hQ3 := HBQ.out.below hb3 HBQ.out.lt
      have hm3 := HM2.out.below hb3
      clear q2 q3 q4 q5 HCt e0 e1 e2 e3 e4 e5
      cases ct with
      | false =>
        have HE : Hid (nwF s.last (s.L.take (k + 1)) = nq) := Lib.hid (by rw [hS1.out]; unfold nw1; rw [if_neg (by rw [hct]; decide)])
        have HM3 := Lib.hid hm3
        clear hQ3 hm3 hct
        go_wp2
        go_roundw
        case rel => exact ⟨k + 1, q, by omega, by go_num, Lib.hid (by rw [HE.out]; exact HM3.out), hB3⟩
        case measure => simp [intOf]; omega
      | true =>
        have HE : Hid (nwF s.last (s.L.take (k + 1)) = fun z => if z = fp then some (max ((nq fp).getD 0) fs) else nq z) := Lib.hid (by rw [hS1.out]; unfold nw1; rw [if_pos hct])
        have p3 := hQ3.cell 3
        have p4 := hQ3.cell 4
        have hfp : 0 ≤ fp ∧ fp < 4294967296 := by have := hfo.2.2.2.1; simp only at this; omega
        have hg := get_um hm3 hfp
        obtain ⟨y, hy, hmy⟩ := hm3.update (t := 81) (e := 53) Tryz.underlying81 hfp (.int .u64 (max ((nq fp).getD 0) fs))
        rw [up_um] at hmy
        have hbz : Below w.heap.size w (ChangeMaps.setBlock w3 mb y) := hB3.out.trans ((kp_block (w := w3) (b := mb) (x := y)).below (fun i e => by have e2 : i = mb := e; omega) hB3.out.size)
        have HMy := Lib.hid hmy
        have HBz := Lib.hid hbz
        have hmx : (if (nq fp).getD 0 < fs then fs else (nq fp).getD 0) = max ((nq fp).getD 0) fs := if_mx _ _
        clear hQ3 hm3 hct hmy hbz
        go_wp2
        go_roundw
        case rel => exact ⟨k + 1, _, by omega, by go_num, Lib.hid (by rw [HE.out]; exact HMy.out), HBz⟩
        case measure => simp [intOf]; omega
    · have kl : ¬ (k : Int) < (n : Int) := by omega
      have e : s.L.take k = s.L := List.take_of_length_le (by rw [HN.out]; omega)
      rw [e] at HM
      clear e
      go_wp2
      go_ret
      exact ⟨⟨mb, rfl, Nat.le_refl _, q, HM.out⟩, hmb ▸ hbw.out⟩
end Go.Proofs.YtbfifppdcmimaaaGreat
