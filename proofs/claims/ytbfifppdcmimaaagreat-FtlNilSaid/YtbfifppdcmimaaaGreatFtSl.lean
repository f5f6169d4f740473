/-
  The places of what is sealed. Nothing of one statement alone stands here.
-/
import Derived.Test.YtbfifppdcmimaaaGreatFtHold
import Derived.Maps.AppendAt
namespace Ftlm
/-- a page that counts, with the greatest Seq -/
def slK (last : Int) (nq : Int → Option Int) (f : Fo) : Bool := cts last f.kd f.ep && (f.sq == (nq f.pg).getD 0)
/-- how many there are in each block -/
def inF (l : List Fo) (j : Nat) : Int := (l.countP (fun f => f.k.toNat == j) : Nat)
theorem inF_snoc (l : List Fo) (f : Fo) : inF (l ++ [f]) = fun j => if j = f.k.toNat then inF l f.k.toNat + 1 else inF l j := by
  funext j
  unfold inF
  rw [List.countP_append]
  by_cases e : j = f.k.toNat
  · subst e
    rw [if_pos rfl, List.countP_singleton, if_pos (by simp)]
    rfl
  · rw [if_neg e, List.countP_singleton, if_neg (by simp; exact fun h => e h.symm)]
    rfl
theorem inF_le (l : List Fo) (j : Nat) : 0 ≤ inF l j ∧ inF l j ≤ l.length := by
  unfold inF
  have := List.countP_le_length (p := fun f : Fo => f.k.toNat == j) (l := l)
  omega
/-- a page's place is noted, if there is none, or one in a block with less -/
def sl1 (inn : Nat → Int) (q : Int → Option (Int × Int)) (f : Fo) : Int → Option (Int × Int) :=
  if (match q f.pg with | none => true | some at' => decide (inn at'.1.toNat < inn f.k.toNat)) = true then (fun z => if z = f.pg then some (f.k, f.i) else q z) else q
def slF (inn : Nat → Int) (l : List Fo) : Int → Option (Int × Int) := l.foldl (sl1 inn) (fun _ => none)
theorem slF_snoc (inn : Nat → Int) (l : List Fo) (f : Fo) : slF inn (l ++ [f]) = sl1 inn (slF inn l) f := by unfold slF; rw [List.foldl_append]; rfl
theorem slF_mem (inn : Nat → Int) : ∀ (l : List Fo) (q : Int → Option (Int × Int)) (P : Int × Int → Prop), (∀ z p, q z = some p → P p) → (∀ f ∈ l, P (f.k, f.i)) → ∀ z p, l.foldl (sl1 inn) q z = some p → P p := by
  intro l
  induction l with
  | nil => intro q P h _ z p hz; exact h z p hz
  | cons f r ih =>
    intro q P h hl z p hz
    refine ih (sl1 inn q f) P (fun y x hy => ?_) (fun g hg => hl g (List.mem_cons_of_mem _ hg)) z p hz
    unfold sl1 at hy
    by_cases hc : (match q f.pg with | none => true | some at' => decide (inn at'.1.toNat < inn f.k.toNat)) = true
    · rw [if_pos hc] at hy
      by_cases e : y = f.pg
      · simp only [if_pos e] at hy
        injection hy with hy
        subst hy
        exact hl f (List.mem_cons_self)
      · simp only [if_neg e] at hy
        exact h y x hy
    · rw [if_neg hc] at hy
      exact h y x hy
end Ftlm
namespace Go.Proofs.YtbfifppdcmimaaaGreat
open Go.RowKit Crcm Gcm Ftlm Go.ChangeShapes Go.Maps

theorem Tryz.infoFo : (Tryz.prog.info? 124).map (fun i => (i.zero, i.size, i.bytes)) = some (some (.agg #[.int .i64 0, .int .i64 0, .int .i64 0, .int .u32 0, .int .u64 0, .int .u64 0]), 6, 48) := by kernel_rfl
/-- append of one found page that lies in a new block -/
theorem append_fo {w : World} {ops : Array Oper} {rest : List Oper} {o : Oper} {a : Act} {Q : Exit → Act → World → Prop} (hgd : o.guard = none) (s x : Operand)
    (ho : o.op = .call { callee := .builtin .append, args := #[s, x], argTypes := #[77, 77] })
    (B : Nat) (v : Value) (L : List Fo) (hs : a.eval s = v) (hown : FoR w B v L)
    (b c : Nat) (y : Fo) (hx : a.eval x = .slice (some ⟨b, 0, none⟩) 1 c) (hk : L.length ≤ 1000000) (hb : Blk w b 124 #[.int .i64 y.k, .int .i64 y.i, .int .i64 y.kd, .int .u32 y.pg, .int .u64 y.sq, .int .u64 y.ep]) (hbase : B ≤ w.heap.size)
    (h : ∀ v' w', FoR w' B v' (L ++ [y]) → Below B w w' → wpList Tryz.prog ops Q rest (a.put o.dst v') w') : wpList Tryz.prog ops Q (o :: rest) a w := by
  have hi0 := Tryz.infoFo
  obtain ⟨i0, hi, hz0, hz1, hz2⟩ : ∃ i, Tryz.prog.info? 124 = some i ∧ i.zero = some (.agg #[.int .i64 0, .int .i64 0, .int .i64 0, .int .u32 0, .int .u64 0, .int .u64 0]) ∧ i.size = 6 ∧ i.bytes = 48 := by
    cases hi : Tryz.prog.info? 124 with
    | none => rw [hi] at hi0; cases hi0
    | some i =>
      rw [hi] at hi0
      simp only [Option.map_some, Option.some.injEq, Prod.mk.injEq] at hi0
      exact ⟨i, rfl, hi0.1, hi0.2.1, hi0.2.2⟩
  refine wpList_append_own w hgd s x 77 ho B 124 i0 _ 6 48 Tryz.underlying77 hi hz0 hz1 hz2 rfl (by decide) v L.length _ hs hown ⟨b, 0, none⟩ 1 c (foC y) hx rfl ?_ ?_ (by unfold maxLen; omega) (by omega) hbase ?_
  · intro j u hu
    rw [Addr.add_lit, Nat.zero_add]
    rw [hb.cell]
    simpa [foC] using hu
  · intro u hu
    simp only [foC, List.mem_cons, List.not_mem_nil, or_false] at hu
    rcases hu with rfl | rfl | rfl | rfl | rfl | rfl <;> rfl
  · intro v' w' g1 g2 _
    refine h v' w' ?_ ((Below.refl _ w).grown g2 hbase (fun g hg => (World.ownsRow.lt hown g hg).1))
    unfold FoR
    rw [flF_append, List.length_append]
    simpa [flF] using g1

set_option maxRecDepth 100000 in
set_option maxHeartbeats 4000000 in
theorem ssealed_any {w : World} {B S gF gE nb : Nat} {s : Sn} (h : ScAt w B S gF gE nb s) (hL : s.L.length ≤ 5000) (hok : ∀ f ∈ s.L, f.ok) (hnb : nb < 129) (hkb : ∀ f ∈ s.L, f.k < nb) {mb nq : Nat} {q : Int → Option Int} (hm : MpAt w mb (umM q) nq) :
    Calls Tryz.prog 33 #[.pointer (some ⟨S, 0, none⟩), .map (some mb)] w fun e w' => (∃ m2 n2, e = .returned (.map (some m2)) ∧ w.heap.size ≤ m2 ∧ MpAt w' m2 (plM (slF (inF (s.L.filter (slK s.last q))) (s.L.filter (slK s.last q)))) n2) ∧ Below w.heap.size w w' := by
  obtain ⟨v, hb, hr⟩ := h.blk
  obtain ⟨A, cp, rfl⟩ := hr.form
  obtain ⟨i3, hi3, hz3, hs3, hb3⟩ := info_parts Tryz.infoInt
  have hmI := fun W => run_make (P := Tryz.prog) W 56 3 i3 _ Tryz.underlying56 hi3 hz3 .i64 .i64 nb nb (by omega) (Int.le_refl _) (by rw [hb3]; omega) (by omega)
  simp only [Int.toNat_natCast, hs3, Nat.mul_one] at hmI
  have eI : (Value.int .i64 0).cells = #[.int .i64 0] := rfl
  rw [eI] at hmI
  clear hi3 hz3 hs3 hb3 eI
  have c0 := hb.cell 0
  change _ = some (Value.slice A s.L.length cp) at c0
  have HR := Lib.hid hr
  have HBk := Lib.hid hb
  have HOk := Lib.hid hok
  have HKb := Lib.hid hkb
  have HM := Lib.hid hm
  have hmm := @run_makeMap Tryz.prog
  clear h hb hr hok hkb hm
  obtain ⟨n, hn⟩ : ∃ n, s.L.length = n := ⟨_, rfl⟩
  have HN := Lib.hid hn
  rw [hn] at c0 hL
  clear hn
  go_enter Tryz.func33, Tryz.ntmps33
  go_wp2_with fail
  go_loopw [5, 21] (fun x i wr => ∃ k : Nat, k ≤ n ∧ i = .int .i64 k ∧ Hid (FoR wr w.heap.size x ((s.L.take k).filter (slK s.last q))) ∧ Hid (Below w.heap.size w wr)) (fun _ i _ => n - (intOf i).toNat)
  case atStart => exact ⟨0, by omega, rfl, Lib.hid (World.ownsRow_nil _ _ _ _), Lib.hid (Below.refl _ _)⟩
  case round =>
    obtain ⟨k, hk, rfl, HX, hbw⟩ := hrel
    by_cases hlt : k < n
    · have hkl : k < s.L.length := by rw [HN.out]; exact hlt
      obtain ⟨g, c, e1, hat⟩ := HR.out.at hkl
      injection e1 with e1 _ ec
      subst e1
      subst ec
      have hS1 : Hid ((s.L.take (k + 1)).filter (slK s.last q) = (s.L.take k).filter (slK s.last q) ++ [s.L[k]].filter (slK s.last q)) := Lib.hid (by rw [List.take_succ_eq_append_getElem hkl, List.filter_append])
      have hll : ((s.L.take k).filter (slK s.last q)).length ≤ 5000 := Nat.le_trans (List.length_filter_le _ _) (by rw [List.length_take]; omega)
      have hfo := HOk.out s.L[k] (List.getElem_mem hkl)
      generalize s.L[k] = f at hat hS1 hfo
      generalize (s.L.take k).filter (slK s.last q) = l0 at hS1 HX hll
      obtain ⟨fk, fi, fd, fp, fs, fe⟩ := f
      simp only [FoA] at hat
      obtain ⟨d0, d1, d2, d3, d4, d5⟩ := hat
      have e0 := (hbw.out.cell (block_lt_of_cell d0)).trans d0
      have e1 := (hbw.out.cell (block_lt_of_cell d1)).trans d1
      have e2 := (hbw.out.cell (block_lt_of_cell d2)).trans d2
      have e3 := (hbw.out.cell (block_lt_of_cell d3)).trans d3
      have e4 := (hbw.out.cell (block_lt_of_cell d4)).trans d4
      have e5 := (hbw.out.cell (block_lt_of_cell d5)).trans d5
      have kl : (k : Int) < (n : Int) := by omega
      obtain ⟨Qb, hQ⟩ : ∃ Q, wr.heap.size = Q := ⟨_, rfl⟩
      have hb2 := hbw.out.alloc hbw.out.size (.cells #[.int .i64 fk, .int .i64 fi, .int .i64 fd, .int .u32 fp, .int .u64 fs, .int .u64 fe] 124)
      have hbQ : Blk (wr.alloc (.cells #[.int .i64 fk, .int .i64 fi, .int .i64 fd, .int .u32 fp, .int .u64 fs, .int .u64 fe] 124)) Qb 124 #[.int .i64 fk, .int .i64 fi, .int .i64 fd, .int .u32 fp, .int .u64 fs, .int .u64 fe] := by rw [← hQ]; exact heap_alloc_new wr _
      have HCt := Lib.hid (counts_any S s.last fd fp fs fe (wr.alloc (.cells #[.int .i64 fk, .int .i64 fi, .int .i64 fd, .int .u32 fp, .int .u64 fs, .int .u64 fe] 124)) (((HBk.out.below hb2 HBk.out.lt).cell 3).trans rfl))
      unfold tg at HCt
      have HX2 := Lib.hid (HX.out.below ((Below.refl wr.heap.size wr).alloc (Nat.le_refl _) (.cells #[.int .i64 fk, .int .i64 fi, .int .i64 fd, .int .u32 fp, .int .u64 fs, .int .u64 fe] 124)))
      have HBQ := Lib.hid hbQ
      have HB2 := Lib.hid hb2
      have q2 := hbQ.cell 2
      have q3 := hbQ.cell 3
      have q4 := hbQ.cell 4
      have q5 := hbQ.cell 5
      clear d0 d1 d2 d3 d4 d5 hb2 hbQ hbw HX
      generalize hct : cts s.last fd fe = ct at HCt
      go_wp2_with fail
      refine HCt.out.mono ?_
      rintro e w3 ⟨rfl, hb3⟩
      have hB3 := Lib.hid (HB2.out.trans (hb3.mono HB2.out.size))
      have HX3 := Lib.hid (HX2.out.below hb3)
      have hQ3 := HBQ.out.below hb3 HBQ.out.lt
      clear q2 q3 q4 q5 HCt e0 e1 e2 e3 e4 e5
      cases ct with
      | false =>
        have HE : Hid ((s.L.take (k + 1)).filter (slK s.last q) = l0) := Lib.hid (by
          rw [hS1.out, List.filter_cons_of_neg (by unfold slK; simp [hct])]; simp)
        clear hQ3 hct
        go_wp2
        go_roundw
        case rel => exact ⟨k + 1, by omega, by go_num, Lib.hid (by rw [HE.out]; exact HX3.out), hB3⟩
        case measure => simp [intOf]; omega
      | true =>
        have p3 := hQ3.cell 3
        have p4 := hQ3.cell 4
        have hfp : 0 ≤ fp ∧ fp < 4294967296 := by have := hfo.2.2.2.1; simp only at this; omega
        have hg := get_um (HM.out.below hB3.out) hfp
        generalize hqq : (q fp).getD 0 = qq at hg
        have p0 := hQ3.cell 0
        have p1 := hQ3.cell 1
        have p2 := hQ3.cell 2
        have p5 := hQ3.cell 5
        by_cases hsq : fs = qq
        · have hbe : (fs == qq) = true := by rw [hsq]; exact beq_self_eq_true _
          have HE : Hid ((s.L.take (k + 1)).filter (slK s.last q) = l0 ++ [⟨fk, fi, fd, fp, fs, fe⟩]) := Lib.hid (by
            rw [hS1.out, List.filter_cons_of_pos (by unfold slK; simp only [hct, hqq, hbe]; rfl)]; simp)
          obtain ⟨xa, xc, rfl⟩ := HX3.out.form
          have hX4 := HX3.out.below ((Below.refl w3.heap.size w3).alloc (Nat.le_refl _) (.cells #[.int .i64 fk, .int .i64 fi, .int .i64 fd, .int .u32 fp, .int .u64 fs, .int .u64 fe] 124))
          have hN4 : Blk (w3.alloc (.cells #[.int .i64 fk, .int .i64 fi, .int .i64 fd, .int .u32 fp, .int .u64 fs, .int .u64 fe] 124)) w3.heap.size 124 #[.int .i64 fk, .int .i64 fi, .int .i64 fd, .int .u32 fp, .int .u64 fs, .int .u64 fe] := heap_alloc_new w3 _
          have hB4 := hB3.out.alloc hB3.out.size (.cells #[.int .i64 fk, .int .i64 fi, .int .i64 fd, .int .u32 fp, .int .u64 fs, .int .u64 fe] 124)
          have HX4 := Lib.hid hX4
          have HN4 := Lib.hid hN4
          have HB4 := Lib.hid hB4
          clear hX4 hN4 hB4 hQ3 hct hqq hsq
          go_wp2_with (at_builtin; refine append_fo rfl _ _ rfl w.heap.size _ l0 rfl HX4.out w3.heap.size 1 ⟨fk, fi, fd, fp, fs, fe⟩ rfl (by omega) HN4.out HB4.out.size ?_; intro v5 w5 hX5 hb5)
          have HX5 := Lib.hid hX5
          have HB5 := Lib.hid (HB4.out.trans hb5)
          clear hX5 hb5
          go_wp2
          go_roundw
          case rel => exact ⟨k + 1, by omega, by go_num, Lib.hid (by rw [HE.out]; exact HX5.out), HB5⟩
          case measure => simp [intOf]; omega
        · have hbe : (fs == qq) = false := beq_false_of_ne hsq
          have HE : Hid ((s.L.take (k + 1)).filter (slK s.last q) = l0) := Lib.hid (by
            rw [hS1.out, List.filter_cons_of_neg (by unfold slK; simp only [hct, hqq, hbe]; decide)]; simp)
          clear hQ3 hct hqq hsq
          go_wp2
          go_roundw
          case rel => exact ⟨k + 1, by omega, by go_num, Lib.hid (by rw [HE.out]; exact HX3.out), hB3⟩
          case measure => simp [intOf]; omega
    · have kl : ¬ (k : Int) < (n : Int) := by omega
      have e : s.L.take k = s.L := List.take_of_length_le (by rw [HN.out]; omega)
      rw [e] at HX
      have hll : (s.L.filter (slK s.last q)).length ≤ 5000 := Nat.le_trans (List.length_filter_le _ _) (by rw [HN.out]; exact hL)
      have hfok : ∀ f ∈ s.L.filter (slK s.last q), f.ok ∧ f.k < nb := fun f hf => ⟨HOk.out f (List.mem_filter.1 hf).1, HKb.out f (List.mem_filter.1 hf).1⟩
      obtain ⟨l, hldef⟩ : ∃ l, s.L.filter (slK s.last q) = l := ⟨_, rfl⟩
      rw [hldef] at HX hll hfok
      have HLd := Lib.hid hldef
      clear hldef
      obtain ⟨ln, hln⟩ : ∃ n, l.length = n := ⟨_, rfl⟩
      obtain ⟨la, lc, rfl⟩ := HX.out.form
      have HLn := Lib.hid hln
      have HFo := Lib.hid hfok
      rw [hln] at hll HX ⊢
      have c1 := (HBk.out.below hbw.out HBk.out.lt).cell 1
      change _ = some (Value.slice (some ⟨gF, 0, none⟩) nb nb) at c1
      obtain ⟨gi, hgi⟩ : ∃ g, wr.heap.size = g := ⟨_, rfl⟩
      have hA : Below wr.heap.size wr (wr.alloc (.cells (madeCells #[.int .i64 0] nb) 3)) := (Below.refl _ _).alloc (Nat.le_refl _) _
      have hI0 : InR (wr.alloc (.cells (madeCells #[.int .i64 0] nb) 3)) gi nb (inF (l.take 0)) := by
        refine ⟨_, by rw [← hgi]; exact heap_alloc_new wr _, size_madeCells _ _, fun j hj => ?_⟩
        rw [made_get hj]; rfl
      have HI0 := Lib.hid hI0
      have HA := Lib.hid hA
      have HX1 := Lib.hid HX.out
      have HBw := Lib.hid hbw.out
      clear hln hfok hI0 hA e hbw HX HR c0 kl hk HOk HKb HN hL
      go_wp2_with fail
      obtain ⟨V, rfl⟩ : ∃ V, V = wr := ⟨_, rfl⟩
      go_loopw [53] (fun i wr2 => ∃ j : Nat, j ≤ ln ∧ i = .int .i64 j ∧ Hid (InR wr2 gi nb (inF (l.take j))) ∧ Hid (Below V.heap.size V wr2)) (fun i _ => ln - (intOf i).toNat)
      case atStart => exact ⟨0, by omega, rfl, HI0, HA⟩
      case round =>
        obtain ⟨j, hj, rfl, HI, hbj⟩ := hrel
        by_cases hlt : j < ln
        · have hjl : j < l.length := by rw [HLn.out]; exact hlt
          have hX1 := HX1.out
          rw [← HLn.out] at hX1
          obtain ⟨g, c, e1, hat⟩ := FoR.at hX1 hjl
          injection e1 with e1 _ ec
          subst e1
          subst ec
          have hS1 : Hid (inF (l.take (j + 1)) = fun y => if y = l[j].k.toNat then inF (l.take j) l[j].k.toNat + 1 else inF (l.take j) y) := Lib.hid (by rw [List.take_succ_eq_append_getElem hjl, inF_snoc])
          have hle := inF_le (l.take j) l[j].k.toNat
          rw [List.length_take] at hle
          have hfo := HFo.out l[j] (List.getElem_mem hjl)
          generalize l[j] = f at hat hS1 hfo hle
          generalize inF (l.take j) = fi0 at hS1 HI hle
          obtain ⟨fk, fi, fd, fp, fs, fe⟩ := f
          have hfk : 0 ≤ fk ∧ fk < nb := by have := hfo.1.1; simp only at this; exact ⟨this.1, hfo.2⟩
          obtain ⟨kk, rfl⟩ : ∃ kk : Nat, fk = kk := ⟨fk.toNat, by omega⟩
          have hkk : kk < nb := by omega
          simp only [Int.toNat_natCast] at hS1 hle
          simp only [FoA] at hat
          obtain ⟨d0, d1, d2, d3, d4, d5⟩ := hat
          have e0 := (hbj.out.cell (block_lt_of_cell d0)).trans d0
          have e1 := (hbj.out.cell (block_lt_of_cell d1)).trans d1
          have e2 := (hbj.out.cell (block_lt_of_cell d2)).trans d2
          have e3 := (hbj.out.cell (block_lt_of_cell d3)).trans d3
          have e4 := (hbj.out.cell (block_lt_of_cell d4)).trans d4
          have e5 := (hbj.out.cell (block_lt_of_cell d5)).trans d5
          have jl : (j : Int) < (ln : Int) := by omega
          have kl : (kk : Int) < (nb : Int) := by omega
          have hgl : gi < wr.heap.size := by obtain ⟨cs, q1, -⟩ := HI.out; exact q1.lt
          have hbA := HI.out.below ((Below.refl wr.heap.size wr).alloc (Nat.le_refl _) (.cells #[.int .i64 (kk : Int), .int .i64 fi, .int .i64 fd, .int .u32 fp, .int .u64 fs, .int .u64 fe] 124))
          obtain ⟨x, hx⟩ : ∃ x, fi0 kk = x := ⟨_, rfl⟩
          have i0 : (wr.alloc (.cells #[.int .i64 (kk : Int), .int .i64 fi, .int .i64 fd, .int .u32 fp, .int .u64 fs, .int .u64 fe] 124)).cell? ⟨gi, kk, none⟩ = some (.int .i64 x) := by
            obtain ⟨cs, q1, q2, q3⟩ := hbA
            rw [← hx]
            exact (q1.cell kk).trans (q3 kk hkk)
          have z0 : (wr.alloc (.cells #[.int .i64 (kk : Int), .int .i64 fi, .int .i64 fd, .int .u32 fp, .int .u64 fs, .int .u64 fe] 124)).frozen? ⟨gi, kk, none⟩ = false := by
            obtain ⟨cs, q1, q2, q3⟩ := hbA
            exact q1.frozen kk
          have hgne : gi ≠ wr.heap.size := by omega
          have hw : wrap64 (x + 1) = x + 1 := IntWalk.wrap64_in _ ⟨by rw [← hx]; omega, by rw [← hx]; omega⟩
          have HX2 : Hid (fi0 kk = x) := Lib.hid hx
          clear d0 d1 d2 d3 d4 d5 hX1 hx hle hbA
          have HI2 : Hid (InR ((wr.setCell ⟨gi, kk, none⟩ (.int .i64 (x + 1))).alloc (.cells #[.int .i64 (kk : Int), .int .i64 fi, .int .i64 fd, .int .u32 fp, .int .u64 fs, .int .u64 fe] 124)) gi nb (inF (l.take (j + 1)))) := Lib.hid (by
            have q := (HI.out.put kk hkk (x + 1)).below ((Below.refl _ _).alloc (Nat.le_refl _) (.cells #[.int .i64 (kk : Int), .int .i64 fi, .int .i64 fd, .int .u32 fp, .int .u64 fs, .int .u64 fe] 124))
            rw [hS1.out, HX2.out]
            exact q)
          have HB2 : Hid (Below V.heap.size V ((wr.setCell ⟨gi, kk, none⟩ (.int .i64 (x + 1))).alloc (.cells #[.int .i64 (kk : Int), .int .i64 fi, .int .i64 fd, .int .u32 fp, .int .u64 fs, .int .u64 fe] 124))) := Lib.hid (by
            have q := hbj.out.setCell (p := ⟨gi, kk, none⟩) (Nat.le_of_eq hgi) (.int .i64 (x + 1))
            exact q.alloc q.size _)
          clear HI
          go_wp2_with fail
          exact ⟨⟨j + 1, by omega, by go_num, HI2, HB2⟩, by simp [intOf]; omega⟩
        · have e : l.take j = l := List.take_of_length_le (by rw [HLn.out]; omega)
          have jl : ¬ (j : Int) < (ln : Int) := by omega
          rw [e] at HI
          have hll2 := hll
          obtain ⟨inn, hinn⟩ : ∃ f, inF l = f := ⟨_, rfl⟩
          rw [hinn] at HI
          have HInn := Lib.hid hinn
          clear hinn
          have hA2 : Below wr.heap.size wr (wr.alloc (.map #[] 0)) := (Below.refl _ _).alloc (Nat.le_refl _) _
          have hm0 := MpAt.new wr
          obtain ⟨m2, hm2⟩ : ∃ g, wr.heap.size = g := ⟨_, rfl⟩
          rw [hm2] at hm0
          have HM0 := Lib.hid hm0
          have HA2 := Lib.hid hA2
          clear hA2 hm0 e HA HI0
          go_wp2_with fail
          obtain ⟨U, rfl⟩ : ∃ U, U = wr := ⟨_, rfl⟩
          go_loopw [69] (fun i wr3 => ∃ y n2 : Nat, y ≤ ln ∧ i = .int .i64 y ∧ Hid (MpAt wr3 m2 (plM (slF inn (l.take y))) n2) ∧ Hid (Below U.heap.size U wr3)) (fun i _ => ln - (intOf i).toNat)
          case atStart => exact ⟨0, 0, by omega, rfl, HM0, HA2⟩
          case round =>
            obtain ⟨y, n2, hy, rfl, HMy, hby⟩ := hrel
            by_cases hlt : y < ln
            · have hyl : y < l.length := by rw [HLn.out]; exact hlt
              have hX1 := HX1.out
              rw [← HLn.out] at hX1
              obtain ⟨g, c, e1, hat⟩ := FoR.at hX1 hyl
              injection e1 with e1 _ ec
              subst e1
              subst ec
              have hS1 : Hid (slF inn (l.take (y + 1)) = sl1 inn (slF inn (l.take y)) l[y]) := Lib.hid (by rw [List.take_succ_eq_append_getElem hyl, slF_snoc])
              have hfo := HFo.out l[y] (List.getElem_mem hyl)
              have hmem : ∀ z p, slF inn (l.take y) z = some p → 0 ≤ p.1 ∧ p.1 < nb := fun z p hz => slF_mem inn (l.take y) (fun _ => none) (fun p => 0 ≤ p.1 ∧ p.1 < nb) (fun _ _ h => by cases h) (fun f hf => by have := HFo.out f (List.mem_of_mem_take hf); exact ⟨this.1.1.1, this.2⟩) z p hz
              generalize l[y] = f at hat hS1 hfo
              generalize slF inn (l.take y) = qs at hS1 HMy hmem
              obtain ⟨fk, fi, fd, fp, fs, fe⟩ := f
              have hfk : 0 ≤ fk ∧ fk < nb := by have := hfo.1.1; simp only at this; exact ⟨this.1, hfo.2⟩
              have hfp : 0 ≤ fp ∧ fp < 4294967296 := by have := hfo.1.2.2.2.1; simp only at this; omega
              obtain ⟨kk, rfl⟩ : ∃ kk : Nat, fk = kk := ⟨fk.toNat, by omega⟩
              have hkk : kk < nb := by omega
              simp only [FoA] at hat
              obtain ⟨d0, d1, d2, d3, d4, d5⟩ := hat
              have hVy : Below V.heap.size V wr := hbj.out.trans (hby.out.mono hbj.out.size)
              have e0 := (hVy.cell (block_lt_of_cell d0)).trans d0
              have e1 := (hVy.cell (block_lt_of_cell d1)).trans d1
              have e2 := (hVy.cell (block_lt_of_cell d2)).trans d2
              have e3 := (hVy.cell (block_lt_of_cell d3)).trans d3
              have e4 := (hVy.cell (block_lt_of_cell d4)).trans d4
              have e5 := (hVy.cell (block_lt_of_cell d5)).trans d5
              have yl : (y : Int) < (ln : Int) := by omega
              obtain ⟨Qb, hQ⟩ : ∃ Q, wr.heap.size = Q := ⟨_, rfl⟩
              have hI := HI.out.below hby.out
              have hBa := (Below.refl wr.heap.size wr).alloc (Nat.le_refl _) (.cells #[.int .i64 (kk : Int), .int .i64 fi, .int .i64 fd, .int .u32 fp, .int .u64 fs, .int .u64 fe] 124)
              have hbQ : Blk (wr.alloc (.cells #[.int .i64 (kk : Int), .int .i64 fi, .int .i64 fd, .int .u32 fp, .int .u64 fs, .int .u64 fe] 124)) Qb 124 #[.int .i64 (kk : Int), .int .i64 fi, .int .i64 fd, .int .u32 fp, .int .u64 fs, .int .u64 fe] := by rw [← hQ]; exact heap_alloc_new wr _
              have q3 := hbQ.cell 3
              have hlk := look_pl (HMy.out.below hBa) hfp
              obtain ⟨⟨ak, ai⟩, hak⟩ : ∃ p, (qs fp).getD (0, 0) = p := ⟨_, rfl⟩
              rw [hak] at hlk
              have hBb := hBa.alloc hBa.size (.cells #[.int .i64 ak, .int .i64 ai] 47)
              have hbQ2 := hbQ.alloc (.cells #[.int .i64 ak, .int .i64 ai] 47)
              have hsz2 : (wr.alloc (.cells #[.int .i64 (kk : Int), .int .i64 fi, .int .i64 fd, .int .u32 fp, .int .u64 fs, .int .u64 fe] 124)).heap.size = Qb + 1 := by simp [hQ]
              have hbP : Blk ((wr.alloc (.cells #[.int .i64 (kk : Int), .int .i64 fi, .int .i64 fd, .int .u32 fp, .int .u64 fs, .int .u64 fe] 124)).alloc (.cells #[.int .i64 ak, .int .i64 ai] 47)) (Qb + 1) 47 #[.int .i64 ak, .int .i64 ai] := by rw [← hsz2]; exact heap_alloc_new _ _
              have hmB := HMy.out.below hBb
              obtain ⟨z, hz, hmz⟩ := hmB.drew.update (t := 51) (e := 47) Tryz.underlying51 hfp (pv ((kk : Int), fi))
              rw [up_pl] at hmz
              unfold pv at hz hlk
              have hbz : Below U.heap.size U (ChangeMaps.setBlock ((wr.alloc (.cells #[.int .i64 (kk : Int), .int .i64 fi, .int .i64 fd, .int .u32 fp, .int .u64 fs, .int .u64 fe] 124)).alloc (.cells #[.int .i64 ak, .int .i64 ai] 47)).drew m2 z) := by
                have q := (hby.out.trans (hBb.mono hby.out.size)).drew
                exact q.trans ((kp_block (w := ((wr.alloc (.cells #[.int .i64 (kk : Int), .int .i64 fi, .int .i64 fd, .int .u32 fp, .int .u64 fs, .int .u64 fe] 124)).alloc (.cells #[.int .i64 ak, .int .i64 ai] 47)).drew) (b := m2) (x := z)).below (fun i e => by have e2 : i = m2 := e; omega) q.size)
              have r0 := hbQ2.cell 0
              have r1 := hbQ2.cell 1
              have r3 := hbQ2.cell 3
              have p0 := hbP.cell 0
              have HMz := Lib.hid hmz
              have HBz := Lib.hid hbz
              have HMn := Lib.hid hmB.drew
              have HBn := Lib.hid (hby.out.trans (hBb.mono hby.out.size)).drew
              have HI3 := Lib.hid (hI.below hBb)
              have HMem := Lib.hid hmem
              clear hBa hbQ hBb hbQ2 hsz2 hbP hmB hmz hbz d0 d1 d2 d3 d4 d5 hVy hI hmem hX1
              have hcase : (qs fp = none) ∨ (∃ aa : Nat, qs fp = some ((aa : Int), ai) ∧ ak = aa ∧ aa < nb) := by
                cases hq : qs fp with
                | none => exact .inl rfl
                | some p =>
                  right
                  have := HMem.out fp p hq
                  rw [hq] at hak
                  have e9 : p = (ak, ai) := hak
                  subst e9
                  exact ⟨ak.toNat, by rw [Int.toNat_of_nonneg this.1], by have := this.1; simp only at this; omega, by have := this; simp only at this; omega⟩
              rcases hcase with hq | ⟨aa, hq, rfl, haa⟩
              · rw [hq] at hlk
                have HE : Hid (slF inn (l.take (y + 1)) = fun u => if u = fp then some ((kk : Int), fi) else qs u) := Lib.hid (by rw [hS1.out]; unfold sl1; simp only [hq, if_true])
                clear hq hak
                go_wp2_with fail
                go_region
                go_wp2
                go_roundw
                case rel => exact ⟨y + 1, _, by omega, by go_num, Lib.hid (by rw [HE.out]; exact HMz.out), HBz⟩
                case measure => simp [intOf]; omega
              · rw [hq] at hlk
                have hi2 : ∃ cs, Blk ((wr.alloc (.cells #[.int .i64 (kk : Int), .int .i64 fi, .int .i64 fd, .int .u32 fp, .int .u64 fs, .int .u64 fe] 124)).alloc (.cells #[.int .i64 (aa : Int), .int .i64 ai] 47)) gi 3 cs ∧ cs.size = nb ∧ ∀ j, j < nb → cs[j]? = some (.int .i64 (inn j)) := HI3.out
                obtain ⟨cs, s1, -, s2⟩ := hi2
                have i1 := (s1.cell kk).trans (s2 kk hkk)
                have i2 := (s1.cell aa).trans (s2 aa haa)
                have kl1 : (kk : Int) < (nb : Int) := by omega
                have kl2 : (aa : Int) < (nb : Int) := by omega
                have hSl : Hid (slF inn (l.take (y + 1)) = if inn aa < inn kk then (fun u => if u = fp then some ((kk : Int), fi) else qs u) else qs) := Lib.hid (by rw [hS1.out]; unfold sl1; simp only [hq, Int.toNat_natCast, decide_eq_true_eq])
                generalize inn kk = ik at i1 hSl
                generalize inn aa = ia at i2 hSl
                clear hq hak s1 s2
                by_cases hgt : ia < ik
                · rw [if_pos hgt] at hSl
                  have hd : decide (ia < ik) = true := decide_eq_true hgt
                  go_wp2_with fail
                  go_region_held3 (fun w' => w'.cell? ⟨Qb, 0, none⟩ = some (.int .i64 (kk : Int)) ∧ w'.cell? ⟨gi, kk, none⟩ = some (.int .i64 ik) ∧ w'.cell? ⟨Qb + 1, 0, none⟩ = some (.int .i64 (aa : Int)) ∧ w'.cell? ⟨gi, aa, none⟩ = some (.int .i64 ia)) ((go_keep)) ((fail))
                  go_wp2
                  go_roundw
                  case rel => exact ⟨y + 1, _, by omega, by go_num, Lib.hid (by rw [hSl.out]; exact HMz.out), HBz⟩
                  case measure => simp [intOf]; omega
                · rw [if_neg hgt] at hSl
                  have hd : decide (ia < ik) = false := decide_eq_false hgt
                  go_wp2_with fail
                  go_region_held3 (fun w' => w'.cell? ⟨Qb, 0, none⟩ = some (.int .i64 (kk : Int)) ∧ w'.cell? ⟨gi, kk, none⟩ = some (.int .i64 ik) ∧ w'.cell? ⟨Qb + 1, 0, none⟩ = some (.int .i64 (aa : Int)) ∧ w'.cell? ⟨gi, aa, none⟩ = some (.int .i64 ia)) ((go_keep)) ((fail))
                  go_wp2
                  go_roundw
                  case rel => exact ⟨y + 1, n2, by omega, by go_num, Lib.hid (by rw [hSl.out]; exact HMn.out), HBn⟩
                  case measure => simp [intOf]; omega
            · have yl : ¬ (y : Int) < (ln : Int) := by omega
              have e : l.take y = l := List.take_of_length_le (by rw [HLn.out]; omega)
              rw [e, ← HInn.out] at HMy
              have HBE := Lib.hid (HBw.out.trans ((hbj.out.trans (hby.out.mono hbj.out.size)).mono HBw.out.size))
              have HLe : Hid (w.heap.size ≤ m2) := Lib.hid (by rw [← hm2]; exact Nat.le_trans HBw.out.size hbj.out.size)
              clear hm2 hgi
              go_wp2
              go_ret
              exact ⟨⟨m2, rfl, HLe.out, n2, by rw [HLd.out]; exact HMy.out⟩, HBE.out⟩
end Go.Proofs.YtbfifppdcmimaaaGreat
