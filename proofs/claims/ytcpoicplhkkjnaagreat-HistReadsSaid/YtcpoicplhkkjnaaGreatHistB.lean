/-
  Operations' bytes as the document tells them. Nothing of one statement alone stands here.
-/
import Derived.Test.YtcpoicplhkkjnaaGreatHistL
import Derived.Deep.RegionLaw
import Derived.Deep.CutRange
import Derived.Deep.DeepCutAuto
namespace Go.Proofs.YtcpoicplhkkjnaaGreat
open Go.RowKit Crcm Tagm Go.ChangeShapes

theorem hwp_append {w : World} {o : Oper} {a : Act} {K : Act → World → Prop} {Q : Exit → Act → World → Prop} (s x : Operand)
    (ho : o.op = .call { callee := .builtin .append, args := #[s, x], argTypes := #[25, 25] })
    (base : Nat) (v : Value) (n : Nat) (xs : List Int) (hs : a.eval s = v) (hown : w.ownsRow base 5 1 v n (xs.map (Value.int .u8)))
    (A : Option Addr) (m c : Nat) (l : List Int) (hx : a.eval x = .slice A m c) (hl : l.length = m) (hr : Rw w A l) (h63 : n + m ≤ 1000000) (hbase : base ≤ w.heap.size)
    (h : ∀ v' w', w'.ownsRow base 5 1 v' (n + m) ((xs ++ l).map (Value.int .u8)) → Og v v' w w' → K (a.put o.dst v') w') : o.wp Tryz.prog a w K Q := by
  obtain ⟨i0, hi, hz0, hz1, hz2⟩ := info_parts Tryz.info8
  rcases hr.src with ⟨rfl, rfl⟩ | ⟨ad, rfl, hc⟩
  · simp at hl
    subst hl
    exact wp_append_nothing s x 25 ho base 5 i0 1 Tryz.underlying25 hi v n _ hs hown c hx (h v w (by simpa using hown) (Og.refl v w))
  · obtain ⟨v', w', hrun, h2, h3, h4, h5⟩ := run_append_own_at (P := Tryz.prog) w base 25 o.type 5 i0 (.int .u8 0) 1 1 Tryz.underlying25 hi hz0 hz1 hz2 rfl (by decide) v n _ hown ad m c (l.map (Value.int .u8)) (by simp [hl]) (fun j u hu => by
      rw [List.getElem?_map] at hu
      by_cases hj : j < l.length
      · rw [hc j hj]
        simpa [hj] using hu
      · simp [List.getElem?_eq_none (by omega : l.length ≤ j)] at hu) (fun u hu => by obtain ⟨n, -, rfl⟩ := List.mem_map.1 hu; rfl) (by unfold maxLen; omega) (by omega) hbase
    unfold Oper.wp execOp
    simp only [ho, resolve, invoke, builtin, Sem.run_bind, Sem.run_pure, Result.andThen_ok, List.map_toArray, List.map_cons, List.map_nil, hs, hx, hrun]
    rw [← List.map_append] at h2
    exact h v' w' h2 (Og.of_grown h3 h5)
theorem hstep {ops : Array Oper} {o : Oper} {a : Act} {w : World} {K : Act → World → Prop} {Q : Exit → Act → World → Prop} {E : Prop}
    (hg : o.guard = none) (s x : Operand) (hop : o.op = Op.call { callee := Callee.builtin Builtin.append, args := #[s, x], argTypes := #[25, 25] })
    (base : Nat) (v : Value) (n : Nat) (xs : List Int) (hs : a.eval s = v) (hown : w.ownsRow base 5 1 v n (xs.map (Value.int .u8)))
    (A : Option Addr) (m c : Nat) (l : List Int) (hx : a.eval x = .slice A m c) (hl : l.length = m) (hr : Rw w A l) (h63 : n + m ≤ 1000000) (hbase : base ≤ w.heap.size)
    (hK : ∀ v' w', w'.ownsRow base 5 1 v' (n + m) ((xs ++ l).map (Value.int .u8)) → Og v v' w w' → K (a.put o.dst v') w') :
    if Region.wanted o (yielded ops a.tmps) = true then Oper.wp Tryz.prog o a w K Q else E := by
  have hw : Region.wanted o (yielded ops a.tmps) = true := by simp [Region.wanted, hg]
  rw [if_pos hw]
  exact hwp_append s x hop base v n xs hs hown A m c l hx hl hr h63 hbase hK

/-- what stands while an operation's bytes are told: its box, its bytes, the row so far -/
structure Pq (base : Nat) (v0 : Value) (w0 W : World) (p : Nat) (cs : Array Value) (A : Option Addr) (l : List Int) (v : Value) (n : Nat) (xs : List Int) : Prop where
  box : Blk W p 48 cs
  ne : v.ownBlock ≠ some p
  src : Sx W v A l
  row : W.ownsRow base 5 1 v n (xs.map (Value.int .u8))
  og : Og v0 v w0 W
  bs : base ≤ W.heap.size
theorem Pq.next {base : Nat} {v0 : Value} {w0 W W' : World} {p : Nat} {cs : Array Value} {A : Option Addr} {l : List Int} {v v' : Value} {n n' : Nat} {xs xs' : List Int} (h : Pq base v0 w0 W p cs A l v n xs) (hr : W'.ownsRow base 5 1 v' n' (xs'.map (Value.int .u8))) (ho : Og v v' W W') : Pq base v0 w0 W' p cs A l v' n' xs' :=
  ⟨h.box.og ho h.ne, ho.ne h.box.lt h.ne, h.src.og ho, hr, h.og.trans ho, Nat.le_trans h.bs ho.size⟩
theorem Pq.below {base : Nat} {v0 : Value} {w0 W W' : World} {p : Nat} {cs : Array Value} {A : Option Addr} {l : List Int} {v : Value} {n : Nat} {xs : List Int} (h : Pq base v0 w0 W p cs A l v n xs) (hb : Below W.heap.size W W') : Pq base v0 w0 W' p cs A l v n xs :=
  h.next (own_below h.row hb) (Og.of_below v hb)
theorem Rw.new8 (w : World) (x : Int) (hx : U8 x) : Rw (w.alloc (.cells #[.int .u8 x] 5)) (some ⟨w.heap.size, 0, none⟩) [x] := by
  refine ⟨fun n hn => by simp at hn; rw [hn]; exact hx, by unfold maxLen; simp, .inr ⟨w.heap.size, 0, rfl, fun i hi => ?_⟩⟩
  have hi0 : i = 0 := by simpa using hi
  subst hi0
  have := cell_one_new w (.int .u8 x) 5 0 (.int .u8 x) rfl
  exact this
theorem le1 (x : Int) : le 1 x = [x % 256] := rfl
theorem byte_of (x : Int) : IntKind.u8.wrap x = uw x % 256 := by
  unfold uw
  rw [IntKind.wrap_u64, IntKind.wrap_u8]
  omega

set_option maxRecDepth 100000 in
set_option maxHeartbeats 2000000 in
theorem rbytes_any (o : Ho) (A : Option Addr) (c m : Nat) (hm : o.b.length = m) (w : World) (hn0 : (ob o).length ≤ 800000) (hr : Rw w A o.b) :
    Calls Tryz.prog 48 #[.agg #[.int .i64 o.kind, .string o.path, .string o.to, .int .i64 o.handle, .int .i64 o.n, .int .i64 o.off, .slice A m c]] w fun e w' => ∃ v', e = .returned v' ∧ w'.ownsRow w.heap.size 5 1 v' (ob o).length ((ob o).map (Value.int .u8)) ∧ Below w.heap.size w w' := by
  have hol := ob_len o
  rw [hm] at hol
  obtain ⟨K, hK⟩ : ∃ K, uw o.kind % 256 = K := ⟨_, rfl⟩
  obtain ⟨L1, hL1⟩ : ∃ K, uw o.path.size % 256 = K := ⟨_, rfl⟩
  obtain ⟨L2, hL2⟩ : ∃ K, uw o.to.size % 256 = K := ⟨_, rfl⟩
  have HL2 : Hid (U8 L2) := Lib.hid (by rw [← hL2]; unfold U8; omega)
  obtain ⟨H, hH⟩ : ∃ H, uw o.handle = H := ⟨_, rfl⟩
  obtain ⟨N, hN⟩ : ∃ N, uw o.n = N := ⟨_, rfl⟩
  obtain ⟨F, hF⟩ : ∃ F, uw o.off = F := ⟨_, rfl⟩
  obtain ⟨M, hM⟩ : ∃ F, uw (m : Int) = F := ⟨_, rfl⟩
  have HU : Hid (U64 H ∧ U64 N ∧ U64 F ∧ U64 M) := Lib.hid ⟨hH ▸ uw_U64 _, hN ▸ uw_U64 _, hF ▸ uw_U64 _, hM ▸ uw_U64 _⟩
  have eH : IntKind.u64.wrap o.handle = H := hH
  have eN : IntKind.u64.wrap o.n = N := hN
  have eF : IntKind.u64.wrap o.off = F := hF
  have eM : IntKind.u64.wrap (m : Int) = M := hM
  have HOb : Hid (ob o = [K, L1] ++ nb o.path ++ [L2] ++ nb o.to ++ le 4 H ++ le 4 N ++ le 8 F ++ le 2 M ++ o.b) := Lib.hid (by
    rw [← hK, ← hL1, ← hL2, ← hH, ← hN, ← hF, ← hM, ← hm]
    simp [ob, le1])
  have eK : IntKind.u8.wrap o.kind = K := by rw [byte_of]; exact hK
  have eL1 : IntKind.u8.wrap (o.path.size : Int) = L1 := by rw [byte_of]; exact hL1
  have eL2 : IntKind.u8.wrap (o.to.size : Int) = L2 := by rw [byte_of]; exact hL2
  clear hK hL1 hL2 hH hN hF hM
  have hz : o.path.size ≤ maxLen ∧ o.to.size ≤ maxLen := by unfold maxLen; omega
  have HSz := Lib.hid hz
  have hbl := (Below.refl w.heap.size w).alloc (Nat.le_refl _) (.cells #[.int .i64 o.kind, .string o.path, .string o.to, .int .i64 o.handle, .int .i64 o.n, .int .i64 o.off, .slice A m c] 48)
  have HB := Lib.hid hbl
  have HBk := Lib.hid (Blk.new w 48 #[.int .i64 o.kind, .string o.path, .string o.to, .int .i64 o.handle, .int .i64 o.n, .int .i64 o.off, .slice A m c])
  have hcv := fun W s => Lib.run_convert_string_bytes (P := Tryz.prog) W 9 25 5 s Tryz.underlying9 Tryz.underlying25 Tryz.underlying5
  have HL := Lib.hid hol
  have HM := Lib.hid hm
  have HR := Lib.hid (hr.below hbl)
  have hr0 := Lib.hid hr
  have b0 : 21 + o.path.size + o.to.size + m ≤ 800000 := by omega
  clear hr hbl hol hz hm hn0
  go_enter Tryz.func48, Tryz.ntmps48
  go_upto_region 1 with (fail)
  generalize (w.alloc (.cells #[.int .i64 o.kind, .string o.path, .string o.to, .int .i64 o.handle, .int .i64 o.n, .int .i64 o.off, .slice A m c] 48)) = W at HB HBk HR ⊢
  obtain ⟨p, hp⟩ : ∃ p, w.heap.size = p := ⟨_, rfl⟩
  rw [hp] at HBk ⊢
  clear hp
  have q0 : W.cell? ⟨p, 0, none⟩ = some (.int .i64 o.kind) := HBk.out.cell 0
  have q1 : W.cell? ⟨p, 1, none⟩ = some (.string o.path) := HBk.out.cell 1
  go_upto_region 2 with (fail)
  have hal := (Below.refl W.heap.size W).alloc (Nat.le_refl _) (.cells #[.int .u8 K, .int .u8 L1] 5)
  have HB1 := Lib.hid (HB.out.trans (hal.mono HB.out.size))
  have HBk1 := Lib.hid (HBk.out.below hal HBk.out.lt)
  have HR1 := Lib.hid (HR.out.below hal)
  have HO1 : Hid ((W.alloc (.cells #[.int .u8 K, .int .u8 L1] 5)).ownsRow w.heap.size 5 1 (.slice (some ⟨W.heap.size, 0, none⟩) 2 2) 2 ([K, L1].map (Value.int .u8))) := Lib.hid (Joins.ownsRow_le (World.ownsRow_lit W #[.int .u8 K, .int .u8 L1] 2 (Nat.le_refl _) (by unfold maxLen; omega) rfl) HB.out.size)
  generalize (W.alloc (.cells #[.int .u8 K, .int .u8 L1] 5)) = W1 at HB1 HBk1 HR1 HO1 ⊢
  have hgp : W.heap.size ≠ p := by have := HBk.out.lt; omega
  have HGp := Lib.hid hgp
  clear hgp
  generalize W.heap.size = g at HO1 HGp ⊢
  clear hal q0 q1
  have q1 : W1.cell? ⟨p, 1, none⟩ = some (.string o.path) := HBk1.out.cell 1
  have q2 : W1.cell? ⟨p, 2, none⟩ = some (.string o.to) := HBk1.out.cell 2
  have hd : Below W1.heap.size W1 W1.drew := (Below.refl _ _).drew
  obtain ⟨tb, tr⟩ := textW (w := W1.drew) o.path HSz.out.1
  have HTa := Lib.hid tb
  have HTr := Lib.hid tr
  have HOa := Lib.hid (own_below (own_below HO1.out hd) tb)
  have HBa : Hid (Below w.heap.size w (Lib.bytesWorld W1.drew 5 o.path)) := Lib.hid ((HB1.out.trans (hd.mono HB1.out.size)).trans (tb.mono HB1.out.size))
  have HBka := Lib.hid ((HBk1.out.below hd HBk1.out.lt).below tb HBk1.out.lt)
  have hab := (Below.refl (Lib.bytesWorld W1.drew 5 o.path).heap.size (Lib.bytesWorld W1.drew 5 o.path)).alloc (Nat.le_refl _) (.cells #[.int .u8 L2] 5)
  have HOb := Lib.hid (own_below HOa.out hab)
  have HTb := Lib.hid (HTr.out.below hab)
  have HBb : Hid (Below w.heap.size w ((Lib.bytesWorld W1.drew 5 o.path).alloc (.cells #[.int .u8 L2] 5))) := Lib.hid (HBa.out.trans (hab.mono HBa.out.size))
  have HSb := Lib.hid (Sx.new HOa.out (Nat.le_refl _) (Rw.new8 (Lib.bytesWorld W1.drew 5 o.path) L2 HL2.out))
  have q2a : (Lib.bytesWorld W1.drew 5 o.path).cell? ⟨p, 2, none⟩ = some (.string o.to) := HBka.out.cell 2
  have hac := (Below.refl W1.heap.size W1).alloc (Nat.le_refl _) (.cells #[.int .u8 L2] 5)
  obtain ⟨tc, trc⟩ := textW (w := (W1.alloc (.cells #[.int .u8 L2] 5)).drew) o.path HSz.out.1
  have hcd : Below W1.heap.size W1 (Lib.bytesWorld (W1.alloc (.cells #[.int .u8 L2] 5)).drew 5 o.path) := hac.drew.trans (tc.mono hac.size)
  have HOc := Lib.hid (own_below HO1.out hcd)
  have HTc : Hid (Rw (Lib.bytesWorld (W1.alloc (.cells #[.int .u8 L2] 5)).drew 5 o.path) (some ⟨W1.heap.size + 1, 0, none⟩) (nb o.path)) := Lib.hid (by simpa using trc)
  have HBc : Hid (Below w.heap.size w (Lib.bytesWorld (W1.alloc (.cells #[.int .u8 L2] 5)).drew 5 o.path)) := Lib.hid (HB1.out.trans (hcd.mono HB1.out.size))
  have HSc := Lib.hid ((Sx.new HO1.out (Nat.le_refl _) (Rw.new8 W1 L2 HL2.out)).og (Og.of_below _ (show Below (W1.alloc (.cells #[.int .u8 L2] 5)).heap.size (W1.alloc (.cells #[.int .u8 L2] 5)) _ from (Below.refl _ _).drew.trans tc)))
  have q1c : (W1.alloc (.cells #[.int .u8 L2] 5)).cell? ⟨p, 1, none⟩ = some (.string o.path) := (HBk1.out.below hac HBk1.out.lt).cell 1
  have HGa : Hid (Og (.slice (some ⟨g, 0, none⟩) 2 2) (.slice (some ⟨g, 0, none⟩) 2 2) W1 (Lib.bytesWorld W1.drew 5 o.path)) := Lib.hid (Og.of_below _ (hd.trans tb))
  have HGb : Hid (Og (.slice (some ⟨g, 0, none⟩) 2 2) (.slice (some ⟨g, 0, none⟩) 2 2) W1 ((Lib.bytesWorld W1.drew 5 o.path).alloc (.cells #[.int .u8 L2] 5))) := Lib.hid (HGa.out.trans (Og.of_below _ hab))
  have HGc : Hid (Og (.slice (some ⟨g, 0, none⟩) 2 2) (.slice (some ⟨g, 0, none⟩) 2 2) W1 (Lib.bytesWorld (W1.alloc (.cells #[.int .u8 L2] 5)).drew 5 o.path)) := Lib.hid (Og.of_below _ hcd)
  have HSA := Lib.hid (Sx.of_old HO1.out hr0.out (Nat.le_refl _) HR1.out)
  clear tb tr hd hab hac tc trc hcd
  go_cut [3] (fun s3 wx => Hid (wx.ownsRow w.heap.size 5 1 s3 (2 + o.path.size + 1) (([K, L1] ++ nb o.path ++ [L2]).map (Value.int .u8))) ∧ Hid (Og (.slice (some ⟨g, 0, none⟩) 2 2) s3 W1 wx))
  case first =>
    go_region_law (first
      | (refine hstep rfl (.tmp 12) (.tmp 15) rfl w.heap.size (.slice (some ⟨g, 0, none⟩) 2 2) 2 [K, L1] (by simp [Act.eval, Act.put]) HOa.out (some ⟨W1.heap.size, 0, none⟩) o.path.size _ (nb o.path) (by simp [Act.eval, Act.put]; rfl) (nb_length _) HTr.out (by omega) HBa.out.size ?_; intro v2 w2 hown2 hog2; have q2' : w2.cell? ⟨p, 2, none⟩ = some (.string o.to) := (HBka.out.og hog2 (by simp [Value.ownBlock]; exact HGp.out)).cell 2; have hG2 := HGa.out.trans hog2)
      | (refine hstep rfl (.tmp 12) (.tmp 15) rfl w.heap.size (.slice (some ⟨g, 0, none⟩) 2 2) 2 [K, L1] (by simp [Act.eval]) HOb.out (some ⟨W1.heap.size, 0, none⟩) o.path.size _ (nb o.path) (by simp [Act.eval]; rfl) (nb_length _) HTb.out (by omega) HBb.out.size ?_; intro v2 w2 hown2 hog2; have hS2 := HSb.out.og hog2; have hG2 := HGb.out.trans hog2)
      | (refine hstep rfl (.tmp 12) (.tmp 15) rfl w.heap.size (.slice (some ⟨g, 0, none⟩) 2 2) 2 [K, L1] (by simp [Act.eval]) HOc.out (some ⟨W1.heap.size + 1, 0, none⟩) o.path.size _ (nb o.path) (by simp [Act.eval]; rfl) (nb_length _) HTc.out (by omega) HBc.out.size ?_; intro v2 w2 hown2 hog2; have hS2 := HSc.out.og hog2; have hG2 := HGc.out.trans hog2)
      | (refine hstep rfl (.tmp 16) (.tmp 21) rfl w.heap.size v2 (2 + o.path.size) ([K, L1] ++ nb o.path) (by simp [Act.eval]) (by simpa using hown2) _ 1 1 [L2] (by simp [Act.eval, Lib.bytesWorld_size]) rfl hS2.1 (by omega) (Nat.le_trans HB1.out.size hG2.size) ?_; intro v3 w3 hown3 hog3; have hG3 := hG2.trans hog3)
      | (refine hstep rfl (.tmp 16) (.tmp 21) rfl w.heap.size v2 (2 + o.path.size) ([K, L1] ++ nb o.path) (by simp [Act.eval]) (by simpa using own_below hown2 ((Below.refl _ _).alloc (Nat.le_refl _) _)) (some ⟨w2.heap.size, 0, none⟩) 1 1 [L2] (by simp [Act.eval]) rfl (Rw.new8 w2 L2 HL2.out) (by omega) (by rw [World.size_alloc]; have := HB1.out.size; have := hG2.size; omega) ?_; intro v3 w3 hown3 hog3; have hG3 := hG2.trans ((Og.of_below _ ((Below.refl _ _).alloc (Nat.le_refl _) _)).trans hog3)))
    all_goals
      go_wp2_with fail
      go_meet
      exact ⟨Lib.hid (by simpa using hown3), Lib.hid hG3⟩
  case rest =>
    obtain ⟨HO3, HG3⟩ := hcut
    have HP3 : Hid (Pq w.heap.size (.slice (some ⟨g, 0, none⟩) 2 2) W1 wc p #[.int .i64 o.kind, .string o.path, .string o.to, .int .i64 o.handle, .int .i64 o.n, .int .i64 o.off, .slice A m c] A o.b u3 (2 + o.path.size + 1) ([K, L1] ++ nb o.path ++ [L2])) := Lib.hid
      ⟨HBk1.out.og HG3.out (by simp [Value.ownBlock]; exact HGp.out), HG3.out.ne HBk1.out.lt (by simp [Value.ownBlock]; exact HGp.out), HSA.out.og HG3.out, HO3.out, HG3.out, Nat.le_trans HB1.out.size HG3.out.size⟩
    clear q1 q2 q2a q1c HO3 HG3 HOa HTr HTa HBa HOb HTb HBb HSb HOc HTc HBc HSc HBka HGa HGb HGc HSA
    have z2 : wc.cell? ⟨p, 2, none⟩ = some (.string o.to) := HP3.out.box.cell 2
    obtain ⟨tb2, tr2⟩ := textW (w := wc) o.to HSz.out.2
    have HP3' := Lib.hid (HP3.out.below tb2)
    have HT2 := Lib.hid tr2
    clear tb2 tr2 HP3
    go_wp2_with (at_builtin; refine happend rfl _ _ rfl w.heap.size _ (2 + o.path.size + 1) ([K, L1] ++ nb o.path ++ [L2]) rfl HP3'.out.row _ o.to.size _ (nb o.to) rfl (nb_length _) HT2.out (by omega) HP3'.out.bs ?_)
    intro v4 w4 ho4 hg4
    have HP4 : Hid (Pq w.heap.size (.slice (some ⟨g, 0, none⟩) 2 2) W1 w4 p #[.int .i64 o.kind, .string o.path, .string o.to, .int .i64 o.handle, .int .i64 o.n, .int .i64 o.off, .slice A m c] A o.b v4 (2 + o.path.size + 1 + o.to.size) ([K, L1] ++ nb o.path ++ [L2] ++ nb o.to)) := Lib.hid (HP3'.out.next (by simpa using ho4) hg4)
    clear ho4 hg4 HP3' HT2 z2
    have z3 : w4.cell? ⟨p, 3, none⟩ = some (.int .i64 o.handle) := HP4.out.box.cell 3
    have HBg := Lib.hid (big_any H 4 w4 HU.out.1 (by omega))
    go_wp2_with fail
    refine HBg.out.mono ?_
    rintro e wb ⟨ab, cb, rfl, hrb, hbb⟩
    have HPb := Lib.hid (HP4.out.below hbb)
    have HRb := Lib.hid hrb
    clear hrb hbb HBg HP4 z3
    go_wp2_with (at_builtin; refine happend rfl _ _ rfl w.heap.size _ (2 + o.path.size + 1 + o.to.size) ([K, L1] ++ nb o.path ++ [L2] ++ nb o.to) rfl HPb.out.row ab 4 cb (le 4 H) rfl (le_length _ _) HRb.out (by omega) HPb.out.bs ?_)
    intro v5 w5 ho hg
    have HP5 : Hid (Pq w.heap.size (.slice (some ⟨g, 0, none⟩) 2 2) W1 w5 p #[.int .i64 o.kind, .string o.path, .string o.to, .int .i64 o.handle, .int .i64 o.n, .int .i64 o.off, .slice A m c] A o.b v5 (2 + o.path.size + 1 + o.to.size + 4) ([K, L1] ++ nb o.path ++ [L2] ++ nb o.to ++ le 4 H)) := Lib.hid (HPb.out.next (by simpa using ho) hg)
    clear ho hg HPb HRb
    have z4 : w5.cell? ⟨p, 4, none⟩ = some (.int .i64 o.n) := HP5.out.box.cell 4
    have HBg := Lib.hid (big_any N 4 w5 HU.out.2.1 (by omega))
    go_wp2_with fail
    refine HBg.out.mono ?_
    rintro e wb ⟨ab, cb, rfl, hrb, hbb⟩
    have HPb := Lib.hid (HP5.out.below hbb)
    have HRb := Lib.hid hrb
    clear hrb hbb HBg HP5 z4
    go_wp2_with (at_builtin; refine happend rfl _ _ rfl w.heap.size _ (2 + o.path.size + 1 + o.to.size + 4) ([K, L1] ++ nb o.path ++ [L2] ++ nb o.to ++ le 4 H) rfl HPb.out.row ab 4 cb (le 4 N) rfl (le_length _ _) HRb.out (by omega) HPb.out.bs ?_)
    intro v6 w6 ho hg
    have HP6 : Hid (Pq w.heap.size (.slice (some ⟨g, 0, none⟩) 2 2) W1 w6 p #[.int .i64 o.kind, .string o.path, .string o.to, .int .i64 o.handle, .int .i64 o.n, .int .i64 o.off, .slice A m c] A o.b v6 (2 + o.path.size + 1 + o.to.size + 4 + 4) ([K, L1] ++ nb o.path ++ [L2] ++ nb o.to ++ le 4 H ++ le 4 N)) := Lib.hid (HPb.out.next (by simpa using ho) hg)
    clear ho hg HPb HRb
    have z5 : w6.cell? ⟨p, 5, none⟩ = some (.int .i64 o.off) := HP6.out.box.cell 5
    have HBg := Lib.hid (big_any F 8 w6 HU.out.2.2.1 (by omega))
    go_wp2_with fail
    refine HBg.out.mono ?_
    rintro e wb ⟨ab, cb, rfl, hrb, hbb⟩
    have HPb := Lib.hid (HP6.out.below hbb)
    have HRb := Lib.hid hrb
    clear hrb hbb HBg HP6 z5
    go_wp2_with (at_builtin; refine happend rfl _ _ rfl w.heap.size _ (2 + o.path.size + 1 + o.to.size + 4 + 4) ([K, L1] ++ nb o.path ++ [L2] ++ nb o.to ++ le 4 H ++ le 4 N) rfl HPb.out.row ab 8 cb (le 8 F) rfl (le_length _ _) HRb.out (by omega) HPb.out.bs ?_)
    intro v7 w7 ho hg
    have HP7 : Hid (Pq w.heap.size (.slice (some ⟨g, 0, none⟩) 2 2) W1 w7 p #[.int .i64 o.kind, .string o.path, .string o.to, .int .i64 o.handle, .int .i64 o.n, .int .i64 o.off, .slice A m c] A o.b v7 (2 + o.path.size + 1 + o.to.size + 4 + 4 + 8) ([K, L1] ++ nb o.path ++ [L2] ++ nb o.to ++ le 4 H ++ le 4 N ++ le 8 F)) := Lib.hid (HPb.out.next (by simpa using ho) hg)
    clear ho hg HPb HRb
    have z6 : w7.cell? ⟨p, 6, none⟩ = some (.slice A m c) := HP7.out.box.cell 6
    have HBg := Lib.hid (big_any M 2 w7 HU.out.2.2.2 (by omega))
    go_wp2_with fail
    refine HBg.out.mono ?_
    rintro e wb ⟨ab, cb, rfl, hrb, hbb⟩
    have HPb := Lib.hid (HP7.out.below hbb)
    have HRb := Lib.hid hrb
    clear hrb hbb HBg HP7 z6
    go_wp2_with (at_builtin; refine happend rfl _ _ rfl w.heap.size _ (2 + o.path.size + 1 + o.to.size + 4 + 4 + 8) ([K, L1] ++ nb o.path ++ [L2] ++ nb o.to ++ le 4 H ++ le 4 N ++ le 8 F) rfl HPb.out.row ab 2 cb (le 2 M) rfl (le_length _ _) HRb.out (by omega) HPb.out.bs ?_)
    intro v8 w8 ho hg
    have HP8 : Hid (Pq w.heap.size (.slice (some ⟨g, 0, none⟩) 2 2) W1 w8 p #[.int .i64 o.kind, .string o.path, .string o.to, .int .i64 o.handle, .int .i64 o.n, .int .i64 o.off, .slice A m c] A o.b v8 (2 + o.path.size + 1 + o.to.size + 4 + 4 + 8 + 2) ([K, L1] ++ nb o.path ++ [L2] ++ nb o.to ++ le 4 H ++ le 4 N ++ le 8 F ++ le 2 M)) := Lib.hid (HPb.out.next (by simpa using ho) hg)
    clear ho hg HPb HRb
    have z6 : w8.cell? ⟨p, 6, none⟩ = some (.slice A m c) := HP8.out.box.cell 6
    go_wp2_with (at_builtin; refine happend rfl _ _ rfl w.heap.size _ (2 + o.path.size + 1 + o.to.size + 4 + 4 + 8 + 2) ([K, L1] ++ nb o.path ++ [L2] ++ nb o.to ++ le 4 H ++ le 4 N ++ le 8 F ++ le 2 M) rfl HP8.out.row A m c o.b rfl HM.out HP8.out.src.1 (by omega) HP8.out.bs ?_)
    intro v9 w9 ho hg
    have HO9 : Hid (w9.ownsRow w.heap.size 5 1 v9 (ob o).length ((ob o).map (Value.int .u8))) := Lib.hid (by
      have e1 : (ob o).length = 2 + o.path.size + 1 + o.to.size + 4 + 4 + 8 + 2 + m := by rw [HL.out]; omega
      rw [e1, HOb.out]
      simpa using ho)
    have HB9 : Hid (Below w.heap.size w w9) := Lib.hid (HB1.out.trans (HP8.out.og.trans hg |>.below HO1.out HB1.out.size))
    clear ho hg HP8 z6
    go_wp2
    go_ret
    exact ⟨v9, rfl, HO9.out, HB9.out⟩

end Go.Proofs.YtcpoicplhkkjnaaGreat
