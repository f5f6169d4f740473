/-
  Operations written: the program's calls put and Write. Nothing of one statement alone stands here.
-/
import Derived.Test.YthngpmiclbbpnaaGreatHistP
import Derived.Deep.Cut
namespace Go.Proofs.YthngpmiclbbpnaaGreat
open Go.RowKit Crcm Tagm Go.ChangeShapes

/-- what stands while an operation is put: its box, its bytes, the row so far -/
structure Pt (base : Nat) (v0 : Value) (w0 W : World) (p : Nat) (cs : Array Value) (A : Option Addr) (l : List Int) (v : Value) (n : Nat) (xs : List Int) : Prop where
  box : Blk W p 41 cs
  ne : v.ownBlock ≠ some p
  src : Sx W v A l
  row : W.ownsRow base 5 1 v n (xs.map (Value.int .u8))
  og : Og v0 v w0 W
  bs : base ≤ W.heap.size
theorem Pt.next {base : Nat} {v0 : Value} {w0 W W' : World} {p : Nat} {cs : Array Value} {A : Option Addr} {l : List Int} {v v' : Value} {n n' : Nat} {xs xs' : List Int} (h : Pt base v0 w0 W p cs A l v n xs) (hr : W'.ownsRow base 5 1 v' n' (xs'.map (Value.int .u8))) (ho : Og v v' W W') : Pt base v0 w0 W' p cs A l v' n' xs' :=
  ⟨h.box.og ho h.ne, ho.ne h.box.lt h.ne, h.src.og ho, hr, h.og.trans ho, Nat.le_trans h.bs ho.size⟩
theorem Pt.below {base : Nat} {v0 : Value} {w0 W W' : World} {p : Nat} {cs : Array Value} {A : Option Addr} {l : List Int} {v : Value} {n : Nat} {xs : List Int} (h : Pt base v0 w0 W p cs A l v n xs) (hb : Below W.heap.size W W') : Pt base v0 w0 W' p cs A l v n xs :=
  h.next (own_below h.row hb) (Og.of_below v hb)
theorem Sx.new {w : World} {v : Value} {base n sz : Nat} {e : TypeId} {xs : List Value} (ho : w.ownsRow base e sz v n xs) {w' : World} {g : Nat} {l : List Int} (hg : w.heap.size ≤ g) (h : Rw w' (some ⟨g, 0, none⟩) l) : Sx w' v (some ⟨g, 0, none⟩) l :=
  ⟨h, fun b off s e _ q => by
    injection e with e
    injection e with e1
    have := (ho.lt b q).2
    omega⟩

set_option maxRecDepth 100000 in
set_option maxHeartbeats 2000000 in
theorem hput_any (base : Nat) (v : Value) (n0 : Nat) (xs : List Int) (o : Ho) (A : Option Addr) (c m : Nat) (hm : o.b.length = m) (w : World) (hn0 : n0 + (ob o).length ≤ 800000) (hown : w.ownsRow base 5 1 v n0 (xs.map (Value.int .u8))) (hbase : base ≤ w.heap.size) (hr : Sx w v A o.b) :
    Calls Tryz.prog 16 #[v, .agg #[.int .i64 o.kind, .string o.path, .string o.to, .int .i64 o.handle, .int .i64 o.n, .int .i64 o.off, .slice A m c]] w fun e w' => ∃ v', e = .returned v' ∧ w'.ownsRow base 5 1 v' (n0 + (ob o).length) ((xs ++ ob o).map (Value.int .u8)) ∧ Og v v' w w' := by
  have hol := ob_len o
  rw [hm] at hol
  obtain ⟨K, hK⟩ : ∃ K, uw o.kind = K := ⟨_, rfl⟩
  obtain ⟨H, hH⟩ : ∃ H, uw o.handle = H := ⟨_, rfl⟩
  obtain ⟨N, hN⟩ : ∃ N, uw o.n = N := ⟨_, rfl⟩
  obtain ⟨F, hF⟩ : ∃ F, uw o.off = F := ⟨_, rfl⟩
  have uK : U64 K := hK ▸ uw_U64 _
  have uH : U64 H := hH ▸ uw_U64 _
  have uN : U64 N := hN ▸ uw_U64 _
  have uF : U64 F := hF ▸ uw_U64 _
  have HU := Lib.hid (And.intro uK (And.intro uH (And.intro uN uF)))
  have eK : IntKind.u64.wrap o.kind = K := hK
  have eH : IntKind.u64.wrap o.handle = H := hH
  have eN : IntKind.u64.wrap o.n = N := hN
  have eF : IntKind.u64.wrap o.off = F := hF
  have HOb : Hid (ob o = le 1 K ++ (le 1 (uw o.path.size) ++ nb o.path) ++ (le 1 (uw o.to.size) ++ nb o.to) ++ le 4 H ++ le 4 N ++ le 8 F ++ (le 2 (uw m) ++ o.b)) := Lib.hid (by rw [← hK, ← hH, ← hN, ← hF, ← hm]; rfl)
  have hz : o.path.size ≤ maxLen ∧ o.to.size ≤ maxLen := by unfold maxLen; omega
  have HSz := Lib.hid hz
  have p9 : o.path.size ≤ 9223372036854775807 := by omega
  have t9 : o.to.size ≤ 9223372036854775807 := by omega
  have hbl := (Below.refl w.heap.size w).alloc (Nat.le_refl _) (.cells #[.int .i64 o.kind, .string o.path, .string o.to, .int .i64 o.handle, .int .i64 o.n, .int .i64 o.off, .slice A m c] 41)
  have HP : Hid (Pt base v w (w.alloc (.cells #[.int .i64 o.kind, .string o.path, .string o.to, .int .i64 o.handle, .int .i64 o.n, .int .i64 o.off, .slice A m c] 41)) w.heap.size #[.int .i64 o.kind, .string o.path, .string o.to, .int .i64 o.handle, .int .i64 o.n, .int .i64 o.off, .slice A m c] A o.b v n0 xs) := Lib.hid
    ⟨Blk.new w 41 _, fun q => by have := (hown.lt _ q).2; omega, hr.og (Og.of_below v hbl), own_below hown hbl, Og.of_below v hbl, Nat.le_trans hbase hbl.size⟩
  have hcv := fun W s => Lib.run_convert_string_bytes (P := Tryz.prog) W 9 23 5 s Tryz.underlying9 Tryz.underlying23 Tryz.underlying5
  have HL := Lib.hid hol
  have HM := Lib.hid hm
  have b0 : n0 + (21 + o.path.size + o.to.size + m) ≤ 800000 := by omega
  clear hown hr hbl hol hK hH hN hF uK uH uN uF hz hm hn0
  go_enter Tryz.func16, Tryz.ntmps16
  go_upto_region 1 with (fail)
  generalize (w.alloc (.cells #[.int .i64 o.kind, .string o.path, .string o.to, .int .i64 o.handle, .int .i64 o.n, .int .i64 o.off, .slice A m c] 41)) = W at HP ⊢
  obtain ⟨p, hp⟩ : ∃ p, w.heap.size = p := ⟨_, rfl⟩
  rw [hp] at HP ⊢
  clear hp
  have q0 : W.cell? ⟨p, 0, none⟩ = some (.int .i64 o.kind) := HP.out.box.cell 0
  have H1 := Lib.hid (hnumber_any base v n0 xs K 1 W HU.out.1 (by omega) (by omega) HP.out.row HP.out.bs)
  go_wp2_with fail
  refine H1.out.mono ?_
  rintro e W1 ⟨v1, rfl, ho1, hg1⟩
  have HP1 := Lib.hid (HP.out.next ho1 hg1)
  clear ho1 hg1 H1 HP q0
  have q1 : W1.cell? ⟨p, 1, none⟩ = some (.string o.path) := HP1.out.box.cell 1
  obtain ⟨tb1, tr1⟩ := textW (w := W1) o.path HSz.out.1
  have H2 := Lib.hid (hcounted_any base v1 (n0 + 1) (xs ++ le 1 K) (some ⟨W1.heap.size, 0, none⟩) o.path.size (grownCap W1 o.path.size 0 5) (nb o.path) 1 _ (by omega) (by omega) (own_below HP1.out.row tb1) (Nat.le_trans HP1.out.bs tb1.size) (Sx.new HP1.out.row (Nat.le_refl _) tr1) (nb_length _))
  have HP1' := Lib.hid (HP1.out.below tb1)
  clear tb1 tr1
  go_wp2_with fail
  refine H2.out.mono ?_
  rintro e W2 ⟨v2, rfl, ho2, hg2⟩
  have HP2 := Lib.hid (HP1'.out.next ho2 hg2)
  clear ho2 hg2 H2 HP1' HP1 q1
  have q2 : W2.cell? ⟨p, 2, none⟩ = some (.string o.to) := HP2.out.box.cell 2
  obtain ⟨tb2, tr2⟩ := textW (w := W2) o.to HSz.out.2
  have H3 := Lib.hid (hcounted_any base v2 (n0 + 1 + 1 + o.path.size) (xs ++ le 1 K ++ (le 1 (uw o.path.size) ++ nb o.path)) (some ⟨W2.heap.size, 0, none⟩) o.to.size (grownCap W2 o.to.size 0 5) (nb o.to) 1 _ (by omega) (by omega) (own_below HP2.out.row tb2) (Nat.le_trans HP2.out.bs tb2.size) (Sx.new HP2.out.row (Nat.le_refl _) tr2) (nb_length _))
  have HP2' := Lib.hid (HP2.out.below tb2)
  clear tb2 tr2
  go_wp2_with fail
  refine H3.out.mono ?_
  rintro e W3 ⟨v3, rfl, ho3, hg3⟩
  have HP3 := Lib.hid (HP2'.out.next ho3 hg3)
  clear ho3 hg3 H3 HP2' HP2 q2
  have q3 : W3.cell? ⟨p, 3, none⟩ = some (.int .i64 o.handle) := HP3.out.box.cell 3
  have H4 := Lib.hid (hnumber_any base v3 _ _ H 4 W3 HU.out.2.1 (by omega) (by omega) HP3.out.row HP3.out.bs)
  go_wp2_with fail
  refine H4.out.mono ?_
  rintro e W4 ⟨v4, rfl, ho4, hg4⟩
  have HP4 := Lib.hid (HP3.out.next ho4 hg4)
  clear ho4 hg4 H4 HP3 q3
  have q4 : W4.cell? ⟨p, 4, none⟩ = some (.int .i64 o.n) := HP4.out.box.cell 4
  have H5 := Lib.hid (hnumber_any base v4 _ _ N 4 W4 HU.out.2.2.1 (by omega) (by omega) HP4.out.row HP4.out.bs)
  go_wp2_with fail
  refine H5.out.mono ?_
  rintro e W5 ⟨v5, rfl, ho5, hg5⟩
  have HP5 := Lib.hid (HP4.out.next ho5 hg5)
  clear ho5 hg5 H5 HP4 q4
  have q5 : W5.cell? ⟨p, 5, none⟩ = some (.int .i64 o.off) := HP5.out.box.cell 5
  have H6 := Lib.hid (hnumber_any base v5 _ _ F 8 W5 HU.out.2.2.2 (by omega) (by omega) HP5.out.row HP5.out.bs)
  go_wp2_with fail
  refine H6.out.mono ?_
  rintro e W6 ⟨v6, rfl, ho6, hg6⟩
  have HP6 := Lib.hid (HP5.out.next ho6 hg6)
  clear ho6 hg6 H6 HP5 q5
  have q6 : W6.cell? ⟨p, 6, none⟩ = some (.slice A m c) := HP6.out.box.cell 6
  have H7 := Lib.hid (hcounted_any base v6 _ _ A m c o.b 2 W6 (by omega) (by omega) HP6.out.row HP6.out.bs HP6.out.src HM.out)
  go_wp2_with fail
  refine H7.out.mono ?_
  rintro e W7 ⟨v7, rfl, ho7, hg7⟩
  have HP7 := Lib.hid (HP6.out.next ho7 hg7)
  clear ho7 hg7 H7 HP6 q6
  go_wp2
  go_ret
  refine ⟨_, rfl, ?_, HP7.out.og⟩
  have h := HP7.out.row
  rw [HOb.out, ← HOb.out, HL.out]
  have e1 : n0 + 1 + 1 + o.path.size + 1 + o.to.size + 4 + 4 + 8 + 2 + m = n0 + (21 + o.path.size + o.to.size + m) := by omega
  rw [e1] at h
  rw [HOb.out]
  simpa using h

end Go.Proofs.YthngpmiclbbpnaaGreat
