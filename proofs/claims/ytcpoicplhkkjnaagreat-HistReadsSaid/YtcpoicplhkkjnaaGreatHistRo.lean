/-
  Operations' bytes read, as the document tells it: an operation. Nothing of one statement alone stands here.
-/
import Derived.Test.YtcpoicplhkkjnaaGreatHistT
import Derived.Deep.RegionHeld3
namespace Go.Proofs.YtcpoicplhkkjnaaGreat
open Go.RowKit Crcm Tagm Go.ChangeShapes

theorem op_t1 {l : List Int} {i : Nat} (h : l.length ≤ i) : opB (l.drop i) = none := by
  rw [List.drop_eq_nil_of_le h]
  rfl
theorem op_head {l : List Int} {i : Nat} (h : i < l.length) : nmB 1 (l.drop i) = some (l.getD i 0, l.drop (i + 1)) := by
  unfold nmB
  rw [if_pos (by rw [List.length_drop]; omega), List.drop_drop, show (l.drop i).take 1 = [l[i]] by rw [List.drop_eq_getElem_cons h]; rfl]
  simp [nu, List.getD_eq_getElem?_getD, List.getElem?_eq_getElem h]
theorem op_t2 {l : List Int} {i : Nat} (h : i < l.length) (h2 : txB l (i + 1) 1 = none) : opB (l.drop i) = none := by
  unfold opB
  rw [op_head h, Option.bind_some]
  dsimp only
  rw [(txB_ct l (i + 1) 1 (by omega)).2 h2]
  rfl
theorem op_t3 {l p : List Int} {i j : Nat} (h : i < l.length) (h2 : txB l (i + 1) 1 = some (p, j)) (h3 : txB l j 1 = none) : opB (l.drop i) = none := by
  obtain ⟨g1, g2, g3⟩ := (txB_ct l (i + 1) 1 (by omega)).1 p j h2
  unfold opB
  rw [op_head h, Option.bind_some]
  dsimp only
  rw [g3, Option.bind_some]
  dsimp only
  rw [(txB_ct l j 1 g1).2 h3]
  rfl
theorem op_t4 {l p q : List Int} {i j k : Nat} (h : i < l.length) (h2 : txB l (i + 1) 1 = some (p, j)) (h3 : txB l j 1 = some (q, k)) :
    opB (l.drop i) = ((nmB 4 (l.drop k)).bind fun h => (nmB 4 h.2).bind fun n => (nmB 8 n.2).bind fun f => (ctB 2 f.2).bind fun b =>
    if Rg ⟨l.getD i 0, strOfNums p, strOfNums q, sgn h.1, sgn n.1, IntKind.i64.wrap f.1, b.1⟩ then some (⟨l.getD i 0, strOfNums p, strOfNums q, sgn h.1, sgn n.1, IntKind.i64.wrap f.1, b.1⟩, b.2) else none) := by
  obtain ⟨g1, g2, g3⟩ := (txB_ct l (i + 1) 1 (by omega)).1 p j h2
  obtain ⟨f1, f2, f3⟩ := (txB_ct l j 1 g1).1 q k h3
  conv => lhs; unfold opB
  rw [op_head h, Option.bind_some]
  dsimp only
  rw [g3, Option.bind_some]
  dsimp only
  rw [f3, Option.bind_some]
theorem nmB_drop {l : List Int} {k n : Nat} (h : k + n ≤ l.length) : nmB n (l.drop k) = some (nu ((l.drop k).take n), l.drop (k + n)) := by
  unfold nmB
  rw [if_pos (by rw [List.length_drop]; omega), List.drop_drop]
theorem nmB_drop_none {l : List Int} {k n : Nat} (h : ¬ k + n ≤ l.length) (hk : k ≤ l.length) : nmB n (l.drop k) = none := by
  unfold nmB
  rw [if_neg (by rw [List.length_drop]; omega)]
theorem op_t5 {l p q : List Int} {i j k : Nat} (h : i < l.length) (h2 : txB l (i + 1) 1 = some (p, j)) (h3 : txB l j 1 = some (q, k)) (h4 : ¬ k + 16 ≤ l.length) : opB (l.drop i) = none := by
  rw [op_t4 h h2 h3]
  have g1 := ((txB_ct l (i + 1) 1 (by omega)).1 p j h2).1
  have hk := ((txB_ct l j 1 g1).1 q k h3).1
  by_cases a1 : k + 4 ≤ l.length
  · rw [nmB_drop a1, Option.bind_some]
    dsimp only
    by_cases a2 : k + 4 + 4 ≤ l.length
    · rw [nmB_drop a2, Option.bind_some]
      dsimp only
      rw [nmB_drop_none (by omega) a2]
      rfl
    · rw [nmB_drop_none a2 a1]
      rfl
  · rw [nmB_drop_none a1 hk]
    rfl
theorem op_t6 {l p q : List Int} {i j k : Nat} (h : i < l.length) (h2 : txB l (i + 1) 1 = some (p, j)) (h3 : txB l j 1 = some (q, k)) (h4 : k + 16 ≤ l.length) :
    opB (l.drop i) = ((ctB 2 (l.drop (k + 16))).bind fun b => if Rg ⟨l.getD i 0, strOfNums p, strOfNums q, sgn (nu ((l.drop k).take 4)), sgn (nu ((l.drop (k + 4)).take 4)), IntKind.i64.wrap (nu ((l.drop (k + 8)).take 8)), b.1⟩ then some (⟨l.getD i 0, strOfNums p, strOfNums q, sgn (nu ((l.drop k).take 4)), sgn (nu ((l.drop (k + 4)).take 4)), IntKind.i64.wrap (nu ((l.drop (k + 8)).take 8)), b.1⟩, b.2) else none) := by
  rw [op_t4 h h2 h3, nmB_drop (by omega), Option.bind_some]
  dsimp only
  rw [nmB_drop (by omega), Option.bind_some]
  dsimp only
  rw [nmB_drop (by omega), Option.bind_some]

set_option maxRecDepth 100000 in
set_option maxHeartbeats 1000000 in
theorem signed_any (x : Int) (h0 : 0 ≤ x) (h1 : x < 4294967296) (w : World) : Calls Tryz.prog 53 #[.int .u64 x] w fun e w' => e = .returned (.int .i64 (sgn x)) ∧ w = w' := by
  have hs : sgn x = if 2147483647 < x then x - 4294967296 else x := by
    unfold sgn
    rw [IntKind.wrap_i32, w64]
    split <;> omega
  by_cases h : 2147483647 < x
  · rw [if_pos h] at hs
    rw [hs]
    have e1 : IntKind.i64.wrap x = x := IntWalk.i64_in _ (by omega)
    have e2 : IntKind.i64.wrap (x - 4294967296) = x - 4294967296 := IntWalk.i64_in _ (by omega)
    clear hs h0 h1
    go_enter Tryz.func53, Tryz.ntmps53
    go_wp2
    go_ret
    exact ⟨rfl, rfl⟩
  · rw [if_neg h] at hs
    rw [hs]
    have e1 : IntKind.i64.wrap x = x := IntWalk.i64_in _ (by omega)
    clear hs h0 h1
    go_enter Tryz.func53, Tryz.ntmps53
    go_wp2
    go_ret
    exact ⟨rfl, rfl⟩

theorem txB_small {l b : List Int} {i s j : Nat} (h : txB l i s = some (b, j)) (hu : ∀ x ∈ l, U8 x) (hs : s ≤ 2) : b.length ≤ 65536 ∧ ∀ x ∈ b, U8 x := by
  unfold txB at h
  by_cases h1 : i + s ≤ l.length
  · rw [if_pos h1] at h
    by_cases h2 : i + s + (nu ((l.drop i).take s)).toNat ≤ l.length
    · rw [if_pos h2] at h
      obtain ⟨rfl, rfl⟩ := Prod.mk.inj (Option.some.inj h)
      have := nu_small (l := l.drop i) (fun x hx => hu x (List.mem_of_mem_drop hx)) (n := s) hs
      exact ⟨by rw [List.length_take]; omega, fun x hx => hu x (List.mem_of_mem_drop (List.mem_of_mem_take hx))⟩
    · rw [if_neg h2] at h; cases h
  · rw [if_neg h1] at h; cases h
theorem fill7 {w W : World} {B Q : Nat} (h : Below B w W) (hQ : B ≤ Q) (v0 v1 v2 v3 v4 v5 v6 : Value) : Below B w (((((((W.setCell ⟨Q, 0, none⟩ v0).setCell ⟨Q, 1, none⟩ v1).setCell ⟨Q, 2, none⟩ v2).setCell ⟨Q, 3, none⟩ v3).setCell ⟨Q, 4, none⟩ v4).setCell ⟨Q, 5, none⟩ v5).setCell ⟨Q, 6, none⟩ v6) := by
  have h7 : ∀ (A : World) (k : Nat) (v : Value), Below B w A → Below B w (A.setCell ⟨Q, k, none⟩ v) := fun A k v hb => hb.setCell (p := ⟨Q, k, none⟩) hQ v
  exact h7 _ 6 v6 (h7 _ 5 v5 (h7 _ 4 v4 (h7 _ 3 v3 (h7 _ 2 v2 (h7 _ 1 v1 (h7 W 0 v0 h))))))
/-- what taking an operation comes to, as the document tells it -/
def RoP (w : World) (a : Option Addr) (l : List Int) (i : Nat) (e : Ending) (w' : World) : Prop :=
  (∀ o r, opB (l.drop i) = some (o, r) → ∃ A c j, e = .returned (.tuple #[.agg #[.int .i64 o.kind, .string o.path, .string o.to, .int .i64 o.handle, .int .i64 o.n, .int .i64 o.off, .slice A o.b.length c], .int .i64 j]) ∧ (0 : Int) ≤ j ∧ j.toNat ≤ l.length ∧ r = l.drop j.toNat ∧ o.b.length ≤ c ∧ Rw w' A o.b ∧ ∀ W, Rw W a l → Rw W A o.b) ∧
  (opB (l.drop i) = none → e = .returned (.tuple #[.agg #[.int .i64 0, .string ⟨#[]⟩, .string ⟨#[]⟩, .int .i64 0, .int .i64 0, .int .i64 0, .slice none 0 0], .int .i64 (-1)])) ∧ Below w.heap.size w w'
theorem RoP.no {w w' : World} {a : Option Addr} {l : List Int} {i : Nat} (h : opB (l.drop i) = none) (hk : Below w.heap.size w w') : RoP w a l i (.returned (.tuple #[.agg #[.int .i64 0, .string ⟨#[]⟩, .string ⟨#[]⟩, .int .i64 0, .int .i64 0, .int .i64 0, .slice none 0 0], .int .i64 (-1)])) w' := ⟨fun o r g => (by rw [h] at g; cases g), fun _ => rfl, hk⟩
theorem RoP.yes {w w' : World} {a : Option Addr} {l x : List Int} {i m k : Nat} {y S1 S2 S3 : Int} {PS QS : ByteArray} {A : Option Addr} {c : Nat} (h : opB (l.drop i) = some (⟨y, PS, QS, S1, S2, S3, x⟩, l.drop k)) (hm : x.length = m) (hc : m ≤ c) (hr : Rw w' A x) (hW : ∀ W, Rw W a l → Rw W A x) (hk : k ≤ l.length) (hb : Below w.heap.size w w') :
    RoP w a l i (.returned (.tuple #[.agg #[.int .i64 y, .string PS, .string QS, .int .i64 S1, .int .i64 S2, .int .i64 S3, .slice A m c], .int .i64 k])) w' := by
  subst hm
  refine ⟨fun o r g => ?_, fun g => (by rw [h] at g; cases g), hb⟩
  obtain ⟨rfl, rfl⟩ := Prod.mk.inj (Option.some.inj (h.symm.trans g))
  exact ⟨A, c, k, rfl, by omega, by omega, by rw [Int.toNat_natCast], hc, hr, hW⟩
theorem zero_not_u8 (j : Nat) (v : Int) : (#[.int .i64 0, .string ⟨#[]⟩, .string ⟨#[]⟩, .int .i64 0, .int .i64 0, .int .i64 0, .slice none 0 0] : Array Value)[j]? ≠ some (.int .u8 v) := by
  intro h
  have hj : j = 0 ∨ j = 1 ∨ j = 2 ∨ j = 3 ∨ j = 4 ∨ j = 5 ∨ j = 6 ∨ 7 ≤ j := by omega
  rcases hj with rfl | rfl | rfl | rfl | rfl | rfl | rfl | hj
  · cases h
  · cases h
  · cases h
  · cases h
  · cases h
  · cases h
  · cases h
  · rw [Array.getElem?_eq_none (by simpa using hj)] at h; cases h
theorem Rw.fill7 {W : World} {G : Nat} {a : Option Addr} {l : List Int} (h : Rw W a l) (hB : Blk W G 48 #[.int .i64 0, .string ⟨#[]⟩, .string ⟨#[]⟩, .int .i64 0, .int .i64 0, .int .i64 0, .slice none 0 0]) (v0 v1 v2 v3 v4 v5 v6 : Value) : Rw (((((((W.setCell ⟨G, 0, none⟩ v0).setCell ⟨G, 1, none⟩ v1).setCell ⟨G, 2, none⟩ v2).setCell ⟨G, 3, none⟩ v3).setCell ⟨G, 4, none⟩ v4).setCell ⟨G, 5, none⟩ v5).setCell ⟨G, 6, none⟩ v6) a l := by
  refine ⟨h.1, h.2.1, ?_⟩
  rcases h.2.2 with h0 | ⟨b, off, e, h3⟩
  · exact .inl h0
  · refine .inr ⟨b, off, e, fun i hi => ?_⟩
    have hne : b ≠ G := fun g => by
      have h9 := h3 i hi
      rw [g, hB.cell] at h9
      exact zero_not_u8 _ _ h9
    have hn : ∀ (k : Nat), (⟨G, k, none⟩ : Addr) ≠ ⟨b, off + i, none⟩ := fun k g => by injection g with g1; exact hne g1.symm
    rw [World.cell?_setCell_other _ _ _ _ (hn _), World.cell?_setCell_other _ _ _ _ (hn _), World.cell?_setCell_other _ _ _ _ (hn _), World.cell?_setCell_other _ _ _ _ (hn _), World.cell?_setCell_other _ _ _ _ (hn _), World.cell?_setCell_other _ _ _ _ (hn _), World.cell?_setCell_other _ _ _ _ (hn _)]
    exact h3 i hi

set_option maxRecDepth 100000 in
set_option maxHeartbeats 16000000 in
theorem rop_any (a : Option Addr) (n c : Nat) (l : List Int) (i : Nat) (w : World) (hr : Rw w a l) (hl : l.length = n) (hc : n ≤ c) (hn : n ≤ 9000000) (hi : i ≤ 9000000) :
    Calls Tryz.prog 33 #[.slice a n c, .int .i64 i] w (RoP w a l i) := by
  have hb0 : Below w.heap.size w (w.alloc (.cells #[.int .i64 0, .string ⟨#[]⟩, .string ⟨#[]⟩, .int .i64 0, .int .i64 0, .int .i64 0, .slice none 0 0] 48)) := (Below.refl _ _).alloc (Nat.le_refl _) _
  have HB0 := Lib.hid hb0
  by_cases h1 : i < n
  case neg =>
    have t1 : (n : Int) ≤ (i : Int) := by omega
    have HNo := Lib.hid (op_t1 (l := l) (i := i) (by omega))
    clear hr hl hc hn hi h1 hb0
    go_enter Tryz.func33, Tryz.ntmps33
    go_wp2_with fail
    exact bodyPost_ret (v := .tuple #[.agg #[.int .i64 0, .string ⟨#[]⟩, .string ⟨#[]⟩, .int .i64 0, .int .i64 0, .int .i64 0, .slice none 0 0], .int .i64 (-1)]) (by simp [results, Tryz.results33, go_sem]) rfl (RoP.no HNo.out HB0.out)
  have t1 : ¬ (n : Int) ≤ (i : Int) := by omega
  obtain ⟨i1, hi1⟩ : ∃ z, i + 1 = z := ⟨_, rfl⟩
  have e1 : IntKind.i64.wrap ((i : Int) + 1) = (i1 : Int) := (IntWalk.i64_in _ (by omega)).trans (by omega)
  have HT1 := Lib.hid (rtext_any a n c l i1 1 (w.alloc (.cells #[.int .i64 0, .string ⟨#[]⟩, .string ⟨#[]⟩, .int .i64 0, .int .i64 0, .int .i64 0, .slice none 0 0] 48)) (hr.below hb0) hl hc hn (by omega) (by omega))
  have HA2 := Lib.hid (op_t2 (l := l) (i := i) (by omega))
  have hil : i < l.length := by omega
  have HA3 := Lib.hid (fun p j => op_t3 (p := p) (j := j) hil)
  have HA5 := Lib.hid (fun p q j k => op_t5 (p := p) (q := q) (j := j) (k := k) hil)
  have HA6 := Lib.hid (fun p q j k => op_t6 (p := p) (q := q) (j := j) (k := k) hil)
  have HY1 := Lib.hid (txB_ct l (i + 1) 1 (by omega)).1
  rw [hi1] at HA2 HA3 HA5 HA6 HY1
  cases hp : txB l i1 1 with
  | none =>
    have HNo := Lib.hid (HA2.out hp)
    have HTn := Lib.hid (rtext_neg a n c 1 (w.alloc (.cells #[.int .i64 0, .string ⟨#[]⟩, .string ⟨#[]⟩, .int .i64 0, .int .i64 0, .int .i64 0, .slice none 0 0] 48)))
    have HT1' := Lib.hid (HT1.out.mono (R' := fun e w' => e = .returned (.tuple #[.slice none 0 0, .int .i64 (-1)]) ∧ (w.alloc (.cells #[.int .i64 0, .string ⟨#[]⟩, .string ⟨#[]⟩, .int .i64 0, .int .i64 0, .int .i64 0, .slice none 0 0] 48)) = w') (fun e w' g => ⟨g.2.1 hp, g.2.2⟩))
    clear hr hl hc hn hi h1 hb0 hi1 hil HT1 HA2 HA3 HA5 HA6 HY1 hp
    go_enter Tryz.func33, Tryz.ntmps33
    go_wp2_with fail
    refine HT1'.out.mono ?_
    rintro e w1 ⟨rfl, rfl⟩
    go_wp2_with fail
    refine HTn.out.mono ?_
    rintro e w1 ⟨rfl, rfl⟩
    go_wp2_with fail
    exact bodyPost_ret (v := .tuple #[.agg #[.int .i64 0, .string ⟨#[]⟩, .string ⟨#[]⟩, .int .i64 0, .int .i64 0, .int .i64 0, .slice none 0 0], .int .i64 (-1)]) (by simp [results, Tryz.results33, go_sem]) rfl (RoP.no HNo.out HB0.out)
  | some y =>
  obtain ⟨p, j⟩ := y
  obtain ⟨hj1, hj2, -⟩ := HY1.out p j hp
  have HT1' := Lib.hid (HT1.out.mono (R' := fun e w' => (∃ A c, e = .returned (.tuple #[.slice A p.length c, .int .i64 j]) ∧ Rw (w.alloc (.cells #[.int .i64 0, .string ⟨#[]⟩, .string ⟨#[]⟩, .int .i64 0, .int .i64 0, .int .i64 0, .slice none 0 0] 48)) A p) ∧ (w.alloc (.cells #[.int .i64 0, .string ⟨#[]⟩, .string ⟨#[]⟩, .int .i64 0, .int .i64 0, .int .i64 0, .slice none 0 0] 48)) = w') (fun e w' g => ⟨(let ⟨A, c, h1, _, h3⟩ := g.1 p j hp; ⟨A, c, h1, h3.1⟩), g.2.2⟩))
  have HT2 := Lib.hid (rtext_any a n c l j 1 (w.alloc (.cells #[.int .i64 0, .string ⟨#[]⟩, .string ⟨#[]⟩, .int .i64 0, .int .i64 0, .int .i64 0, .slice none 0 0] 48)) (hr.below hb0) hl hc hn (by omega) (by omega))
  have HY2 := Lib.hid (txB_ct l j 1 hj1).1
  have tj : ¬ (j : Int) < 0 := by omega
  cases hq : txB l j 1 with
  | none =>
    have HNo := Lib.hid (HA3.out p j hp hq)
    have HT2' := Lib.hid (HT2.out.mono (R' := fun e w' => e = .returned (.tuple #[.slice none 0 0, .int .i64 (-1)]) ∧ (w.alloc (.cells #[.int .i64 0, .string ⟨#[]⟩, .string ⟨#[]⟩, .int .i64 0, .int .i64 0, .int .i64 0, .slice none 0 0] 48)) = w') (fun e w' g => ⟨g.2.1 hq, g.2.2⟩))
    clear hr hl hc hn hi h1 hb0 hi1 hil HT1 HA2 HA3 HA5 HA6 HY1 hp hj1 hj2 HT2 HY2 hq
    go_enter Tryz.func33, Tryz.ntmps33
    go_wp2_with fail
    refine HT1'.out.mono ?_
    rintro e w1 ⟨⟨ap, cp, rfl, -⟩, rfl⟩
    go_wp2_with fail
    refine HT2'.out.mono ?_
    rintro e w1 ⟨rfl, rfl⟩
    go_wp2_with fail
    exact bodyPost_ret (v := .tuple #[.agg #[.int .i64 0, .string ⟨#[]⟩, .string ⟨#[]⟩, .int .i64 0, .int .i64 0, .int .i64 0, .slice none 0 0], .int .i64 (-1)]) (by simp [results, Tryz.results33, go_sem]) rfl (RoP.no HNo.out HB0.out)
  | some y =>
  obtain ⟨q, k⟩ := y
  obtain ⟨hk1, hk2, -⟩ := HY2.out q k hq
  have HT2' := Lib.hid (HT2.out.mono (R' := fun e w' => (∃ A c, e = .returned (.tuple #[.slice A q.length c, .int .i64 k]) ∧ Rw (w.alloc (.cells #[.int .i64 0, .string ⟨#[]⟩, .string ⟨#[]⟩, .int .i64 0, .int .i64 0, .int .i64 0, .slice none 0 0] 48)) A q) ∧ (w.alloc (.cells #[.int .i64 0, .string ⟨#[]⟩, .string ⟨#[]⟩, .int .i64 0, .int .i64 0, .int .i64 0, .slice none 0 0] 48)) = w') (fun e w' g => ⟨(let ⟨A, c, h1, _, h3⟩ := g.1 q k hq; ⟨A, c, h1, h3.1⟩), g.2.2⟩))
  have tk : ¬ (k : Int) < 0 := by omega
  obtain ⟨k16, hk16⟩ : ∃ z, k + 16 = z := ⟨_, rfl⟩
  have e16 : IntKind.i64.wrap ((k : Int) + 16) = (k16 : Int) := (IntWalk.i64_in _ (by omega)).trans (by omega)
  by_cases h16 : k16 ≤ n
  case neg =>
    have t16 : (n : Int) < (k16 : Int) := by omega
    have HNo := Lib.hid (HA5.out p q j k hp hq (by omega))
    clear hr hl hc hn hi h1 hb0 hi1 hil HT1 HA2 HA3 HA5 HA6 HY1 hp hj1 hj2 HT2 HY2 hq hk1 hk2 hk16 h16
    go_enter Tryz.func33, Tryz.ntmps33
    go_wp2_with fail
    refine HT1'.out.mono ?_
    rintro e w1 ⟨⟨ap, cp, rfl, -⟩, rfl⟩
    go_wp2_with fail
    refine HT2'.out.mono ?_
    rintro e w1 ⟨⟨aq, cq, rfl, -⟩, rfl⟩
    go_wp2_with fail
    exact bodyPost_ret (v := .tuple #[.agg #[.int .i64 0, .string ⟨#[]⟩, .string ⟨#[]⟩, .int .i64 0, .int .i64 0, .int .i64 0, .slice none 0 0], .int .i64 (-1)]) (by simp [results, Tryz.results33, go_sem]) rfl (RoP.no HNo.out HB0.out)
  have t16 : ¬ (n : Int) < (k16 : Int) := by omega
  obtain ⟨k4, hk4⟩ : ∃ z, k + 4 = z := ⟨_, rfl⟩
  obtain ⟨k8, hk8⟩ : ∃ z, k + 8 = z := ⟨_, rfl⟩
  have e4 : IntKind.i64.wrap ((k : Int) + 4) = (k4 : Int) := (IntWalk.i64_in _ (by omega)).trans (by omega)
  have e8 : IntKind.i64.wrap ((k : Int) + 8) = (k8 : Int) := (IntWalk.i64_in _ (by omega)).trans (by omega)
  have s1 := midH a n c k k4 (by omega) (by omega)
  have s2 := midH a n c k4 k8 (by omega) (by omega)
  have s3 := midH a n c k8 k16 (by omega) (by omega)
  rw [show k4 - k = 4 by omega] at s1
  rw [show k8 - k4 = 4 by omega] at s2
  rw [show k16 - k8 = 8 by omega] at s3
  have HN1 := Lib.hid (fun (W : World) (hb : Below w.heap.size w W) => num_any (mv a c k) (c - k) ((l.drop k).take 4) W ((hr.below hb).mv k c (by omega) |>.take 4) (by rw [List.length_take]; omega))
  have HN2 := Lib.hid (fun (W : World) (hb : Below w.heap.size w W) => num_any (mv a c k4) (c - k4) ((l.drop k4).take 4) W ((hr.below hb).mv k4 c (by omega) |>.take 4) (by rw [List.length_take]; omega))
  have HN3 := Lib.hid (fun (W : World) (hb : Below w.heap.size w W) => num_any (mv a c k8) (c - k8) ((l.drop k8).take 8) W ((hr.below hb).mv k8 c (by omega) |>.take 8) (by rw [List.length_take]; omega))
  rw [show ((l.drop k).take 4).length = 4 by rw [List.length_take, List.length_drop]; omega] at HN1
  rw [show ((l.drop k4).take 4).length = 4 by rw [List.length_take, List.length_drop]; omega] at HN2
  rw [show ((l.drop k8).take 8).length = 8 by rw [List.length_take, List.length_drop]; omega] at HN3
  have b1 := nu_bd ((l.drop k).take 4) (fun x hx => hr.1 x (List.mem_of_mem_drop (List.mem_of_mem_take hx)))
  have b2 := nu_bd ((l.drop k4).take 4) (fun x hx => hr.1 x (List.mem_of_mem_drop (List.mem_of_mem_take hx)))
  have b3 := nu_bd ((l.drop k8).take 8) (fun x hx => hr.1 x (List.mem_of_mem_drop (List.mem_of_mem_take hx)))
  rw [show ((l.drop k).take 4).length = 4 by rw [List.length_take, List.length_drop]; omega] at b1
  rw [show ((l.drop k4).take 4).length = 4 by rw [List.length_take, List.length_drop]; omega] at b2
  rw [show ((l.drop k8).take 8).length = 8 by rw [List.length_take, List.length_drop]; omega] at b3
  have hA6 := HA6.out p q j k hp hq (by omega)
  rw [hk4, hk8, hk16] at hA6
  obtain ⟨X1, hX1⟩ : ∃ z, nu ((l.drop k).take 4) = z := ⟨_, rfl⟩
  obtain ⟨X2, hX2⟩ : ∃ z, nu ((l.drop k4).take 4) = z := ⟨_, rfl⟩
  obtain ⟨X3, hX3⟩ : ∃ z, nu ((l.drop k8).take 8) = z := ⟨_, rfl⟩
  rw [hX1] at HN1 b1 hA6
  rw [hX2] at HN2 b2 hA6
  rw [hX3] at HN3 b3 hA6
  have HS1 := Lib.hid (fun W => signed_any X1 b1.1 (by have := b1.2; simpa using this) W)
  have HS2 := Lib.hid (fun W => signed_any X2 b2.1 (by have := b2.2; simpa using this) W)
  obtain ⟨S1, hS1⟩ : ∃ z, sgn X1 = z := ⟨_, rfl⟩
  obtain ⟨S2, hS2⟩ : ∃ z, sgn X2 = z := ⟨_, rfl⟩
  obtain ⟨S3, hS3⟩ : ∃ z, IntKind.i64.wrap X3 = z := ⟨_, rfl⟩
  rw [hS1] at HS1 hA6
  rw [hS2] at HS2 hA6
  rw [hS3] at hA6
  obtain ⟨y, hy⟩ : ∃ z, l.getD i 0 = z := ⟨_, rfl⟩
  have hy8 : U8 y := by rw [← hy, List.getD_eq_getElem?_getD, List.getElem?_eq_getElem hil]; exact hr.1 _ (List.getElem_mem hil)
  rw [hy] at hA6
  have eY : IntKind.i64.wrap y = y := IntWalk.i64_in _ (by unfold U8 at hy8; omega)
  have HA := Lib.hid hA6
  obtain ⟨b, off, hab, hcell⟩ : ∃ b off, a = some ⟨b, off, none⟩ ∧ w.cell? ⟨b, off + i, none⟩ = some (.int .u8 y) := by
    rcases hr.2.2 with h0 | ⟨b, off, e, h3⟩
    · rw [h0] at hil; simp at hil
    · exact ⟨b, off, e, by rw [← hy]; exact h3 i hil⟩
  have i0 : (0 : Int) ≤ (i : Int) := by omega
  have iN : (i : Int) < (n : Int) := by omega
  have HT3 := Lib.hid (fun (W : World) (hb : Below w.heap.size w W) => rtext_any a n c l k16 2 W (hr.below hb) hl hc hn (by omega) (by omega))
  have HY3 := Lib.hid (txB_ct l k16 2 (by omega))
  have HU := Lib.hid hr.1
  have HPs : Hid (p.length ≤ 100000 ∧ q.length ≤ 100000 ∧ (∀ x ∈ p, U8 x) ∧ ∀ x ∈ q, U8 x) := Lib.hid (by
    have q1 := txB_small (s := 1) hp hr.1 (by omega)
    have q2 := txB_small (s := 1) hq hr.1 (by omega)
    exact ⟨by omega, by omega, q1.2, q2.2⟩)
  generalize mv a c k = m1 at s1 HN1
  generalize mv a c k4 = m2 at s2 HN2
  generalize mv a c k8 = m3 at s3 HN3
  generalize c - k = c1 at s1 HN1
  have HN1 := Lib.hid (fun (W : World) (A : Option Addr) (C N : Nat) (h : A = m1 ∧ C = c1 ∧ N = 4) (hb : Below w.heap.size w W) => (show Calls Tryz.prog 32 #[.slice A N C] W (fun e w' => e = .returned (.int .u64 X1) ∧ W = w') from by obtain ⟨rfl, rfl, rfl⟩ := h; exact HN1.out W hb))
  generalize c - k4 = c2 at s2 HN2
  have HN2 := Lib.hid (fun (W : World) (A : Option Addr) (C N : Nat) (h : A = m2 ∧ C = c2 ∧ N = 4) (hb : Below w.heap.size w W) => (show Calls Tryz.prog 32 #[.slice A N C] W (fun e w' => e = .returned (.int .u64 X2) ∧ W = w') from by obtain ⟨rfl, rfl, rfl⟩ := h; exact HN2.out W hb))
  generalize c - k8 = c3 at s3 HN3
  have HN3 := Lib.hid (fun (W : World) (A : Option Addr) (C N : Nat) (h : A = m3 ∧ C = c3 ∧ N = 8) (hb : Below w.heap.size w W) => (show Calls Tryz.prog 32 #[.slice A N C] W (fun e w' => e = .returned (.int .u64 X3) ∧ W = w') from by obtain ⟨rfl, rfl, rfl⟩ := h; exact HN3.out W hb))
  have HS1 := Lib.hid (fun (W : World) (x : Int) (h : x = X1) => (show Calls Tryz.prog 53 #[.int .u64 x] W (fun e w' => e = .returned (.int .i64 S1) ∧ W = w') from by subst h; exact HS1.out W))
  have HS2 := Lib.hid (fun (W : World) (x : Int) (h : x = X2) => (show Calls Tryz.prog 53 #[.int .u64 x] W (fun e w' => e = .returned (.int .i64 S2) ∧ W = w') from by subst h; exact HS2.out W))
  subst hab
  obtain ⟨np, hnp⟩ : ∃ z, p.length = z := ⟨_, rfl⟩
  obtain ⟨nq, hnq⟩ : ∃ z, q.length = z := ⟨_, rfl⟩
  rw [hnp] at HT1'
  rw [hnq] at HT2'
  clear hr hl hc hn hi h1 hi1 hil HT1 HA2 HA3 HA5 HA6 HY1 hp hj1 hj2 HT2 HY2 hq hk1 hk2 hk16 h16 hk4 hk8 b1 b2 b3 hA6 hX1 hX2 hX3 hS1 hS2 hy hy8
  go_enter Tryz.func33, Tryz.ntmps33
  go_wp2_with fail
  refine HT1'.out.mono ?_
  rintro e w1 ⟨⟨ap, cp, rfl, hrp⟩, rfl⟩
  go_wp2_with fail
  refine HT2'.out.mono ?_
  rintro e w1 ⟨⟨aq, cq, rfl, hrq⟩, rfl⟩
  obtain ⟨PS, hPS⟩ : ∃ z, strOfNums p = z := ⟨_, rfl⟩
  obtain ⟨QS, hQS⟩ : ∃ z, strOfNums q = z := ⟨_, rfl⟩
  have hsz0 : (w.alloc (.cells #[.int .i64 0, .string ⟨#[]⟩, .string ⟨#[]⟩, .int .i64 0, .int .i64 0, .int .i64 0, .slice none 0 0] 48)).heap.size = w.heap.size + 1 := by simp
  have HSS := Lib.hid (fun (w' : World) (hb : Below (w.heap.size + 1) (w.alloc (.cells #[.int .i64 0, .string ⟨#[]⟩, .string ⟨#[]⟩, .int .i64 0, .int .i64 0, .int .i64 0, .slice none 0 0] 48)) w') => (show w'.cell? ⟨b, off + i, none⟩ = some (.int .u8 y) ∧ (convert 25 9 (.slice ap np cp)).run Tryz.prog w' = .ok (.string PS) w' ∧ (convert 25 9 (.slice aq nq cq)).run Tryz.prog w' = .ok (.string QS) w' ∧ Below w.heap.size w w' ∧ Below (w.heap.size + 1) (w.alloc (.cells #[.int .i64 0, .string ⟨#[]⟩, .string ⟨#[]⟩, .int .i64 0, .int .i64 0, .int .i64 0, .slice none 0 0] 48)) w' from
    have hb1 : Below w.heap.size w w' := HB0.out.trans (hb.mono (Nat.le_succ _))
    ⟨(hb1.cell (block_lt_of_cell hcell)).trans hcell, by rw [← hPS]; exact (hrp.below (by rw [hsz0]; exact hb)).text np cp hnp, by rw [← hQS]; exact (hrq.below (by rw [hsz0]; exact hb)).text nq cq hnq, hb1, hb⟩))
  have hS0 := HSS.out _ (Below.refl _ _)
  have HP := Lib.hid hPS
  have HQ := Lib.hid hQS
  clear hrp hrq hPS hQS hcell hb0 HT1' HT2' hsz0
  go_upto_region 7 with (fail)
  go_region_held3 (fun w' => w'.cell? ⟨b, off + i, none⟩ = some (.int .u8 y) ∧ (convert 25 9 (.slice ap np cp)).run Tryz.prog w' = .ok (.string PS) w' ∧ (convert 25 9 (.slice aq nq cq)).run Tryz.prog w' = .ok (.string QS) w' ∧ Below w.heap.size w w' ∧ Below (w.heap.size + 1) (w.alloc (.cells #[.int .i64 0, .string ⟨#[]⟩, .string ⟨#[]⟩, .int .i64 0, .int .i64 0, .int .i64 0, .slice none 0 0] 48)) w')
    ((first | exact hS0 | (refine HSS.out _ ?_; go_split_ands; first | assumption | exact Below.drew (by assumption) | exact (Below.refl _ _).alloc (by simp) _ | exact ((Below.refl _ _).alloc (by simp) _).drew)))
    (first
      | (go_at_call 32; refine (HN1.out _ _ _ _ ?_ ?_).mono ?_; exact ⟨rfl, rfl, rfl⟩; (go_split_ands; assumption); rintro e w4 ⟨rfl, rfl⟩)
      | (go_at_call 32; refine (HN2.out _ _ _ _ ?_ ?_).mono ?_; exact ⟨rfl, rfl, rfl⟩; (go_split_ands; assumption); rintro e w4 ⟨rfl, rfl⟩)
      | (go_at_call 32; refine (HN3.out _ _ _ _ ?_ ?_).mono ?_; exact ⟨rfl, rfl, rfl⟩; (go_split_ands; assumption); rintro e w4 ⟨rfl, rfl⟩)
      | (go_at_call 53; refine (HS1.out _ _ ?_).mono ?_; exact rfl; rintro e w4 ⟨rfl, rfl⟩)
      | (go_at_call 53; refine (HS2.out _ _ ?_).mono ?_; exact rfl; rintro e w4 ⟨rfl, rfl⟩))
  all_goals
    have hb7 : Below w.heap.size w (((w.alloc (.cells #[.int .i64 0, .string ⟨#[]⟩, .string ⟨#[]⟩, .int .i64 0, .int .i64 0, .int .i64 0, .slice none 0 0] 48)).alloc (.cells #[.int .i64 y, .string PS, .string QS, .int .i64 S1, .int .i64 S2, .int .i64 S3, .slice none 0 0] 48)).drew) := (HB0.out.alloc (by simp) _).drew
    have hB4 : Blk (((w.alloc (.cells #[.int .i64 0, .string ⟨#[]⟩, .string ⟨#[]⟩, .int .i64 0, .int .i64 0, .int .i64 0, .slice none 0 0] 48)).alloc (.cells #[.int .i64 y, .string PS, .string QS, .int .i64 S1, .int .i64 S2, .int .i64 S3, .slice none 0 0] 48)).drew) w.heap.size 48 #[.int .i64 0, .string ⟨#[]⟩, .string ⟨#[]⟩, .int .i64 0, .int .i64 0, .int .i64 0, .slice none 0 0] := (show Blk ((w.alloc (.cells #[.int .i64 0, .string ⟨#[]⟩, .string ⟨#[]⟩, .int .i64 0, .int .i64 0, .int .i64 0, .slice none 0 0] 48)).alloc (.cells #[.int .i64 y, .string PS, .string QS, .int .i64 S1, .int .i64 S2, .int .i64 S3, .slice none 0 0] 48)) w.heap.size 48 #[.int .i64 0, .string ⟨#[]⟩, .string ⟨#[]⟩, .int .i64 0, .int .i64 0, .int .i64 0, .slice none 0 0] from (Blk.new w 48 #[.int .i64 0, .string ⟨#[]⟩, .string ⟨#[]⟩, .int .i64 0, .int .i64 0, .int .i64 0, .slice none 0 0]).alloc _)
    have hB10 : Blk (((w.alloc (.cells #[.int .i64 0, .string ⟨#[]⟩, .string ⟨#[]⟩, .int .i64 0, .int .i64 0, .int .i64 0, .slice none 0 0] 48)).alloc (.cells #[.int .i64 y, .string PS, .string QS, .int .i64 S1, .int .i64 S2, .int .i64 S3, .slice none 0 0] 48)).drew) (w.heap.size + 1) 48 #[.int .i64 y, .string PS, .string QS, .int .i64 S1, .int .i64 S2, .int .i64 S3, .slice none 0 0] := (show Blk ((w.alloc (.cells #[.int .i64 0, .string ⟨#[]⟩, .string ⟨#[]⟩, .int .i64 0, .int .i64 0, .int .i64 0, .slice none 0 0] 48)).alloc (.cells #[.int .i64 y, .string PS, .string QS, .int .i64 S1, .int .i64 S2, .int .i64 S3, .slice none 0 0] 48)) (w.heap.size + 1) 48 #[.int .i64 y, .string PS, .string QS, .int .i64 S1, .int .i64 S2, .int .i64 S3, .slice none 0 0] from by have := Blk.new (w.alloc (.cells #[.int .i64 0, .string ⟨#[]⟩, .string ⟨#[]⟩, .int .i64 0, .int .i64 0, .int .i64 0, .slice none 0 0] 48)) 48 #[.int .i64 y, .string PS, .string QS, .int .i64 S1, .int .i64 S2, .int .i64 S3, .slice none 0 0]; simpa using this)
    clear hS0 HSS HN1 HN2 HN3 HS1 HS2
    generalize ((w.alloc (.cells #[.int .i64 0, .string ⟨#[]⟩, .string ⟨#[]⟩, .int .i64 0, .int .i64 0, .int .i64 0, .slice none 0 0] 48)).alloc (.cells #[.int .i64 y, .string PS, .string QS, .int .i64 S1, .int .i64 S2, .int .i64 S3, .slice none 0 0] 48)).drew = W7 at hb7 hB4 hB10 ⊢
    obtain ⟨G, hG⟩ : ∃ G, w.heap.size = G := ⟨_, rfl⟩
    rw [hG] at hB4 hB10 ⊢
    obtain ⟨H, hH⟩ : ∃ H, G + 1 = H := ⟨_, rfl⟩
    rw [hH] at hB10 ⊢
    have hA := HA.out
    rw [HP.out, HQ.out] at hA
    have HMx : Hid (PS.size ≤ maxLen ∧ QS.size ≤ maxLen) := Lib.hid (by
      obtain ⟨g1, g2, g3, g4⟩ := HPs.out
      rw [← HP.out, ← HQ.out, ← nb_length, ← nb_length, nb_strOf g3, nb_strOf g4]
      unfold maxLen
      omega)
    have HT3b := Lib.hid (HT3.out W7 hb7)
    have z6 := hB10.cell 6
    have f6 := hB10.frozen 6
    simp only [List.getElem?_toArray, List.getElem?_cons_succ, List.getElem?_cons_zero] at z6
    cases hx : txB l k16 2 with
    | none =>
        have HNo : Hid (opB (l.drop i) = none) := Lib.hid (by rw [hA, HY3.out.2 hx]; rfl)
        have HT3' := Lib.hid (HT3b.out.mono (R' := fun e w' => e = .returned (.tuple #[.slice none 0 0, .int .i64 (-1)]) ∧ W7 = w') (fun e w' g => ⟨g.2.1 hx, g.2.2⟩))
        have hb8 : Below w.heap.size w (W7.setCell ⟨H, 6, none⟩ (.slice none 0 0)) := hb7.setCell (p := ⟨H, 6, none⟩) (by show w.heap.size ≤ H; omega) _
        have hB8 : Blk (W7.setCell ⟨H, 6, none⟩ (.slice none 0 0)) G 48 #[.int .i64 0, .string ⟨#[]⟩, .string ⟨#[]⟩, .int .i64 0, .int .i64 0, .int .i64 0, .slice none 0 0] := hB4.far (p := ⟨H, 6, none⟩) (by show G ≠ H; omega) _
        clear hA HT3 HT3b hb7 hB4 hB10
        go_wp2_with fail
        refine HT3'.out.mono ?_
        rintro e w7 ⟨rfl, rfl⟩
        go_upto_region 10 with (fail)
        generalize (W7.setCell ⟨H, 6, none⟩ (.slice none 0 0)) = W8 at hb8 hB8 ⊢
        clear z6 f6
        have y0 := hB8.cell 0
        have yf0 := hB8.frozen 0
        have y1 := hB8.cell 1
        have yf1 := hB8.frozen 1
        have y2 := hB8.cell 2
        have yf2 := hB8.frozen 2
        have y3 := hB8.cell 3
        have yf3 := hB8.frozen 3
        have y4 := hB8.cell 4
        have yf4 := hB8.frozen 4
        have y5 := hB8.cell 5
        have yf5 := hB8.frozen 5
        have y6 := hB8.cell 6
        have yf6 := hB8.frozen 6
        simp only [List.getElem?_toArray, List.getElem?_cons_succ, List.getElem?_cons_zero] at y0 y1 y2 y3 y4 y5 y6
        have hF := fill7 hb8 (show w.heap.size ≤ G by omega) (.int .i64 0) (.string ⟨#[]⟩) (.string ⟨#[]⟩) (.int .i64 0) (.int .i64 0) (.int .i64 0) (.slice none 0 0)
        go_wp2_with fail
        exact bodyPost_ret (v := .tuple #[.agg #[.int .i64 0, .string ⟨#[]⟩, .string ⟨#[]⟩, .int .i64 0, .int .i64 0, .int .i64 0, .slice none 0 0], .int .i64 (-1)]) (by simp [results, Tryz.results33, go_sem, y0, y1, y2, y3, y4, y5, y6]) rfl (RoP.no HNo.out hF)
    | some x =>
        obtain ⟨x, k2⟩ := x
        obtain ⟨-, -, hct⟩ := HY3.out.1 x k2 hx
        have hk2 := (HY3.out.1 x k2 hx).1
        have hA2 : opB (l.drop i) = if Rg ⟨y, PS, QS, S1, S2, S3, x⟩ then some (⟨y, PS, QS, S1, S2, S3, x⟩, l.drop k2) else none := by rw [hA, hct]; rfl
        have HA2 := Lib.hid hA2
        have HXs := Lib.hid (txB_small (s := 2) hx HU.out (Nat.le_refl _))
        have HK2 := Lib.hid hk2
        obtain ⟨m, hm⟩ : ∃ m, x.length = m := ⟨_, rfl⟩
        have HM := Lib.hid hm
        have HT3' := Lib.hid (HT3b.out.mono (R' := fun e w' => (∃ A c, e = .returned (.tuple #[.slice A m c, .int .i64 k2]) ∧ m ≤ c ∧ Rw W7 A x ∧ ∀ W, Rw W (some ⟨b, off, none⟩) l → Rw W A x) ∧ W7 = w') (fun e w' g => ⟨(let ⟨A, c, h1, h2, h3⟩ := g.1 x k2 hx; ⟨A, c, by rw [← hm]; exact h1, by rw [← hm]; exact h2, h3⟩), g.2.2⟩))
        have tk2 : ¬ (k2 : Int) < 0 := by omega
        clear hA hA2 hct hk2 hm HT3 HT3b hx
        go_wp2_with fail
        refine HT3'.out.mono ?_
        rintro e w7 ⟨⟨ax, cx, rfl, hmc, hrx, hrW⟩, rfl⟩
        have hb8 : Below w.heap.size w (W7.setCell ⟨H, 6, none⟩ (.slice ax m cx)) := hb7.setCell (p := ⟨H, 6, none⟩) (by show w.heap.size ≤ H; omega) _
        have hB8 : Blk (W7.setCell ⟨H, 6, none⟩ (.slice ax m cx)) G 48 #[.int .i64 0, .string ⟨#[]⟩, .string ⟨#[]⟩, .int .i64 0, .int .i64 0, .int .i64 0, .slice none 0 0] := hB4.far (p := ⟨H, 6, none⟩) (by show G ≠ H; omega) _
        have hC8 : Blk (W7.setCell ⟨H, 6, none⟩ (.slice ax m cx)) H 48 #[.int .i64 y, .string PS, .string QS, .int .i64 S1, .int .i64 S2, .int .i64 S3, .slice ax m cx] := hB10.put 6 (.slice ax m cx)
        have HMC := Lib.hid hmc
        have HrW := Lib.hid hrW
        clear hrW
        have hx8 : Rw (W7.setCell ⟨H, 6, none⟩ (.slice ax m cx)) ax x := by
          refine ⟨hrx.1, hrx.2.1, ?_⟩
          rcases hrx.2.2 with h | ⟨b', off', e, h3⟩
          · exact .inl h
          · exact .inr ⟨b', off', e, fun i hi => (World.cell?_setCell_other _ _ _ _ (by intro g; have h9 := h3 i hi; rw [← g, z6] at h9; cases h9)).trans (h3 i hi)⟩
        go_upto_region 10 with (fail)
        generalize (W7.setCell ⟨H, 6, none⟩ (.slice ax m cx)) = W8 at hb8 hB8 hC8 hx8 ⊢
        clear z6 f6 hb7 hB4 hB10 hrx hmc
        have HRi := Lib.hid (rright_any ⟨y, PS, QS, S1, S2, S3, x⟩ ax cx m HM.out ⟨HMx.out.1, HMx.out.2, by have := HXs.out.1; have := HM.out; unfold maxLen; omega⟩ W8)
        dsimp only at HRi
        have z0 := hC8.cell 0
        have z1 := hC8.cell 1
        have z2 := hC8.cell 2
        have z3 := hC8.cell 3
        have z4 := hC8.cell 4
        have z5 := hC8.cell 5
        have z6 := hC8.cell 6
        simp only [List.getElem?_toArray, List.getElem?_cons_succ, List.getElem?_cons_zero] at z0 z1 z2 z3 z4 z5 z6
        go_wp2_with fail
        refine HRi.out.mono ?_
        rintro e W9 ⟨rfl, hb9⟩
        have hB9 := hB8.below hb9 hB8.lt
        have hC9 := hC8.below hb9 hC8.lt
        have hx9 := hx8.below hb9
        have hbb9 : Below w.heap.size w W9 := hb8.trans (hb9.mono hb8.size)
        clear z0 z1 z2 z3 z4 z5 z6
        by_cases hg : Rg ⟨y, PS, QS, S1, S2, S3, x⟩
        case neg =>
          have HNo : Hid (opB (l.drop i) = none) := Lib.hid (by rw [HA2.out, if_neg hg])
          rw [decide_eq_false hg]
          clear hg
          have y0 := hB9.cell 0
          have yf0 := hB9.frozen 0
          have y1 := hB9.cell 1
          have yf1 := hB9.frozen 1
          have y2 := hB9.cell 2
          have yf2 := hB9.frozen 2
          have y3 := hB9.cell 3
          have yf3 := hB9.frozen 3
          have y4 := hB9.cell 4
          have yf4 := hB9.frozen 4
          have y5 := hB9.cell 5
          have yf5 := hB9.frozen 5
          have y6 := hB9.cell 6
          have yf6 := hB9.frozen 6
          simp only [List.getElem?_toArray, List.getElem?_cons_succ, List.getElem?_cons_zero] at y0 y1 y2 y3 y4 y5 y6
          have hF := fill7 hbb9 (show w.heap.size ≤ G by omega) (.int .i64 0) (.string ⟨#[]⟩) (.string ⟨#[]⟩) (.int .i64 0) (.int .i64 0) (.int .i64 0) (.slice none 0 0)
          go_wp2_with fail
          exact bodyPost_ret (v := .tuple #[.agg #[.int .i64 0, .string ⟨#[]⟩, .string ⟨#[]⟩, .int .i64 0, .int .i64 0, .int .i64 0, .slice none 0 0], .int .i64 (-1)]) (by simp [results, Tryz.results33, go_sem, y0, y1, y2, y3, y4, y5, y6]) rfl (RoP.no HNo.out hF)
        have HYe : Hid (opB (l.drop i) = some (⟨y, PS, QS, S1, S2, S3, x⟩, l.drop k2)) := Lib.hid (by rw [HA2.out, if_pos hg])
        rw [decide_eq_true hg]
        clear hg HA2
        have y0 := hB9.cell 0
        have yf0 := hB9.frozen 0
        have y1 := hB9.cell 1
        have yf1 := hB9.frozen 1
        have y2 := hB9.cell 2
        have yf2 := hB9.frozen 2
        have y3 := hB9.cell 3
        have yf3 := hB9.frozen 3
        have y4 := hB9.cell 4
        have yf4 := hB9.frozen 4
        have y5 := hB9.cell 5
        have yf5 := hB9.frozen 5
        have y6 := hB9.cell 6
        have yf6 := hB9.frozen 6
        simp only [List.getElem?_toArray, List.getElem?_cons_succ, List.getElem?_cons_zero] at y0 y1 y2 y3 y4 y5 y6
        have z0 := hC9.cell 0
        have z1 := hC9.cell 1
        have z2 := hC9.cell 2
        have z3 := hC9.cell 3
        have z4 := hC9.cell 4
        have z5 := hC9.cell 5
        have z6 := hC9.cell 6
        simp only [List.getElem?_toArray, List.getElem?_cons_succ, List.getElem?_cons_zero] at z0 z1 z2 z3 z4 z5 z6
        have hF := fill7 hbb9 (show w.heap.size ≤ G by omega) (.int .i64 y) (.string PS) (.string QS) (.int .i64 S1) (.int .i64 S2) (.int .i64 S3) (.slice ax m cx)
        have hX := hx9.fill7 hB9 (.int .i64 y) (.string PS) (.string QS) (.int .i64 S1) (.int .i64 S2) (.int .i64 S3) (.slice ax m cx)
        go_wp2_with fail
        exact bodyPost_ret (v := .tuple #[.agg #[.int .i64 y, .string PS, .string QS, .int .i64 S1, .int .i64 S2, .int .i64 S3, .slice ax m cx], .int .i64 k2]) (by simp [results, Tryz.results33, go_sem, y0, y1, y2, y3, y4, y5, y6]) rfl (RoP.yes HYe.out HM.out HMC.out hX HrW.out HK2.out hF)

end Go.Proofs.YtcpoicplhkkjnaaGreat
