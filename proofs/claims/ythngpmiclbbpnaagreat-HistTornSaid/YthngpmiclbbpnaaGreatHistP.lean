/-
  Operations written: the program's calls. Nothing of one statement alone stands here.
-/
import Derived.Test.YthngpmiclbbpnaaGreatHistM
namespace Go.Proofs.YthngpmiclbbpnaaGreat
open Go.RowKit Crcm Tagm Go.ChangeShapes

/-- nothing has turned but the block of the row v, which is now v' -/
structure Og (v v' : Value) (w w' : World) : Prop where
  os : w'.os = w.os
  tape : w'.tape = w.tape
  output : w'.output = w.output
  size : w.heap.size ≤ w'.heap.size
  block : ∀ k, k < w.heap.size → v.ownBlock ≠ some k → w'.heap[k]? = w.heap[k]?
  own : v'.ownBlock = v.ownBlock ∨ ∃ g, v'.ownBlock = some g ∧ w.heap.size ≤ g
theorem Og.refl (v : Value) (w : World) : Og v v w w := ⟨rfl, rfl, rfl, Nat.le_refl _, fun _ _ _ => rfl, .inl rfl⟩
theorem Og.ne {v v' : Value} {w w' : World} (h : Og v v' w w') {k : Nat} (hk : k < w.heap.size) (hv : v.ownBlock ≠ some k) : v'.ownBlock ≠ some k := by
  rcases h.own with e | ⟨g, e, hg⟩
  · rw [e]; exact hv
  · rw [e]; intro q; injection q with q; omega
theorem Og.trans {v v1 v2 : Value} {w w1 w2 : World} (h : Og v v1 w w1) (k : Og v1 v2 w1 w2) : Og v v2 w w2 := by
  refine ⟨k.os.trans h.os, k.tape.trans h.tape, k.output.trans h.output, Nat.le_trans h.size k.size, fun i hi hv => (k.block i (Nat.lt_of_lt_of_le hi h.size) (h.ne hi hv)).trans (h.block i hi hv), ?_⟩
  rcases k.own with e | ⟨g, e, hg⟩
  · rw [e]; exact h.own
  · exact .inr ⟨g, e, Nat.le_trans h.size hg⟩
theorem Og.of_below (v : Value) {w w' : World} (h : Below w.heap.size w w') : Og v v w w' := ⟨h.os, h.tape, h.output, h.size, fun k hk _ => h.block k hk, .inl rfl⟩
theorem Og.of_grown {v v' : Value} {w w' : World} (h : w.grownBy w' v.ownBlock) (hl : v'.ownBlock = v.ownBlock ∨ v'.ownBlock = some w.heap.size) : Og v v' w w' :=
  ⟨h.os, h.tape, h.output, h.size, fun k hk hv => h.block k hk (fun e => hv e.symm), hl.imp id fun e => ⟨_, e, Nat.le_refl _⟩⟩
theorem Og.below {v v' : Value} {w w' : World} (h : Og v v' w w') {base n sz : Nat} {e : TypeId} {xs : List Value} (ho : w.ownsRow base e sz v n xs) (hb : base ≤ w.heap.size) : Below base w w' :=
  ⟨h.os, h.tape, h.output, h.size, fun k hk => h.block k (Nat.lt_of_lt_of_le hk hb) (fun q => by have := (ho.lt k q).1; omega)⟩
/-- bytes that do not lie in the row v -/
def Sx (w : World) (v : Value) (A : Option Addr) (l : List Int) : Prop := Rw w A l ∧ ∀ b off s, A = some ⟨b, off, s⟩ → l ≠ [] → v.ownBlock ≠ some b
theorem Sx.og {w w' : World} {v v' : Value} {A : Option Addr} {l : List Int} (h : Sx w v A l) (ho : Og v v' w w') : Sx w' v' A l := by
  obtain ⟨⟨h1, h2, h3⟩, h4⟩ := h
  rcases h3 with rfl | ⟨b, off, rfl, h3⟩
  · exact ⟨Rw.nil, fun _ _ _ _ g => absurd rfl g⟩
  · by_cases h0 : l = []
    · subst h0; exact ⟨Rw.nil, fun _ _ _ _ g => absurd rfl g⟩
    have hp : 0 < l.length := by
      cases l with
      | nil => exact absurd rfl h0
      | cons x r => simp
    have hb : b < w.heap.size := block_lt_of_cell (h3 0 hp)
    have hv := h4 b off none rfl h0
    refine ⟨⟨h1, h2, .inr ⟨b, off, rfl, fun i hi => ?_⟩⟩, fun b' off' s e _ => ?_⟩
    · rw [World.cell?_of_block (w := w) (a := ⟨b, off + i, none⟩) (ho.block b hb hv)]
      exact h3 i hi
    · injection e with e
      injection e with e1
      subst e1
      exact ho.ne hb hv
theorem Sx.of_old {w : World} {v : Value} {base n sz : Nat} {e : TypeId} {xs : List Value} (ho : w.ownsRow base e sz v n xs) {w0 : World} {A : Option Addr} {l : List Int} (h0 : Rw w0 A l) (hb0 : w0.heap.size ≤ base) (h : Rw w A l) : Sx w v A l := by
  refine ⟨h, fun b off s e hl q => ?_⟩
  have h1 := (ho.lt b q).1
  rcases h0.2.2 with h3 | ⟨b', off', e', h3⟩
  · exact hl h3
  · rw [e'] at e
    injection e with e
    injection e with e1
    subst e1
    have hp : 0 < l.length := by
      cases l with
      | nil => exact absurd rfl hl
      | cons x r => simp
    have h2 : b' < w0.heap.size := block_lt_of_cell (h3 0 hp)
    omega
theorem Blk.og {w w' : World} {v v' : Value} {g : Nat} {t : TypeId} {cs : Array Value} (h : Blk w g t cs) (ho : Og v v' w w') (hv : v.ownBlock ≠ some g) : Blk w' g t cs := (ho.block g h.lt hv).trans h

set_option maxRecDepth 100000 in
/-- append of bytes onto a row of the call's own: the source nil, empty or not; and where the row then lies -/
theorem happend {w : World} {ops : Array Oper} {rest : List Oper} {o : Oper} {a : Act} {Q : Exit → Act → World → Prop} (hgd : o.guard = none) (s x : Operand)
    (ho : o.op = .call { callee := .builtin .append, args := #[s, x], argTypes := #[23, 23] })
    (base : Nat) (v : Value) (n : Nat) (xs : List Int) (hs : a.eval s = v) (hown : w.ownsRow base 5 1 v n (xs.map (Value.int .u8)))
    (A : Option Addr) (m c : Nat) (l : List Int) (hx : a.eval x = .slice A m c) (hl : l.length = m) (hr : Rw w A l) (h63 : n + m ≤ 1000000) (hbase : base ≤ w.heap.size)
    (h : ∀ v' w', w'.ownsRow base 5 1 v' (n + m) ((xs ++ l).map (Value.int .u8)) → Og v v' w w' → wpList Tryz.prog ops Q rest (a.put o.dst v') w') : wpList Tryz.prog ops Q (o :: rest) a w := by
  obtain ⟨i0, hi, hz0, hz1, hz2⟩ := info_parts Tryz.info8
  rcases hr.src with ⟨rfl, rfl⟩ | ⟨ad, rfl, hc⟩
  · simp at hl
    subst hl
    exact wpList_plain hgd fun _ hK => wp_append_nothing s x 23 ho base 5 i0 1 Tryz.underlying23 hi v n _ hs hown c hx (hK _ _ (h v w (by simpa using hown) (Og.refl v w)))
  · refine wpList_append_own_at w hgd s x 23 ho base 5 i0 (.int .u8 0) 1 1 Tryz.underlying23 hi hz0 hz1 hz2 rfl (by decide) v n _ hs hown ad m c (l.map (Value.int .u8)) hx (by simp [hl]) ?_ ?_ (by unfold maxLen; omega) (by omega) hbase ?_
    · intro j u hu
      rw [List.getElem?_map] at hu
      by_cases hj : j < l.length
      · rw [hc j hj]
        simpa [hj] using hu
      · simp [List.getElem?_eq_none (by omega : l.length ≤ j)] at hu
    · intro u hu; obtain ⟨n, -, rfl⟩ := List.mem_map.1 hu; rfl
    · intro v' w' h1 h2 _ h4
      rw [← List.map_append] at h1
      exact h v' w' h1 (Og.of_grown h2 h4)

set_option maxRecDepth 100000 in
set_option maxHeartbeats 400000 in
theorem hnumber_any (base : Nat) (v : Value) (n0 : Nat) (xs : List Int) (x : Int) (n : Nat) (w : World) (hx : U64 x) (hn : n ≤ 8) (hn0 : n0 ≤ 900000) (hown : w.ownsRow base 5 1 v n0 (xs.map (Value.int .u8))) (hbase : base ≤ w.heap.size) :
    Calls Tryz.prog 14 #[v, .int .u64 x, .int .i64 n] w fun e w' => ∃ v', e = .returned v' ∧ w'.ownsRow base 5 1 v' (n0 + n) ((xs ++ le n x).map (Value.int .u8)) ∧ Og v v' w w' := by
  obtain ⟨i0, hi, hz0, hz1, hz2⟩ := info_parts Tryz.info8
  have H0 := Lib.hid hown
  obtain ⟨v0, hv0⟩ : ∃ v0, v = v0 := ⟨_, rfl⟩
  have HV := Lib.hid hv0
  clear hown hv0
  go_enter Tryz.func14, Tryz.ntmps14
  go_wp2_with fail
  go_loopw [0, 1, 8] (fun v x' i wr => ∃ k : Nat, ∃ m : Int, k ≤ n ∧ U64 m ∧ i = .int .i64 k ∧ x' = .int .u64 m ∧ Hid (m = x / 256 ^ k) ∧ Hid (wr.ownsRow base 5 1 v (n0 + k) ((xs ++ le k x).map (Value.int .u8))) ∧ Hid (Og v0 v w wr)) (fun _ _ i _ => n - (intOf i).toNat)
  case atStart => exact ⟨0, x, by omega, hx, rfl, rfl, Lib.hid (by simp), Lib.hid (by simpa [le] using H0.out), Lib.hid (by rw [HV.out]; exact Og.refl _ _)⟩
  case round =>
    obtain ⟨k, m, hk, hm, rfl, rfl, hv, hO, hG⟩ := hrel
    by_cases hlt : k < n
    · have hm0 := hm.1
      have hs := hG.out.size
      have hown := hO.out
      clear hO
      go_wp2_with (at_builtin; refine wpList_append_own_at _ rfl _ _ 23 rfl base 5 i0 (.int .u8 0) 1 1 Tryz.underlying23 hi hz0 hz1 hz2 rfl (by decide) _ _ _ rfl (hown.alloc _) ⟨wr.heap.size, 0, none⟩ 1 1 [.int .u8 (m % 256)] rfl rfl ?c1 ?c2 ?c3 ?c4 ?c5 ?_)
      case c1 => exact cell_one_new _ _ _
      case c2 => intro u hu; simp at hu; subst hu; rfl
      case c3 => unfold maxLen; omega
      case c4 => omega
      case c5 => simp; omega
      intro v' w1 hown1 hgrow _ hl
      have hG1 : Og v0 v' w w1 := hG.out.trans ((Og.of_below _ ((Below.refl _ _).alloc (Nat.le_refl _) _)).trans (Og.of_grown hgrow (by rw [World.size_alloc]; exact hl)))
      have HG1 := Lib.hid hG1
      have hH := Lib.hid hown1
      clear hown1 hgrow hown hl hG1
      go_wp2
      go_roundw
      case rel =>
        have hown1 := hH.out
        refine ⟨k + 1, m / 256, by omega, hm.div, by go_num, rfl, Lib.hid (div_next x k m hv.out), Lib.hid ?_, HG1⟩
        have e : (xs ++ le (k + 1) x).map (Value.int .u8) = (xs ++ le k x).map (Value.int .u8) ++ [Value.int .u8 (m % 256)] := by
          rw [le_take x k m hv.out, ← List.append_assoc, List.map_append]; rfl
        rw [e, ← Nat.add_assoc]
        simpa using hown1
      case measure => simp [intOf]; omega
    · have hkn : k = n := by omega
      subst hkn
      go_wp2
      go_ret
      exact ⟨_, rfl, hO.out, by rw [HV.out]; exact hG.out⟩

set_option maxRecDepth 100000 in
set_option maxHeartbeats 400000 in
theorem hcounted_any (base : Nat) (v : Value) (n0 : Nat) (xs : List Int) (A : Option Addr) (m c : Nat) (l : List Int) (n : Nat) (w : World) (hn : n ≤ 8) (hn0 : n0 + m ≤ 900000) (hown : w.ownsRow base 5 1 v n0 (xs.map (Value.int .u8))) (hbase : base ≤ w.heap.size) (hr : Sx w v A l) (hl : l.length = m) :
    Calls Tryz.prog 31 #[v, .slice A m c, .int .i64 n] w fun e w' => ∃ v', e = .returned v' ∧ w'.ownsRow base 5 1 v' (n0 + n + m) ((xs ++ (le n (uw m) ++ l)).map (Value.int .u8)) ∧ Og v v' w w' := by
  have hx := uw_U64 (m : Int)
  have hX : IntKind.u64.wrap (m : Int) = uw m := rfl
  generalize uw (m : Int) = X at hx hX ⊢
  have HN := Lib.hid (hnumber_any base v n0 xs X n w hx hn (by omega) hown hbase)
  have HS := Lib.hid hr
  have HL := Lib.hid hl
  clear hown hr hl hx
  go_enter Tryz.func31, Tryz.ntmps31
  go_wp2_with fail
  refine HN.out.mono ?_
  rintro e w1 ⟨v1, rfl, ho1, hg1⟩
  have HO1 := Lib.hid ho1
  have HG1 := Lib.hid hg1
  have HS1 := Lib.hid (HS.out.og hg1)
  clear ho1 hg1 HN
  go_wp2_with (at_builtin; refine happend rfl _ _ rfl base _ (n0 + n) (xs ++ le n X) rfl HO1.out A m c l rfl HL.out HS1.out.1 (by omega) (Nat.le_trans hbase HG1.out.size) ?_)
  intro v' w2 ho2 hg2
  have HO2 : Hid (w2.ownsRow base 5 1 v' (n0 + n + m) ((xs ++ (le n X ++ l)).map (Value.int .u8))) := Lib.hid (by simpa using ho2)
  have HG2 := Lib.hid (HG1.out.trans hg2)
  clear ho2 hg2
  go_wp2
  go_ret
  exact ⟨_, rfl, HO2.out, HG2.out⟩

set_option maxRecDepth 100000 in
theorem hwithin_any (x : Int) (w : World) : Calls Tryz.prog 30 #[.int .i64 x] w fun e w' => e = .returned (.bool (decide (-2147483648 ≤ x ∧ x ≤ 2147483647))) ∧ w = w' := by
  by_cases h1 : -2147483648 ≤ x
  · by_cases h2 : x ≤ 2147483647
    · have t1 : decide (-2147483648 ≤ x) = true := decide_eq_true h1
      have t2 : decide (x ≤ 2147483647) = true := decide_eq_true h2
      have HD := Lib.hid (show decide (-2147483648 ≤ x ∧ x ≤ 2147483647) = true from decide_eq_true ⟨h1, h2⟩)
      clear h1 h2
      go_enter Tryz.func30, Tryz.ntmps30
      go_wp2
      go_ret
      exact ⟨by rw [HD.out]; rfl, rfl⟩
    · have t1 : decide (-2147483648 ≤ x) = true := decide_eq_true h1
      have t2 : decide (x ≤ 2147483647) = false := decide_eq_false h2
      have HD := Lib.hid (show decide (-2147483648 ≤ x ∧ x ≤ 2147483647) = false from decide_eq_false (fun g => h2 g.2))
      clear h1 h2
      go_enter Tryz.func30, Tryz.ntmps30
      go_wp2
      go_ret
      exact ⟨by rw [HD.out]; rfl, rfl⟩
  · have t1 : decide (-2147483648 ≤ x) = false := decide_eq_false h1
    have HD := Lib.hid (show decide (-2147483648 ≤ x ∧ x ≤ 2147483647) = false from decide_eq_false (fun g => h1 g.1))
    clear h1
    go_enter Tryz.func30, Tryz.ntmps30
    go_wp2
    go_ret
    exact ⟨by rw [HD.out]; rfl, rfl⟩

set_option maxRecDepth 100000 in
set_option maxHeartbeats 1000000 in
theorem hright_any (o : Ho) (A : Option Addr) (c m : Nat) (hm : o.b.length = m) (h1 : o.path.size ≤ maxLen ∧ o.to.size ≤ maxLen ∧ m ≤ maxLen) (w : World) :
    Calls Tryz.prog 15 #[.agg #[.int .i64 o.kind, .string o.path, .string o.to, .int .i64 o.handle, .int .i64 o.n, .int .i64 o.off, .slice A m c]] w fun e w' => e = .returned (.bool (decide (Rg o))) ∧ Below w.heap.size w w' := by
  obtain ⟨h1, h2, h3⟩ := h1
  unfold maxLen at h1 h2 h3
  have HB := Lib.hid ((Below.refl w.heap.size w).alloc (Nat.le_refl _) (.cells #[.int .i64 o.kind, .string o.path, .string o.to, .int .i64 o.handle, .int .i64 o.n, .int .i64 o.off, .slice A m c] 41))
  have HM := Lib.hid hm
  have HW1 := Lib.hid (fun W => hwithin_any o.handle W)
  have HW2 := Lib.hid (fun W => hwithin_any o.n W)
  by_cases q0 : o.kind < 1
  · have t0 : decide (o.kind < 1) = true := decide_eq_true (by omega)
    have HD := Lib.hid (show decide (Rg o) = false from decide_eq_false (fun g => by unfold Rg at g; rw [hm] at g; omega))
    clear hm h1 h2 h3 q0
    go_enter Tryz.func15, Tryz.ntmps15
    go_wp2
    go_ret
    exact ⟨by rw [HD.out]; rfl, HB.out⟩
  have t0 : decide (o.kind < 1) = false := decide_eq_false (by omega)
  by_cases q1 : 14 < o.kind
  · have t1 : decide (14 < o.kind) = true := decide_eq_true (by omega)
    have HD := Lib.hid (show decide (Rg o) = false from decide_eq_false (fun g => by unfold Rg at g; rw [hm] at g; omega))
    clear hm h1 h2 h3 q0 q1
    go_enter Tryz.func15, Tryz.ntmps15
    go_wp2
    go_ret
    exact ⟨by rw [HD.out]; rfl, HB.out⟩
  have t1 : decide (14 < o.kind) = false := decide_eq_false (by omega)
  by_cases q2 : 255 < o.path.size
  · have t2 : decide ((255 : Int) < (o.path.size : Int)) = true := decide_eq_true (by omega)
    have HD := Lib.hid (show decide (Rg o) = false from decide_eq_false (fun g => by unfold Rg at g; rw [hm] at g; omega))
    clear hm h1 h2 h3 q0 q1 q2
    go_enter Tryz.func15, Tryz.ntmps15
    go_wp2
    go_ret
    exact ⟨by rw [HD.out]; rfl, HB.out⟩
  have t2 : decide ((255 : Int) < (o.path.size : Int)) = false := decide_eq_false (by omega)
  by_cases q3 : 255 < o.to.size
  · have t3 : decide ((255 : Int) < (o.to.size : Int)) = true := decide_eq_true (by omega)
    have HD := Lib.hid (show decide (Rg o) = false from decide_eq_false (fun g => by unfold Rg at g; rw [hm] at g; omega))
    clear hm h1 h2 h3 q0 q1 q2 q3
    go_enter Tryz.func15, Tryz.ntmps15
    go_wp2
    go_ret
    exact ⟨by rw [HD.out]; rfl, HB.out⟩
  have t3 : decide ((255 : Int) < (o.to.size : Int)) = false := decide_eq_false (by omega)
  by_cases q4 : 1024 < m
  · have t4 : decide ((1024 : Int) < (m : Int)) = true := decide_eq_true (by omega)
    have HD := Lib.hid (show decide (Rg o) = false from decide_eq_false (fun g => by unfold Rg at g; rw [hm] at g; omega))
    clear hm h1 h2 h3 q0 q1 q2 q3 q4
    go_enter Tryz.func15, Tryz.ntmps15
    go_wp2
    go_ret
    exact ⟨by rw [HD.out]; rfl, HB.out⟩
  have t4 : decide ((1024 : Int) < (m : Int)) = false := decide_eq_false (by omega)
  by_cases r0 : ¬ (-2147483648 ≤ o.handle ∧ o.handle ≤ 2147483647)
  · have HD := Lib.hid (show decide (Rg o) = false from decide_eq_false (fun g => by unfold Rg at g; omega))
    have hw1 : decide (-2147483648 ≤ o.handle ∧ o.handle ≤ 2147483647) = false := decide_eq_false (by omega)
    rw [hw1] at HW1
    clear hm h1 h2 h3 q0 q1 q2 q3 q4 r0 hw1
    go_enter Tryz.func15, Tryz.ntmps15
    go_wp2_with fail
    refine (HW1.out _).mono ?_
    rintro e w9 ⟨rfl, rfl⟩
    go_wp2
    go_ret
    exact ⟨by rw [HD.out]; rfl, HB.out⟩
  by_cases r1 : ¬ (-2147483648 ≤ o.n ∧ o.n ≤ 2147483647)
  · have HD := Lib.hid (show decide (Rg o) = false from decide_eq_false (fun g => by unfold Rg at g; omega))
    have hw1 : decide (-2147483648 ≤ o.handle ∧ o.handle ≤ 2147483647) = true := decide_eq_true (by omega)
    rw [hw1] at HW1
    have hw2 : decide (-2147483648 ≤ o.n ∧ o.n ≤ 2147483647) = false := decide_eq_false (by omega)
    rw [hw2] at HW2
    clear hm h1 h2 h3 q0 q1 q2 q3 q4 r0 r1 hw1 hw2
    go_enter Tryz.func15, Tryz.ntmps15
    go_wp2_with fail
    refine (HW1.out _).mono ?_
    rintro e w9 ⟨rfl, rfl⟩
    go_wp2_with fail
    refine (HW2.out _).mono ?_
    rintro e w9 ⟨rfl, rfl⟩
    go_wp2
    go_ret
    exact ⟨by rw [HD.out]; rfl, HB.out⟩
  have HD := Lib.hid (show decide (Rg o) = true from decide_eq_true (by unfold Rg; rw [hm]; omega))
  have hw1 : decide (-2147483648 ≤ o.handle ∧ o.handle ≤ 2147483647) = true := decide_eq_true (by omega)
  rw [hw1] at HW1
  have hw2 : decide (-2147483648 ≤ o.n ∧ o.n ≤ 2147483647) = true := decide_eq_true (by omega)
  rw [hw2] at HW2
  clear hm h1 h2 h3 q0 q1 q2 q3 q4 r0 r1 hw1 hw2
  go_enter Tryz.func15, Tryz.ntmps15
  go_wp2_with fail
  refine (HW1.out _).mono ?_
  rintro e w9 ⟨rfl, rfl⟩
  go_wp2_with fail
  refine (HW2.out _).mono ?_
  rintro e w9 ⟨rfl, rfl⟩
  go_wp2
  go_ret
  exact ⟨by rw [HD.out]; rfl, HB.out⟩

end Go.Proofs.YthngpmiclbbpnaaGreat
