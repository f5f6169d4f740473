/-
  What the document's call Read answers.
-/
import Derived.Test.YtofdmfkncgaelaaTagRead
import Derived.StillTailTactics
import Derived.Deep.RegionHeld3
import Derived.Deep.DeepCutAuto
import Derived.Lib.SlBytesRow
namespace Go.Proofs.Ytofdmfkncgaelaa
open Go.RowKit Crcm Tagm Go.ChangeShapes

theorem refread_arg (a : Option Addr) (len cap : Nat) (w : World) (h : ¬ Sz ((len : Int) - 32)) (hl : len ≤ maxLen) :
    Calls Try.prog 69 #[.slice a len cap] w fun r w' => r = .returned (Bad 1) ∧ Below w.heap.size w w' := by
  unfold maxLen at hl
  have HS := Lib.hid (fun w => refsized_no _ w h)
  clear h
  go_enter Try.func69, Try.ntmps69
  go_wp2_with fail
  refine (HS.out _).mono ?_
  rintro r w1 ⟨rfl, rfl⟩
  go_wp2
  exact bodyPost_ret (v := Bad 1) (by simp [Bad, tg, results, Try.results69, go_sem]) rfl ⟨rfl, (Below.refl _ _).alloc (Nat.le_refl _) _⟩

theorem num_len {a : Option Addr} {cap m : Nat} {l : List Int} {w : World} {v : Int} (hr : Rw w a l) (h8 : l.length ≤ 8) (hl : l.length = m) (hv : nu l = v) :
    Calls Try.prog 76 #[.slice a m cap] w fun e w' => e = .returned (.int .u64 v) ∧ w' = w := by
  subst hl
  subst hv
  exact (num_any a cap l w hr h8).mono fun _ _ h => ⟨h.1, h.2.symm⟩

theorem Try.size8 (w : World) : (Go.sizeOf 5).run Try.prog w = .ok 1 w := by
  obtain ⟨i0, hi, hz0, hz1, hz2⟩ := info_parts Try.info8
  simp [Go.sizeOf, typeInfo, hi, hz1]
theorem cut_at (b off n cap x y m : Nat) (X Y : Int) (hx : X = (x : Int)) (hy : Y = (y : Int)) (h1 : x < y) (h2 : y ≤ cap) (hm : y - x = m) (W : World) :
    (Instr.slice 32 (.slice (some ⟨b, off, none⟩) n cap) (some (.int .i64 X)) (some (.int .i64 Y)) none).run Try.prog W = .ok (.slice (some ⟨b, off + x, none⟩) m (cap - x)) W := by
  subst hx
  subst hy
  subst hm
  exact Lib.run_slice_window (P := Try.prog) W 32 5 Try.underlying32 Try.size8 b off n cap x y h1 h2

theorem elem8 : Try.prog.elem 32 = 5 := by simp [Program.elem, Try.underlying32]
theorem rest_at (b off len cap x : Nat) (X : Int) (hx : X = (x : Int)) (h1 : x < len) (h2 : len ≤ cap) (W : World) :
    (Instr.slice 32 (.slice (some ⟨b, off, none⟩) len cap) (some (.int .i64 X)) none none).run Try.prog W = .ok (.slice (some ⟨b, off + x, none⟩) (len - x) (cap - x)) W := by
  subst hx
  have he : Try.prog.underlying 32 = some (.slice (Try.prog.elem 32)) := by rw [elem8, Try.underlying32]
  rw [run_slice_l W _ _ _ _ he .i64 _ (by omega) (by omega), elem8, Try.size8]
  have hne : ¬ cap = x := by omega
  simp [Result.andThen, sliced, hne, Go.WideShapes.add_plain]
theorem top_at (b off len cap x : Nat) (X : Int) (hx : X = (x : Int)) (h1 : x ≤ cap) (W : World) :
    (Instr.slice 32 (.slice (some ⟨b, off, none⟩) len cap) none (some (.int .i64 X)) none).run Try.prog W = .ok (.slice (some ⟨b, off, none⟩) x cap) W := by
  subst hx
  have he : Try.prog.underlying 32 = some (.slice (Try.prog.elem 32)) := by rw [elem8, Try.underlying32]
  rw [run_slice_h W _ _ _ _ he .i64 _ (by omega) (by omega), elem8, Try.size8]
  simp [Result.andThen, sliced, Addr.add]

theorem beside_len {k p s e : Int} {a : Option Addr} {cap m : Nat} {z : List Int} {w : World} (h : Rt k p s e) (hz : Rw w a z) (hl : z.length = m) :
    Calls Try.prog 78 #[tg k p s e, .slice a m cap] w fun r w' => ∃ v, r = .returned v ∧
      w'.ownsRow (w.heap.size + 1) 5 1 v 32 ((bs k p s e z).map (Value.int .u8)) ∧ Below w.heap.size w w' := by
  subst hl
  exact beside_ok k p s e a cap z w h hz

set_option maxRecDepth 100000 in
set_option maxHeartbeats 4000000 in
theorem refread_page (a : Option Addr) (n cap : Nat) (l : List Int) (w : World) (hs : Sz n) (hr : Rw w a l) (hl : l.length = n + 32) (hcap : n + 32 ≤ cap) :
    Calls Try.prog 69 #[.slice a (n + 32) cap] w fun r w' => (Er l ∧ r = .returned (Bad 20) ∧ Below w.heap.size w w') ∨ (¬ Er l ∧ RdP w n l r w') := by
  have HS := Lib.hid (fun w => refsized_yes n w hs)
  have HSZ := Lib.hid hs
  have hn : n ≤ 512 := by unfold Sz at hs; omega
  have hn1 : 1 ≤ n := by unfold Sz at hs; omega
  have HR := Lib.hid hr
  have HU := Lib.hid hr.1
  have HL := Lib.hid hl
  have HK := Lib.hid (tk_bd n l hr.1)
  have HP := Lib.hid (tp_bd n l hr.1)
  have HQ := Lib.hid (ts_bd n l hr.1)
  have HV := Lib.hid (te_bd n l hr.1)
  have HB := Lib.hid ((Below.refl w.heap.size w).alloc (Nat.le_refl _) (.cells #[.int .i64 0, .int .u32 0, .int .u64 0, .int .u64 0] 68))
  have HB0 := Lib.hid (Blk.new w 68 #[.int .i64 0, .int .u32 0, .int .u64 0, .int .u64 0])
  obtain ⟨b, off, rfl, hc0⟩ : ∃ b off, a = some ⟨b, off, none⟩ ∧ ∀ i, i < l.length → (w.alloc (.cells #[.int .i64 0, .int .u32 0, .int .u64 0, .int .u64 0] 68)).cell? ⟨b, off + i, none⟩ = some (.int .u8 (l.getD i 0)) := by
    rcases (hr.below ((Below.refl _ _).alloc (Nat.le_refl _) (.cells #[.int .i64 0, .int .u32 0, .int .u64 0, .int .u64 0] 68))).2.2 with h | ⟨b, off, rfl, h⟩
    · rw [h] at hl; simp at hl
    · exact ⟨b, off, rfl, h⟩
  have HC := Lib.hid hc0
  clear hs hr hl hc0
  go_enter Try.func69, Try.ntmps69
  go_wp2_with fail
  refine (HS.out _).mono ?_
  rintro r w1 ⟨rfl, rfl⟩
  go_wp2_with fail
  obtain ⟨W, hW⟩ : ∃ W, (w.alloc (.cells #[.int .i64 0, .int .u32 0, .int .u64 0, .int .u64 0] 68)) = W := ⟨_, rfl⟩
  rw [hW] at HC HB HB0 ⊢
  have hWs : w.heap.size < W.heap.size := HB0.out.lt
  have HWs : Hid (W.heap.size = w.heap.size + 1) := Lib.hid (by rw [← hW]; simp)
  clear hW
  go_loop [6, 7] (fun f i => ∃ k : Nat, k ≤ n + 32 ∧ i = .int .i64 k ∧ ∃ t : Bool, f = .bool t ∧ Hid (t = er l k)) (fun _ i => n + 32 - (intOf i).toNat)
  case atStart => exact ⟨0, by omega, rfl, true, rfl, Lib.hid rfl⟩
  case round =>
    obtain ⟨k, hk, rfl, t, rfl, ht⟩ := hrel
    by_cases hlt : k < n + 32
    · have hkl : k < l.length := by have := HL.out; omega
      have hcell := HC.out k hkl
      have hS := Lib.hid (er_succ hkl)
      cases t
      · have g : decide ((k : Int) < (n : Int) + 32) = true := by simp; omega
        go_wp2
        go_round
        case rel => exact ⟨k + 1, by omega, by go_num, false, rfl, Lib.hid (by rw [hS.out, ← ht.out]; rfl)⟩
        case measure => simp [intOf]; omega
      · have g : decide ((k : Int) < (n : Int) + 32) = true := by simp; omega
        have ek : l.getD k 0 = l[k] := by simp [hkl]
        rw [ek] at hcell
        go_wp2
        go_round
        case rel => exact ⟨k + 1, by omega, by go_num, l[k] == 255, rfl, Lib.hid (by rw [hS.out, ← ht.out]; rfl)⟩
        case measure => simp [intOf]; omega
    · have g : decide ((k : Int) < (n : Int) + 32) = false := by simp; omega
      have hkk : k = l.length := by have := HL.out; omega
      have HE : Hid (t = decide (Er l)) := Lib.hid (by rw [ht.out, hkk, er_Er])
      clear ht
      cases t
      · have hne : ¬ Er l := by intro h; have := HE.out; simp [h] at this
        have HNE := Lib.hid hne
        clear HE hne hkk
        go_wp2
        have hcell := HC.out (n + 2) (by have := HL.out; omega)
        have ek : l.getD (n + 2) 0 = tk n l := rfl
        rw [ek] at hcell
        obtain ⟨k0, k1⟩ := HK.out
        have c4 := cut_at b off (n + 32) cap (n + 4) (n + 8) 4 ((n : Int) + 4) ((n : Int) + 8) (by omega) (by omega) (by omega) (by omega) (by omega)
        have c8 := cut_at b off (n + 32) cap (n + 8) (n + 16) 8 ((n : Int) + 8) ((n : Int) + 16) (by omega) (by omega) (by omega) (by omega) (by omega)
        have c16 := cut_at b off (n + 32) cap (n + 16) (n + 24) 8 ((n : Int) + 16) ((n : Int) + 24) (by omega) (by omega) (by omega) (by omega) (by omega)
        have q0 : (0 : Int) ≤ (n : Int) + 2 := by omega
        have q2 : (n : Int) + 2 < (n : Int) + 32 := by omega
        have i4 : ¬ cap = n + 4 := by omega
        have i8 : ¬ cap = n + 8 := by omega
        have i16 : ¬ cap = n + 16 := by omega
        have ax : ∀ x, x < 32 → mv (some ⟨b, off, none⟩) cap (n + x) = some ⟨b, off + (n + x), none⟩ := fun x hx => by unfold mv; rw [if_neg (by omega), Option.map_some, Go.WideShapes.add_plain]
        have NN := Lib.hid (fun (x m : Nat) (w' : World) (hb : Below w.heap.size w w') (h1 : x + m ≤ 32) (h2 : m ≤ 8) (hx : x < 32) =>
          (num_len (cap := cap - (n + x)) (a := some ⟨b, off + (n + x), none⟩) (m := m) (v := nu ((l.drop (n + x)).take m)) (by rw [← ax x hx]; exact ((HR.out.mv (n + x) cap (by have := HL.out; omega)).take m).below hb) (by rw [List.length_take]; omega) (take_len l (n + x) m (by have := HL.out; omega)) rfl))
        clear ax hk
        have s2 : IntKind.i64.wrap ((n : Int) + 2) = (n : Int) + 2 := IntWalk.i64_in _ (by omega)
        have s4 : IntKind.i64.wrap ((n : Int) + 4) = (n : Int) + 4 := IntWalk.i64_in _ (by omega)
        have s8 : IntKind.i64.wrap ((n : Int) + 8) = (n : Int) + 8 := IntWalk.i64_in _ (by omega)
        have s16 : IntKind.i64.wrap ((n : Int) + 16) = (n : Int) + 16 := IntWalk.i64_in _ (by omega)
        have s24 : IntKind.i64.wrap ((n : Int) + 24) = (n : Int) + 24 := IntWalk.i64_in _ (by omega)
        have t2 : ((n : Int) + 2).toNat = n + 2 := by omega
        have t4 : ((n : Int) + 4).toNat = n + 4 := by omega
        have t8 : ((n : Int) + 8).toNat = n + 8 := by omega
        have t16 : ((n : Int) + 16).toNat = n + 16 := by omega
        have t24 : ((n : Int) + 24).toNat = n + 24 := by omega
        have hBW := HB.out
        go_cut [8] from 32 to 60 (fun s8 wx => s8 = .pointer (some ⟨W.heap.size, 0, none⟩) ∧ Blk wx w.heap.size 68 #[.int .i64 0, .int .u32 0, .int .u64 0, .int .u64 0] ∧ Blk wx W.heap.size 68 #[.int .i64 (tk n l), .int .u32 (tp n l), .int .u64 (ts n l), .int .u64 (te n l)] ∧ Below w.heap.size w wx)
        case first =>
          go_region_held3 (fun w' => w'.cell? ⟨b, off + (n + 2), none⟩ = some (.int .u8 (tk n l)) ∧ Below w.heap.size w w')
            ((go_split_ands; refine ⟨?_, ?_⟩ <;> first | assumption | exact Below.drew (by assumption) | exact (hBW.alloc hBW.size _).drew | exact Below.alloc (by assumption) (Below.size (by assumption)) _ | exact Below.setCell (by assumption) (by simp; omega) _ | go_keep))
            (first | (go_at_call 76; refine (NN.out _ _ _ ?_ ?_ ?_ ?_).mono ?_; (go_split_ands; assumption); decide; decide; decide; rintro e w' ⟨rfl, rfl⟩))
          all_goals
            go_wp2_with fail
            go_meet
            have e1 : IntKind.i64.wrap (tk n l) = tk n l := IntWalk.i64_in _ (by omega)
            have e2 : IntKind.u32.wrap (nu ((l.drop (n + 4)).take 4)) = tp n l := by
              obtain ⟨a, b⟩ := HP.out
              show IntKind.u32.wrap (tp n l) = tp n l
              rw [IntKind.wrap_u32]; omega
            rw [e1, e2]
            exact ⟨rfl, HB0.out.alloc _, Blk.new W _ _, (hBW.alloc hBW.size _).drew⟩
        case rest =>
        clear s2 s4 s8 s16 s24 t2 t4 t8 t16 t24
        obtain ⟨rfl, hx0, hx1, hxb⟩ := hcut
        have HX0 := Lib.hid hx0
        have HX1 := Lib.hid hx1
        have HXB := Lib.hid hxb
        clear hx0 hx1 hxb NN c4 c8 c16 hcell
        by_cases hRt : Rt (tk n l) (tp n l) (ts n l) (te n l)
        · have HRT := Lib.hid hRt
          have SS : ∀ w', Blk w' W.heap.size 68 #[.int .i64 (tk n l), .int .u32 (tp n l), .int .u64 (ts n l), .int .u64 (te n l)] → Blk w' w.heap.size 68 #[.int .i64 0, .int .u32 0, .int .u64 0, .int .u64 0] → Below w.heap.size w w' → (fun w' => w'.cell? ⟨W.heap.size, 0, none⟩ = some (.int .i64 (tk n l)) ∧ w'.cell? ⟨W.heap.size, 1, none⟩ = some (.int .u32 (tp n l)) ∧ w'.cell? ⟨W.heap.size, 2, none⟩ = some (.int .u64 (ts n l)) ∧ w'.cell? ⟨W.heap.size, 3, none⟩ = some (.int .u64 (te n l)) ∧ Blk w' W.heap.size 68 #[.int .i64 (tk n l), .int .u32 (tp n l), .int .u64 (ts n l), .int .u64 (te n l)] ∧ Blk w' w.heap.size 68 #[.int .i64 0, .int .u32 0, .int .u64 0, .int .u64 0] ∧ Below w.heap.size w w') w' :=
            fun w' h1 h2 h3 => ⟨h1.cell 0, h1.cell 1, h1.cell 2, h1.cell 3, h1, h2, h3⟩
          have hS0 := SS wc.drew HX1.out HX0.out HXB.out.drew
          have HR1 := Lib.hid (fun w' (h : (fun w' => w'.cell? ⟨W.heap.size, 0, none⟩ = some (.int .i64 (tk n l)) ∧ w'.cell? ⟨W.heap.size, 1, none⟩ = some (.int .u32 (tp n l)) ∧ w'.cell? ⟨W.heap.size, 2, none⟩ = some (.int .u64 (ts n l)) ∧ w'.cell? ⟨W.heap.size, 3, none⟩ = some (.int .u64 (te n l)) ∧ Blk w' W.heap.size 68 #[.int .i64 (tk n l), .int .u32 (tp n l), .int .u64 (ts n l), .int .u64 (te n l)] ∧ Blk w' w.heap.size 68 #[.int .i64 0, .int .u32 0, .int .u64 0, .int .u64 0] ∧ Below w.heap.size w w') w') => ((refright_yes (tk n l) (tp n l) (ts n l) (te n l) w' hRt).mono (R' := fun r w'' => r = .returned (.bool true) ∧ (fun w' => w'.cell? ⟨W.heap.size, 0, none⟩ = some (.int .i64 (tk n l)) ∧ w'.cell? ⟨W.heap.size, 1, none⟩ = some (.int .u32 (tp n l)) ∧ w'.cell? ⟨W.heap.size, 2, none⟩ = some (.int .u64 (ts n l)) ∧ w'.cell? ⟨W.heap.size, 3, none⟩ = some (.int .u64 (te n l)) ∧ Blk w' W.heap.size 68 #[.int .i64 (tk n l), .int .u32 (tp n l), .int .u64 (ts n l), .int .u64 (te n l)] ∧ Blk w' w.heap.size 68 #[.int .i64 0, .int .u32 0, .int .u64 0, .int .u64 0] ∧ Below w.heap.size w w') w'')
            fun r w'' hq => ⟨hq.1, SS w'' (h.2.2.2.2.1.below hq.2 h.2.2.2.2.1.lt) (h.2.2.2.2.2.1.below hq.2 h.2.2.2.2.2.1.lt) (h.2.2.2.2.2.2.trans (hq.2.mono h.2.2.2.2.2.2.size))⟩))
          have HR2 := Lib.hid (fun w' (h : (fun w' => w'.cell? ⟨W.heap.size, 0, none⟩ = some (.int .i64 (tk n l)) ∧ w'.cell? ⟨W.heap.size, 1, none⟩ = some (.int .u32 (tp n l)) ∧ w'.cell? ⟨W.heap.size, 2, none⟩ = some (.int .u64 (ts n l)) ∧ w'.cell? ⟨W.heap.size, 3, none⟩ = some (.int .u64 (te n l)) ∧ Blk w' W.heap.size 68 #[.int .i64 (tk n l), .int .u32 (tp n l), .int .u64 (ts n l), .int .u64 (te n l)] ∧ Blk w' w.heap.size 68 #[.int .i64 0, .int .u32 0, .int .u64 0, .int .u64 0] ∧ Below w.heap.size w w') w') => ((beside_len (cap := cap) hRt ((HR.out.take n).below h.2.2.2.2.2.2) (m := n) (by rw [List.length_take]; have := HL.out; omega)).mono (R' := fun r w'' => ∃ a3 c3, r = .returned (.slice a3 32 c3) ∧ (convert 32 9 (.slice a3 32 c3)).run Try.prog w'' = .ok (.string (strOfNums (bs (tk n l) (tp n l) (ts n l) (te n l) (l.take n)))) w'' ∧ (fun w' => w'.cell? ⟨W.heap.size, 0, none⟩ = some (.int .i64 (tk n l)) ∧ w'.cell? ⟨W.heap.size, 1, none⟩ = some (.int .u32 (tp n l)) ∧ w'.cell? ⟨W.heap.size, 2, none⟩ = some (.int .u64 (ts n l)) ∧ w'.cell? ⟨W.heap.size, 3, none⟩ = some (.int .u64 (te n l)) ∧ Blk w' W.heap.size 68 #[.int .i64 (tk n l), .int .u32 (tp n l), .int .u64 (ts n l), .int .u64 (te n l)] ∧ Blk w' w.heap.size 68 #[.int .i64 0, .int .u32 0, .int .u64 0, .int .u64 0] ∧ Below w.heap.size w w') w'')
            fun r w'' hq => by
              obtain ⟨v, rfl, hown, hb⟩ := hq
              obtain ⟨a3, c3, rfl, hr3, hl3, -⟩ := Rw.of_own hown (bs_U8 _ _ _ _ _)
              exact ⟨a3, c3, rfl, hr3.text 32 c3 hl3, SS w'' (h.2.2.2.2.1.below hb h.2.2.2.2.1.lt) (h.2.2.2.2.2.1.below hb h.2.2.2.2.2.1.lt) (h.2.2.2.2.2.2.trans (hb.mono h.2.2.2.2.2.2.size))⟩))
          unfold tg at HR1 HR2
          have cN := rest_at b off (n + 32) cap n (n : Int) rfl (by omega) (by omega)
          have cH := top_at b off (n + 32) cap n (n : Int) rfl (by omega)
          have cT : ∀ w', Below w.heap.size w w' → (convert 32 9 (.slice (some ⟨b, off + n, none⟩) 32 (cap - n))).run Try.prog w' = .ok (.string (strOfNums (l.drop n))) w' := fun w' hb => by
            have h := (HR.out.mv n cap (by have := HL.out; omega)).below hb
            have e : mv (some ⟨b, off, none⟩) cap n = some ⟨b, off + n, none⟩ := by unfold mv; rw [if_neg (by omega), Option.map_some, Go.WideShapes.add_plain]
            rw [e] at h
            exact h.text 32 (cap - n) (by rw [List.length_drop]; have := HL.out; omega)
          clear hRt SS
          go_wp2_with fail
          have cT' := Lib.hid cT
          clear cT
          refine wp_region_held_drew (S := (fun w' => w'.cell? ⟨W.heap.size, 0, none⟩ = some (.int .i64 (tk n l)) ∧ w'.cell? ⟨W.heap.size, 1, none⟩ = some (.int .u32 (tp n l)) ∧ w'.cell? ⟨W.heap.size, 2, none⟩ = some (.int .u64 (ts n l)) ∧ w'.cell? ⟨W.heap.size, 3, none⟩ = some (.int .u64 (te n l)) ∧ Blk w' W.heap.size 68 #[.int .i64 (tk n l), .int .u32 (tp n l), .int .u64 (ts n l), .int .u64 (te n l)] ∧ Blk w' w.heap.size 68 #[.int .i64 0, .int .u32 0, .int .u64 0, .int .u64 0] ∧ Below w.heap.size w w')) (by kernel_rfl) hS0 (fun hHeld => ?_)
          refine wpAnyH_take (i := 0) (v := .agg #[.int .i64 (tk n l), .int .u32 (tp n l), .int .u64 (ts n l), .int .u64 (te n l)]) rfl (by kernel_rfl) (by kernel_rfl) (by kernel_rfl) (fun _ _ _ h => h) (Or.inl ⟨by kernel_rfl, ?_⟩) (by assumption) ?_
          · intro w' hSw
            obtain ⟨q0, q1, q2, q3, q4, q5, q6⟩ := hSw
            go_simp
          try simp only [Act.put, List.setIfInBounds_toArray, List.set]
          refine wpAnyH_ready (rs := [1]) (by kernel_rfl) (by simp) ?_
          refine AllReadyH.cons rfl (fun K hK => ?_) AllReadyH.nil
          go_simp
          refine (HR1.out _ hHeld).mono ?_
          rintro r w2 ⟨rfl, hS2⟩
          refine hK.out _ _ hS2 (fun hHeld2 => ?_)
          clear hK K hHeld hS0
          try simp only [Act.put, List.setIfInBounds_toArray, List.set]
          refine wpAnyH_take (i := 2) (v := .bool false) rfl (by kernel_rfl) (by kernel_rfl) (by kernel_rfl) (fun _ _ _ h => h) (Or.inl ⟨by kernel_rfl, ?_⟩) (by assumption) ?_
          · intro w' hSw
            obtain ⟨q0, q1, q2, q3, q4, q5, q6⟩ := hSw
            go_simp
          try simp only [Act.put, List.setIfInBounds_toArray, List.set]
          refine wpAnyH_take (i := 3) (v := .bool false) rfl (by kernel_rfl) (by kernel_rfl) (by kernel_rfl) (fun _ _ _ h => h) (Or.inl ⟨by kernel_rfl, ?_⟩) (by assumption) ?_
          · intro w' hSw
            obtain ⟨q0, q1, q2, q3, q4, q5, q6⟩ := hSw
            go_simp
          try simp only [Act.put, List.setIfInBounds_toArray, List.set]
          refine wpAnyH_take (i := 4) (v := .agg #[.int .i64 (tk n l), .int .u32 (tp n l), .int .u64 (ts n l), .int .u64 (te n l)]) rfl (by kernel_rfl) (by kernel_rfl) (by kernel_rfl) (fun _ _ _ h => h) (Or.inl ⟨by kernel_rfl, ?_⟩) (by assumption) ?_
          · intro w' hSw
            obtain ⟨q0, q1, q2, q3, q4, q5, q6⟩ := hSw
            go_simp
          try simp only [Act.put, List.setIfInBounds_toArray, List.set]
          refine wpAnyH_take (i := 5) (v := .slice (some ⟨b, off, none⟩) (n + 32) cap) rfl (by kernel_rfl) (by kernel_rfl) (by kernel_rfl) (fun _ _ _ h => h) (Or.inl ⟨by kernel_rfl, ?_⟩) (by assumption) ?_
          · intro w' hSw
            obtain ⟨q0, q1, q2, q3, q4, q5, q6⟩ := hSw
            go_simp
          try simp only [Act.put, List.setIfInBounds_toArray, List.set]
          refine wpAnyH_take (i := 6) (v := .int .i64 n) rfl (by kernel_rfl) (by kernel_rfl) (by kernel_rfl) (fun _ _ _ h => h) (Or.inl ⟨by kernel_rfl, ?_⟩) (by assumption) ?_
          · intro w' hSw
            obtain ⟨q0, q1, q2, q3, q4, q5, q6⟩ := hSw
            go_simp
          try simp only [Act.put, List.setIfInBounds_toArray, List.set]
          refine wpAnyH_take (i := 7) (v := .slice (some ⟨b, off, none⟩) n cap) rfl (by kernel_rfl) (by kernel_rfl) (by kernel_rfl) (fun _ _ _ h => h) (Or.inl ⟨by kernel_rfl, ?_⟩) (by assumption) ?_
          · intro w' hSw
            obtain ⟨q0, q1, q2, q3, q4, q5, q6⟩ := hSw
            go_simp
          try simp only [Act.put, List.setIfInBounds_toArray, List.set]
          refine wpAnyH_take (i := 10) (v := .slice (some ⟨b, off, none⟩) (n + 32) cap) rfl (by kernel_rfl) (by kernel_rfl) (by kernel_rfl) (fun _ _ _ h => h) (Or.inl ⟨by kernel_rfl, ?_⟩) (by assumption) ?_
          · intro w' hSw
            obtain ⟨q0, q1, q2, q3, q4, q5, q6⟩ := hSw
            go_simp
          try simp only [Act.put, List.setIfInBounds_toArray, List.set]
          refine wpAnyH_take (i := 11) (v := .int .i64 n) rfl (by kernel_rfl) (by kernel_rfl) (by kernel_rfl) (fun _ _ _ h => h) (Or.inl ⟨by kernel_rfl, ?_⟩) (by assumption) ?_
          · intro w' hSw
            obtain ⟨q0, q1, q2, q3, q4, q5, q6⟩ := hSw
            go_simp
          try simp only [Act.put, List.setIfInBounds_toArray, List.set]
          refine wpAnyH_take (i := 12) (v := .slice (some ⟨b, off + n, none⟩) 32 (cap - n)) rfl (by kernel_rfl) (by kernel_rfl) (by kernel_rfl) (fun _ _ _ h => h) (Or.inl ⟨by kernel_rfl, ?_⟩) (by assumption) ?_
          · intro w' hSw
            obtain ⟨q0, q1, q2, q3, q4, q5, q6⟩ := hSw
            go_simp
          try simp only [Act.put, List.setIfInBounds_toArray, List.set]
          refine wpAnyH_take (i := 13) (v := .string (strOfNums (l.drop n))) rfl (by kernel_rfl) (by kernel_rfl) (by kernel_rfl) (fun _ _ _ h => h) (Or.inl ⟨by kernel_rfl, ?_⟩) (by assumption) ?_
          · intro w' hSw
            obtain ⟨q0, q1, q2, q3, q4, q5, q6⟩ := hSw
            have c13 := cT'.out w' q6
            go_simp
          try simp only [Act.put, List.setIfInBounds_toArray, List.set]
          refine wpAnyH_ready (rs := [8]) (by kernel_rfl) (by simp) ?_
          refine AllReadyH.cons rfl (fun K hK => ?_) AllReadyH.nil
          go_simp
          refine (HR2.out _ hHeld2).mono ?_
          rintro r w3 ⟨a3, c3, rfl, hcv3, hS3⟩
          refine hK.out _ _ hS3 (fun hHeld3 => ?_)
          clear hK K hHeld2 hS2
          try simp only [Act.put, List.setIfInBounds_toArray, List.set]
          refine wpAnyH_ready (rs := [9]) (by kernel_rfl) (by simp) ?_
          refine AllReadyH.cons rfl (fun K hK => ?_) AllReadyH.nil
          go_simp
          refine hK.out _ _ hS3 (fun hHeld4 => ?_)
          clear hK K hHeld3
          try simp only [Act.put, List.setIfInBounds_toArray, List.set]
          refine wpAnyH_ready (rs := [14]) (by kernel_rfl) (by simp) ?_
          refine AllReadyH.cons rfl (fun K hK => ?_) AllReadyH.nil
          go_simp
          refine hK.out _ _ hS3 (fun _ => ?_)
          clear hK K
          try simp only [Act.put, List.setIfInBounds_toArray, List.set]
          refine wpAnyH_ready (rs := [15]) (by kernel_rfl) (by simp) ?_
          refine AllReadyH.cons rfl (fun K hK => ?_) AllReadyH.nil
          go_simp
          refine hK.out _ _ hS3 (fun _ => ?_)
          clear hK K
          try simp only [Act.put, List.setIfInBounds_toArray, List.set]
          refine wpAnyH_done (by kernel_rfl) ?_ _
          obtain ⟨_, _, _, _, hY1, hY0, hYB⟩ := hS3
          have HINJ := Lib.hid (strOf_inj (bs_U8 (tk n l) (tp n l) (ts n l) (te n l) (l.take n)) (fun b hb => HU.out b (List.mem_of_mem_drop hb)) : ((strOfNums (bs (tk n l) (tp n l) (ts n l) (te n l) (l.take n))).toList == (strOfNums (l.drop n)).toList) = _)
          have HY0 := Lib.hid hY0
          have HY1 := Lib.hid hY1
          have HYB := Lib.hid hYB
          clear hY0 hY1 hYB hcv3 cN cT' HR1 HR2
          have e0 := HY0.out.cell 0
          have e1 := HY0.out.cell 1
          have e2 := HY0.out.cell 2
          have e3 := HY0.out.cell 3
          have g0 := HY0.out.frozen 0
          have g1 := HY0.out.frozen 1
          have g2 := HY0.out.frozen 2
          have g3 := HY0.out.frozen 3
          simp at e0 e1 e2 e3
          by_cases hbs : bs (tk n l) (tp n l) (ts n l) (te n l) (l.take n) = l.drop n
          · have hT : ((strOfNums (bs (tk n l) (tp n l) (ts n l) (te n l) (l.take n))).toList == (strOfNums (l.drop n)).toList) = true := by rw [HINJ.out, decide_eq_true hbs]
            have HPG : Hid (pg (tk n l) (tp n l) (ts n l) (te n l) (l.take n) = l) := Lib.hid (by rw [pg_bs, hbs, List.take_append_drop])
            clear hbs
            have d0 := HY1.out.cell 0
            have d1 := HY1.out.cell 1
            have d2 := HY1.out.cell 2
            have d3 := HY1.out.cell 3
            simp at d0 d1 d2 d3
            have hne : ¬ W.heap.size = w.heap.size := by omega
            have hne2 : ¬ w.heap.size = W.heap.size := by omega
            go_wp2_with fail
            · exfalso
              rename_i hq
              have hq2 : ¬ (strOfNums (bs (tk n l) (tp n l) (ts n l) (te n l) (l.take n))).toList = (strOfNums (l.drop n)).toList := by simpa using hq
              exact hq2 (by simpa using hT)
            go_region
            go_wp2
            have X := ov_blk (k := tk n l) (p := tp n l) (s := ts n l) (e := te n l) HY0.out
            have XB := ov_below (k := tk n l) (p := tp n l) (s := ts n l) (e := te n l) HYB.out (Nat.le_refl w.heap.size)
            have x0 := X.cell 0
            have x1 := X.cell 1
            have x2 := X.cell 2
            have x3 := X.cell 3
            simp at x0 x1 x2 x3
            have XR := (HR.out.take n).below XB
            unfold ov at x0 x1 x2 x3
            exact bodyPost_ret (v := .tuple #[tg (tk n l) (tp n l) (ts n l) (te n l), .slice (some ⟨b, off, none⟩) n cap, .int .i64 0]) (by simp [tg, results, Try.results69, go_sem, x0, x1, x2, x3]) rfl (.inr ⟨HNE.out, XB.drew, .inr ⟨⟨HRT.out, HPG.out⟩, _, cap, rfl, XR⟩⟩)
          · have hT : ((strOfNums (bs (tk n l) (tp n l) (ts n l) (te n l) (l.take n))).toList == (strOfNums (l.drop n)).toList) = false := by rw [HINJ.out, decide_eq_false hbs]
            have HPG : Hid (¬ pg (tk n l) (tp n l) (ts n l) (te n l) (l.take n) = l) := Lib.hid (fun h => hbs (by rw [pg_bs] at h; have h2 := congrArg (List.drop n) h; rwa [drop_at (by rw [List.length_take]; have := HL.out; omega)] at h2))
            clear hbs
            go_wp2_with fail
            · have X := ov_blk (k := 0) (p := 0) (s := 0) (e := 0) HY0.out
              have XB := ov_below (k := 0) (p := 0) (s := 0) (e := 0) HYB.out (Nat.le_refl w.heap.size)
              have x0 := X.cell 0
              have x1 := X.cell 1
              have x2 := X.cell 2
              have x3 := X.cell 3
              simp at x0 x1 x2 x3
              unfold ov at x0 x1 x2 x3
              exact bodyPost_ret (v := Bad 21) (by simp [Bad, tg, results, Try.results69, go_sem, x0, x1, x2, x3]) rfl (.inr ⟨HNE.out, XB, .inl ⟨fun h => HPG.out h.2, rfl⟩⟩)
            · exfalso
              rename_i hq _ _
              have hq2 : (strOfNums (bs (tk n l) (tp n l) (ts n l) (te n l) (l.take n))).toList = (strOfNums (l.drop n)).toList := by simpa using hq
              rw [hq2] at hT
              simp at hT
        · have HRT := Lib.hid hRt
          have HC := Lib.hid (fun (m : Later wc) => later_below (refright_no (tk n l) (tp n l) (ts n l) (te n l) m.to HP.out.1 hRt))
          unfold tg at HC
          have L0 : ∀ m : Later wc, m.to.cell? ⟨W.heap.size, 0, none⟩ = some (.int .i64 (tk n l)) := fun m => (HX1.out.below m.bel HX1.out.lt).cell 0
          have L1 : ∀ m : Later wc, m.to.cell? ⟨W.heap.size, 1, none⟩ = some (.int .u32 (tp n l)) := fun m => (HX1.out.below m.bel HX1.out.lt).cell 1
          have L2 : ∀ m : Later wc, m.to.cell? ⟨W.heap.size, 2, none⟩ = some (.int .u64 (ts n l)) := fun m => (HX1.out.below m.bel HX1.out.lt).cell 2
          have L3 : ∀ m : Later wc, m.to.cell? ⟨W.heap.size, 3, none⟩ = some (.int .u64 (te n l)) := fun m => (HX1.out.below m.bel HX1.out.lt).cell 3
          clear hRt
          go_wp2_with fail
          refine wp_region_later (by kernel_rfl) (by kernel_rfl) ?_
          repeat (go_big_quiet_step (with_reducible first | exact HC.out _))
          refine wpQuiet_nil ?_
          rintro _ ⟨m, rfl⟩
          have Y := HX0.out.below m.bel HX0.out.lt
          have YB := HXB.out.trans (m.bel.mono HXB.out.size)
          have HY := Lib.hid Y
          have HYB := Lib.hid YB
          have d0 := Y.cell 0
          have d1 := Y.cell 1
          have d2 := Y.cell 2
          have d3 := Y.cell 3
          have g0 := Y.frozen 0
          have g1 := Y.frozen 1
          have g2 := Y.frozen 2
          have g3 := Y.frozen 3
          simp at d0 d1 d2 d3
          clear Y YB L0 L1 L2 L3
          go_wp2
          have X := ov_blk (k := 0) (p := 0) (s := 0) (e := 0) HY.out
          have XB := ov_below (k := 0) (p := 0) (s := 0) (e := 0) HYB.out (Nat.le_refl w.heap.size)
          have x0 := X.cell 0
          have x1 := X.cell 1
          have x2 := X.cell 2
          have x3 := X.cell 3
          simp at x0 x1 x2 x3
          unfold ov at x0 x1 x2 x3
          exact bodyPost_ret (v := Bad 21) (by simp [Bad, tg, results, Try.results69, go_sem, x0, x1, x2, x3]) rfl (.inr ⟨HNE.out, XB, .inl ⟨fun h => HRT.out h.1, rfl⟩⟩)
      · have hye : Er l := by have := HE.out; simpa using this.symm
        have HYE := Lib.hid hye
        clear HE hye hkk
        have d0 := HB0.out.cell 0
        have d1 := HB0.out.cell 1
        have d2 := HB0.out.cell 2
        have d3 := HB0.out.cell 3
        have g0 := HB0.out.frozen 0
        have g1 := HB0.out.frozen 1
        have g2 := HB0.out.frozen 2
        have g3 := HB0.out.frozen 3
        simp at d0 d1 d2 d3
        go_wp2
        have X := ov_blk (k := 0) (p := 0) (s := 0) (e := 0) HB0.out
        have XB := ov_below (k := 0) (p := 0) (s := 0) (e := 0) HB.out (Nat.le_refl w.heap.size)
        have x0 := X.cell 0
        have x1 := X.cell 1
        have x2 := X.cell 2
        have x3 := X.cell 3
        simp at x0 x1 x2 x3
        unfold ov at x0 x1 x2 x3
        exact bodyPost_ret (v := Bad 20) (by simp [Bad, tg, results, Try.results69, go_sem, x0, x1, x2, x3]) rfl (.inl ⟨HYE.out, rfl, XB⟩)

end Go.Proofs.Ytofdmfkncgaelaa
