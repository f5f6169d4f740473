/-
  The program's Pointers: what it hands back, and what is handed on by that.
-/
import Derived.Test.YtladgfonkolpmaaInoIter
import Derived.RangeFuncNested
import Derived.RangeFuncCalls
import Derived.WalkMore
namespace Go.Proofs.Ytladgfonkolpmaa
open Go.RowKit Go.Shelf Crcm Tagm Inom Go.ChangeShapes

attribute [local go_sem] Oper.semAt_some

/-- a copy of any bytes has as many -/
theorem bclone_len (a : Option Addr) (n c : Nat) (l : List Int) (w : World) (hr : Rw w a l) (hl : l.length = n) (hn : n ≤ 100000) (ha : a = none → n = 0 ∧ c = 0) :
    Calls Try.prog 45 #[.slice a n c] w fun e w' => (∃ A cc, e = .returned (.slice A n cc)) ∧ Below w.heap.size w w' := by
  rcases a with _ | ⟨b, off, sp⟩
  · obtain ⟨rfl, rfl⟩ := ha rfl
    refine (bclone_nil w).mono ?_
    rintro e w' ⟨rfl, rfl⟩
    exact ⟨⟨none, 0, rfl⟩, Below.refl _ _⟩
  · by_cases h0 : n = 0
    · subst h0
      have en := fun W a n c => Lib.run_eql_slice_nil (P := Try.prog) W 22 5 a n c 0 0 Try.underlying22
      have hown : Hid ((w.alloc (.cells #[] 5)).ownsRow w.heap.size 5 1 (.slice (some ⟨w.heap.size, 0, none⟩) 0 0) 0 (([] : List Int).map (Value.int .u8))) := Lib.hid (World.ownsRow_lit w #[] 0 (Nat.le_refl _) (Nat.zero_le _) rfl)
      have hbx : Below w.heap.size w (w.alloc (.cells #[] 5)) := (Below.refl _ _).alloc (Nat.le_refl _) _
      have HBX := Lib.hid hbx
      clear hbx hr hl
      go_enter Try.func45, Try.ntmps45
      go_wp2_with (at_builtin; refine append_bytes rfl _ _ rfl w.heap.size _ 0 [] rfl hown.out (some ⟨b, off, sp⟩) 0 c [] rfl rfl (.inr ⟨_, rfl, fun j hj => absurd hj (Nat.not_lt_zero _)⟩) (by omega) (by simp) ?_)
      intro v' w2 hown2 hb2
      have HB2 := Lib.hid (HBX.out.trans hb2)
      obtain ⟨a2, cap2, rfl, hrw, hlen, hcap⟩ := Rw.of_own (zs := []) hown2 (fun m hm => absurd hm (List.not_mem_nil))
      clear hown2 hb2 hrw hlen
      go_wp2
      go_ret
      exact ⟨⟨a2, cap2, rfl⟩, HB2.out⟩
    · obtain ⟨b', off', e⟩ := hr.addr (by omega)
      injection e with e
      injection e with e1 e2 e3
      subst e1 e2 e3
      refine (bclone_any n c b off l w hr hl (by omega)).mono ?_
      rintro e w' ⟨⟨g, cc, rfl, -, -, -⟩, hb⟩
      exact ⟨⟨_, cc, rfl⟩, hb⟩

set_option maxRecDepth 100000 in
theorem pointersOf_no (a : Option Addr) (n c : Nat) (l : List Int) (w : World) (hr : Rw w a l) (hl : l.length = n) (hn : n ≤ 100000) (ha : a = none → n = 0 ∧ c = 0) :
    Calls Try.prog 17 #[.slice a n c] w fun e w' => ∃ Bn A cc, e = .returned (.func (.func 48) #[] #[.pointer (some ⟨Bn, 0, none⟩)]) ∧ Blk w' Bn 22 #[.slice A n cc] ∧ Below w.heap.size w w' ∧ w.heap.size ≤ Bn := by
  have HC := Lib.hid (bclone_len a n c l w hr hl hn ha)
  clear hr hl hn ha
  go_enter Try.func17, Try.ntmps17
  go_wp2_with fail
  refine HC.out.mono ?_
  rintro e w1 ⟨⟨A, cc, rfl⟩, hb⟩
  have HB := Lib.hid (hb.alloc hb.size (.cells #[.slice A n cc] 22))
  have HK := Lib.hid (Blk.new w1 22 #[.slice A n cc])
  have HZ := Lib.hid hb.size
  clear hb
  go_wp2
  go_ret
  exact ⟨_, A, cc, rfl, HK.out, HB.out, HZ.out⟩

set_option maxRecDepth 100000 in
theorem pointersOf_yes (b off n c : Nat) (l : List Int) (w : World) (hr : Rw w (some ⟨b, off, none⟩) l) (hl : l.length = n) (hn : 0 < n ∧ n ≤ 100000) :
    Calls Try.prog 17 #[.slice (some ⟨b, off, none⟩) n c] w fun e w' => ∃ Bn g cc, e = .returned (.func (.func 48) #[] #[.pointer (some ⟨Bn, 0, none⟩)]) ∧ Blk w' Bn 22 #[.slice (some ⟨g, 0, none⟩) n cc] ∧ n ≤ cc ∧ Rw w' (some ⟨g, 0, none⟩) l ∧ Below w.heap.size w w' ∧ w.heap.size ≤ Bn ∧ w.heap.size ≤ g := by
  have HC := Lib.hid (bclone_any n c b off l w hr hl hn)
  have HU := Lib.hid hr.1
  clear hr hl hn
  go_enter Try.func17, Try.ntmps17
  go_wp2_with fail
  refine HC.out.mono ?_
  rintro e w1 ⟨⟨g, cc, rfl, hcc, hge, hown⟩, hb⟩
  have HB := Lib.hid (hb.alloc hb.size (.cells #[.slice (some ⟨g, 0, none⟩) n cc] 22))
  have HK := Lib.hid (Blk.new w1 22 #[.slice (some ⟨g, 0, none⟩) n cc])
  have HZ := Lib.hid hb.size
  have HG := Lib.hid hge
  obtain ⟨a4, cap4, e4, hrw4, hlen4, hcap4⟩ := Rw.of_own hown HU.out
  injection e4 with f1 f2 f3
  subst f1 f3
  have HR := Lib.hid (hrw4.below ((Below.refl w1.heap.size w1).alloc (Nat.le_refl _) (.cells #[.slice (some ⟨g, 0, none⟩) n cc] 22)))
  clear hb hown hrw4 hlen4
  go_wp2
  go_ret
  exact ⟨_, g, cc, rfl, HK.out, hcc, HR.out, HB.out, HZ.out, HG.out⟩

set_option maxRecDepth 100000 in
set_option maxHeartbeats 1000000 in
theorem pointers_none (n : Nat) (_hn : 1 ≤ n) (y Bn : Nat) (l : List Int) (A : Option Addr) (m c : Nat) (J Jx : List (Int × Int) → World → Prop) (hs : ¬ Sz m) (hl : l.length = m)
    (W : World) (hBn : W.cell? ⟨Bn, 0, none⟩ = some (.slice A m c)) (h0 : J [] W) :
    CallsIn Fence.wide n Try.prog 48 #[.func (.yield y) #[] #[], .pointer (some ⟨Bn, 0, none⟩)] W fun e W' => (∃ v, e = .returned v) ∧
      ((∃ ys, ys = pl l ∧ J ys W') ∨ (∃ pre, pre <+: pl l ∧ Jx pre W')) := by
  have HPl : Hid (pl l = []) := Lib.hid (by unfold pl; rw [hl, if_neg hs])
  have HP := Lib.hid (fun w => ptrs_no m w hs)
  clear hs hl
  refine callsIn_of_wp Try.func48 rfl trivial ?_ rfl
  simp only [Try.ntmps48, List.size_toArray, List.length_cons, List.length_nil, Nat.reduceAdd, Nat.reduceSub, Array.replicate_succ, Array.replicate_zero, List.push_toArray, List.append_toArray, List.nil_append, List.cons_append]
  gi_wp2_with (refine ⟨trivial, ?_⟩; gi_at_call 40; refine (callsIn_wide.2 (HP.out _)).mono ?_; rintro e w' ⟨rfl, rfl⟩)
  gi_loopw [8] (fun i wr => i = .int .i64 0 ∧ J [] wr) (fun _ _ => 0)
  case atStart => exact ⟨rfl, h0⟩
  case round =>
    obtain ⟨rfl, hJ⟩ := hrel
    gi_wp2
    go_end0
    exact ⟨⟨_, rfl⟩, .inl ⟨_, HPl.out.symm, hJ⟩⟩

theorem pointers_stops (n : Nat) (hn : 1 ≤ n) (Bn : Nat) (l : List Int) (b off m c : Nat) (hs : Sz m) (hl : l.length = m) (hmc : m ≤ c) (w : World) (hBn : Bn < w.heap.size)
    (hc : w.cell? ⟨Bn, 0, none⟩ = some (.slice (some ⟨b, off, none⟩) m c)) (hr : Rw w (some ⟨b, off, none⟩) l) :
    SeqStopsK Fence.wide n Try.prog 48 #[.pointer (some ⟨Bn, 0, none⟩)] (fun x : Int × Int => #[Value.int .i64 x.1, Value.int .i64 x.2]) (KB Bn b) (fun ys => ys = pl l) (fun pre => pre <+: pl l) (pl l).length w := fun y J Jx W hW _ _ hY h0 =>
  pointers_in n hn y Bn l b off m c J Jx hs hl hmc hY W ((hW.cell (p := ⟨Bn, 0, none⟩) hBn).trans hc) (hr.below hW) h0
theorem pointers_stops_no (n : Nat) (hn : 1 ≤ n) (Bn b : Nat) (l : List Int) (A : Option Addr) (m c : Nat) (hs : ¬ Sz m) (hl : l.length = m) (w : World) (hBn : Bn < w.heap.size)
    (hc : w.cell? ⟨Bn, 0, none⟩ = some (.slice A m c)) :
    SeqStopsK Fence.wide n Try.prog 48 #[.pointer (some ⟨Bn, 0, none⟩)] (fun x : Int × Int => #[Value.int .i64 x.1, Value.int .i64 x.2]) (KB Bn b) (fun ys => ys = pl l) (fun pre => pre <+: pl l) (pl l).length w := fun y J Jx W hW _ _ _ h0 =>
  pointers_none n hn y Bn l A m c J Jx hs hl W ((hW.cell (p := ⟨Bn, 0, none⟩) hBn).trans hc) h0

end Go.Proofs.Ytladgfonkolpmaa
