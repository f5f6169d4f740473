/-
  The translation: nothing is to be done ahead of a writing. Nothing of one statement alone stands here.
-/
import Derived.Test.YtbfifppdcmimaaaGreatFtShort
import Derived.Test.YtbfifppdcmimaaaGreatFtRo
import Derived.Test.YtbfifppdcmimaaaGreatFtDue
import Derived.WalkMore
namespace Go.Proofs.YtbfifppdcmimaaaGreat
open Go.RowKit Crcm Gcm Go.ChangeShapes

set_option maxRecDepth 100000 in
set_option maxHeartbeats 4000000 in
theorem fready_none {w : World} {X : Nat → Prop} {M : Nat} {m : Mg} {o : Own} {c : Ch} (h : MgAt w M m) (hc : ChAt w X o c) (hp : m.cp = o.p) (hn : m.l.length = c.nb)
    {F : Nat} {res bad cap : Int} {ap : Bool} {tx : Value} {x1 x2 x3 : Nat} {seq ep : Int} {x4 x5 : Nat} {bk : Int} {d : Int → Option Value} {c4 : Array Value}
    (hF : Blk w F 58 (ftC o (.pointer (some ⟨M, 0, none⟩)) res bad cap ap false tx x1 x2 x3 seq ep x4 x5 c.nb (.slice none 0 0) false bk))
    (hB : ∀ x ∈ wk c.wear m.l c.nb, Bw x) (z : Int) (hz : cnt 4 m.l m.l.length = z) (hz2 : 0 ≤ z ∧ z ≤ 1000) (hr : 0 ≤ m.r ∧ m.r ≤ 100000) (hb : 0 ≤ m.b ∧ m.b ≤ 100000) (hro : 0 ≤ m.r - (z - m.b))
    (hs : shB c m.l (m.r - (z - m.b)) = false) (hM : MpAt w x3 d 0) (h4 : Blk w x4 4 c4) (h4c : ∀ j, j < c.nb → c4[j]? = some (.bool false)) (sg : Bool) :
    Calls Tryz.prog 68 #[.pointer (some ⟨F, 0, none⟩), .bool sg] w fun e w' => e = .returned (.int .i64 0) ∧ Below w.heap.size w w' := by
  have hnb : c.nb < 129 := hc.good.2.1
  have HR : Hid (∀ W, Below w.heap.size w W → Calls Tryz.prog 16 #[.pointer (some ⟨F, 0, none⟩)] W fun e w' => e = .returned (.bool false) ∧ Below W.heap.size W w') := Lib.hid fun W hW => by
    have hF' := hF.below hW hF.lt
    have q := freadOnly_any (h.below hW) z hz hz2 hr hb (F := F) (st := false) (fa := none) (nf := 0) (cf := 0) (hF'.cell 1) (hF'.cell 6) (hF'.cell 15)
    refine q.mono ?_
    rintro e w' ⟨rfl, hb'⟩
    refine ⟨?_, hb'⟩
    have : decide (m.r - (z - m.b) < ((0 : Nat) : Int)) = false := decide_eq_false (by omega)
    rw [this]; rfl
  have HD := Lib.hid (fun W (hW : Below w.heap.size w W) => fdue_none (hF.below hW hF.lt) rfl rfl rfl (hM.below hW) (h4.below hW h4.lt) h4c (by omega) sg)
  have HS : Hid (∀ W, Below w.heap.size w W → Calls Tryz.prog 102 #[.pointer (some ⟨F, 0, none⟩)] W fun e w' => e = .returned (.bool false) ∧ Below W.heap.size W w') := Lib.hid fun W hW => by
    have q := fshort_any (h.below hW) (hc.below hW) hp hn ((hF.below hW hF.lt).cell 1) hB z hz hz2 hr hb
    rw [hs] at q
    exact q
  have HC : Hid (∀ W, Below w.heap.size w W → W.cell? ⟨F, 15, none⟩ = some (.slice none 0 0) ∧ W.cell? ⟨F, 16, none⟩ = some (.bool false)) := Lib.hid fun W hW => ⟨(hF.below hW hF.lt).cell 15, (hF.below hW hF.lt).cell 16⟩
  clear h hc hp hn hF hB hz hz2 hr hb hro hs hM h4 h4c
  go_enter Tryz.func68, Tryz.ntmps68
  go_wp2_with fail
  go_step3
  go_wp2_with fail
  go_step3
  go_wp2_with fail
  refine wp_loop_once ?_
  go_wp2_with fail
  refine (HR.out w (Below.refl _ _)).mono ?_
  rintro e w1 ⟨rfl, hb1⟩
  have HD1 := Lib.hid (HD.out w1 hb1)
  have HB1 := Lib.hid hb1
  clear hb1 HR HD
  go_wp2_with fail
  refine HD1.out.mono ?_
  rintro e w2 ⟨rfl, hb2⟩
  have hb2' := HB1.out.trans (hb2.mono HB1.out.size)
  obtain ⟨c15, c16⟩ := HC.out w2 hb2'
  have HS2 := Lib.hid (HS.out w2 hb2')
  have HB2 := Lib.hid hb2'
  clear hb2 hb2' HS HC HB1 HD1
  go_wp2_with fail
  refine HS2.out.mono ?_
  rintro e w3 ⟨rfl, hb3⟩
  have HB3 := Lib.hid (HB2.out.trans (hb3.mono HB2.out.size))
  clear hb3 HS2 HB2
  go_wp2
  rw [Exit.noGoto_ret]
  go_ret
  exact ⟨rfl, HB3.out⟩
end Go.Proofs.YtbfifppdcmimaaaGreat
