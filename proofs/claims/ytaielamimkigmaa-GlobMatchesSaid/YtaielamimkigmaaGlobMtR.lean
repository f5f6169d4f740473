/-
  The document's marks over a name: its table, walked.
-/
import Derived.Test.YtaielamimkigmaaGlobMt
namespace Go.Proofs.Ytaielamimkigmaa
open Go.RowKit Go.ChangeShapes Globm Go.ChangeMaps

set_option maxRecDepth 100000 in
set_option maxHeartbeats 8000000 in
theorem matchesR_any (l : List (Mk Nat)) (A : Option Addr) (n cap : Nat) (s : ByteArray) (w : World) (hr : RM w A l) (hl : l.length = n) (hn : n ≤ 1000) (hs : s.size ≤ 1000) :
    Calls Try.prog 27 #[.slice A n cap, .string s] w fun e w' => e = .returned (.bool (cv l (by8 s) (fun _ => false) 0 0)) ∧ Below w.heap.size w w' := by
  have hsI : (s.size : Int) ≤ 1000 := by omega
  have hnI : (n : Int) ≤ 1000 := by omega
  have HR := Lib.hid hr
  have HL := Lib.hid hl
  have hmk : ∀ W, Sem.run Try.prog (Instr.makeSlice 88 (.int .i64 ((s.size : Int) + 1)) (.int .i64 ((s.size : Int) + 1))) W = .ok (.slice (some ⟨W.heap.size, 0, none⟩) (s.size + 1) (s.size + 1)) (W.alloc (.cells (bN (s.size + 1) (fun _ => false)) 4)) := fun W => by
    have h := mkB (s.size + 1) (by omega) W
    simpa using h
  clear hr hl hs hn
  go_enter Try.func27, Try.ntmps27
  have B0 := Blk.new w 4 (bN (s.size + 1) (fun _ => false))
  have hc0 : (w.alloc (.cells (bN (s.size + 1) (fun _ => false)) 4)).cell? ⟨w.heap.size, 0, none⟩ = some (.bool false) := by rw [B0.cell, bN_get _ (by omega)]
  have hf0 := B0.frozen 0
  have hz1 : (0 : Int) < (s.size : Int) + 1 := by omega
  have HS0 : Hid ((bN (s.size + 1) (fun _ => false)).setIfInBounds 0 (.bool true) = bN (s.size + 1) (tb l (by8 s) 0)) := Lib.hid (by
    rw [bN_set]
    apply bN_ext
    intro i hi
    rw [tb_zero (by rw [by8_length]; omega)]
    by_cases e : i = 0
    · rw [if_pos e, decide_eq_true e]
    · rw [if_neg e, decide_eq_false e])
  have HB0 : Hid (Blk (w.alloc (.cells (bN (s.size + 1) (tb l (by8 s) 0)) 4)) w.heap.size 4 (bN (s.size + 1) (tb l (by8 s) 0))) := Lib.hid (Blk.new _ _ _)
  have HL0 : Hid (Below w.heap.size w (w.alloc (.cells (bN (s.size + 1) (tb l (by8 s) 0)) 4))) := Lib.hid ((Below.refl _ _).alloc (Nat.le_refl _) _)
  go_wp2_with fail
  rw [HS0.out]
  clear hc0 hf0 B0
  go_loopw [5, 6] (fun v iv wr => ∃ (i g : Nat), v = .slice (some ⟨g, 0, none⟩) (s.size + 1) (s.size + 1) ∧ iv = .int .i64 i ∧ i ≤ n ∧ Hid (w.heap.size ≤ g) ∧ Hid (Blk wr g 4 (bN (s.size + 1) (tb l (by8 s) i))) ∧ Hid (Below w.heap.size w wr)) (fun _ iv _ => n - (intOf iv).toNat)
  case atStart => exact ⟨0, w.heap.size, rfl, rfl, by omega, Lib.hid (Nat.le_refl _), HB0, HL0⟩
  case round =>
    obtain ⟨i, g, rfl, rfl, hi, hg, B, L⟩ := hrel
    clear HB0 HL0 HS0
    by_cases hlt : i < n
    · have hltI : (i : Int) < (n : Int) := by omega
      obtain ⟨x, hx⟩ : ∃ x, l[i]? = some x := ⟨l[i]'(by have := HL.out; omega), List.getElem?_eq_getElem _⟩
      have HX := Lib.hid hx
      rcases HR.out.below L.out with h0 | ⟨b, off, rfl, hcl⟩
      · rw [h0] at hx; simp at hx
      have HC := Lib.hid (fun c (hc : c < 257) => hcl i x c hx hc)
      have hgl : g < wr.heap.size := B.out.lt
      obtain ⟨G, hG⟩ : ∃ G, wr.heap.size = G := ⟨_, rfl⟩
      have HB1 : Hid (Blk (wr.alloc (.cells (bN (s.size + 1) (fun _ => false)) 4)) g 4 (bN (s.size + 1) (tb l (by8 s) i))) := Lib.hid (B.out.alloc _)
      have HN1 : Hid (Blk (wr.alloc (.cells (bN (s.size + 1) (fun _ => false)) 4)) G 4 (bN (s.size + 1) (fun y => if y < 0 then tb l (by8 s) (i + 1) y else false))) := Lib.hid (by
        have h := Blk.new wr 4 (bN (s.size + 1) (fun _ => false))
        rw [hG] at h
        rw [bN_ext (g := fun _ => false) (fun y _ => if_neg (by omega))]
        exact h)
      have HL1 : Hid (Below w.heap.size w (wr.alloc (.cells (bN (s.size + 1) (fun _ => false)) 4))) := Lib.hid (L.out.alloc L.out.size _)
      have HC1 : Hid (∀ c, c < 257 → (wr.alloc (.cells (bN (s.size + 1) (fun _ => false)) 4)).cell? ⟨b, off + i * 257 + c, none⟩ = (gmk x)[c]?) := Lib.hid (fun c hc => by
        obtain ⟨v, hv⟩ := gmk_some x hc
        have h1 := (HC.out c hc).trans hv
        rw [hv]
        exact (((Below.refl _ wr).alloc (Nat.le_refl _) _).cell (p := ⟨b, off + i * 257 + c, none⟩) (block_lt_of_cell h1)).trans h1)
      have HbG : Hid (b < G ∧ w.heap.size ≤ G) := Lib.hid (by
        obtain ⟨v, hv⟩ := gmk_some x (c := 0) (by decide)
        have h1 := (HC.out 0 (by decide)).trans hv
        have h2 := block_lt_of_cell h1
        have h3 := L.out.size
        simp at h2; omega)
      have hgG : g ≠ G := by omega
      have HG := Lib.hid hG
      clear hcl hx HC B hgl hG
      go_wp2_with fail
      rw [HG.out]
      clear HG L
      go_loopw [8] (fun kv wr => ∃ (k : Nat), kv = .int .i64 k ∧ k ≤ s.size + 1 ∧ Hid (Blk wr g 4 (bN (s.size + 1) (tb l (by8 s) i))) ∧ Hid (Blk wr G 4 (bN (s.size + 1) (fun y => if y < k then tb l (by8 s) (i + 1) y else false))) ∧ Hid (Below w.heap.size w wr) ∧ Hid (∀ c, c < 257 → wr.cell? ⟨b, off + i * 257 + c, none⟩ = (gmk x)[c]?)) (fun kv _ => s.size + 1 - (intOf kv).toNat)
      case atStart => exact ⟨0, rfl, by omega, HB1, HN1, HL1, HC1⟩
      case round =>
        obtain ⟨k, rfl, hk, B, N, L, C⟩ := hrel
        clear HB1 HN1 HL1 HC1
        by_cases hks : k ≤ s.size
        · have hksI : (k : Int) ≤ (s.size : Int) := by omega
          have c0 := C.out 0 (by decide)
          rw [Nat.add_zero, show (gmk x)[0]? = some (.bool x.run) from mA_get0 _ _] at c0
          have cn : wr.cell? ⟨g, k, none⟩ = some (.bool (tb l (by8 s) i k)) := by rw [B.out.cell, bN_get _ (by omega)]
          have ct : wr.cell? ⟨G, k, none⟩ = some (.bool false) := by rw [N.out.cell, bN_get _ (by omega), if_neg (by omega)]
          have cf := N.out.frozen k
          have HK : ∀ v, Hid (tb l (by8 s) (i + 1) k = v) → Hid (Blk (wr.setCell ⟨G, k, none⟩ (.bool v)) g 4 (bN (s.size + 1) (tb l (by8 s) i))) ∧ Hid (Blk (wr.setCell ⟨G, k, none⟩ (.bool v)) G 4 (bN (s.size + 1) (fun y => if y < k + 1 then tb l (by8 s) (i + 1) y else false))) ∧ Hid (Below w.heap.size w (wr.setCell ⟨G, k, none⟩ (.bool v))) ∧ Hid (∀ c, c < 257 → (wr.setCell ⟨G, k, none⟩ (.bool v)).cell? ⟨b, off + i * 257 + c, none⟩ = (gmk x)[c]?) := fun v hv =>
            ⟨Lib.hid (B.out.far hgG _), Lib.hid (setB N.out hv.out), Lib.hid (L.out.setCell HbG.out.2 _), Lib.hid (fun c hc => by
              rw [World.cell?_setCell_other _ _ _ _ (by intro e; have := congrArg Addr.block e; have h2 := HbG.out.1; simp at this; omega)]
              exact C.out c hc)⟩
          cases x with
          | many =>
            rcases k with _ | k
            · cases ha : tb l (by8 s) i 0 with
              | true =>
                rw [ha] at cn
                have hv : Hid (tb l (by8 s) (i + 1) 0 = true) := Lib.hid ((tb_many0 HX.out).trans ha)
                obtain ⟨K1, K2, K3, K4⟩ := HK true hv
                clear HK ha hv B N L C
                go_wp2_with fail
                exact ⟨⟨1, rfl, by omega, K1, K2, K3, K4⟩, by simp only [intOf]; omega⟩
              | false =>
                rw [ha] at cn
                have hv : Hid (tb l (by8 s) (i + 1) 0 = false) := Lib.hid ((tb_many0 HX.out).trans ha)
                obtain ⟨K1, K2, K3, K4⟩ := HK false hv
                clear HK ha hv B N L C
                go_wp2_with fail
                exact ⟨⟨1, rfl, by omega, K1, K2, K3, K4⟩, by simp only [intOf]; omega⟩
            ·
              have hks2 : k < s.size := by omega
              have hbs := by8_get hks2
              have hcp : wr.cell? ⟨G, k, none⟩ = some (.bool (tb l (by8 s) (i + 1) k)) := by rw [N.out.cell, bN_get _ (by omega), if_pos (by omega)]
              have hm := tb_many HX.out hbs
              have hk0 : (0 : Int) < (k : Int) + 1 := by omega
              cases ha : tb l (by8 s) i (k + 1) with
              | true =>
                rw [ha] at cn hm
                have hv : Hid (tb l (by8 s) (i + 1) (k + 1) = true) := Lib.hid hm
                obtain ⟨K1, K2, K3, K4⟩ := HK true hv
                clear HK ha hm hbs hcp hv B N L C
                go_wp2_with fail
                exact ⟨⟨k + 2, by go_num, by omega, K1, K2, K3, K4⟩, by simp only [intOf]; omega⟩

              | false =>
                rw [ha] at cn hm
                cases hb : tb l (by8 s) (i + 1) k with
                | true =>
                  rw [hb] at hcp hm
                  have hv : Hid (tb l (by8 s) (i + 1) (k + 1) = true) := Lib.hid hm
                  obtain ⟨K1, K2, K3, K4⟩ := HK true hv
                  clear HK ha hm hbs hb hv B N L C
                  go_wp2_with fail
                  exact ⟨⟨k + 2, by go_num, by omega, K1, K2, K3, K4⟩, by simp only [intOf]; omega⟩

                | false =>
                  rw [hb] at hcp hm
                  have hv : Hid (tb l (by8 s) (i + 1) (k + 1) = false) := Lib.hid hm
                  obtain ⟨K1, K2, K3, K4⟩ := HK false hv
                  clear HK ha hm hbs hb hv B N L C
                  go_wp2_with fail
                  exact ⟨⟨k + 2, by go_num, by omega, K1, K2, K3, K4⟩, by simp only [intOf]; omega⟩
          | one P =>
            rcases k with _ | k
            · have hv : Hid (tb l (by8 s) (i + 1) 0 = false) := Lib.hid (tb_one0 HX.out)
              obtain ⟨K1, K2, K3, K4⟩ := HK false hv
              clear HK hv B N L C
              go_wp2_with fail
              go_region
              go_wp2_with fail
              exact ⟨⟨1, rfl, by omega, K1, K2, Lib.hid K3.out.drew, K4⟩, by simp only [intOf]; omega⟩
            · have hks2 : k < s.size := by omega
              have hks3 : (k : Int) < (s.size : Int) := by omega
              have hbs := by8_get hks2
              have h256 : s[k].toNat < 256 := UInt8.toNat_lt _
              have hcp : wr.cell? ⟨g, k, none⟩ = some (.bool (tb l (by8 s) i k)) := by rw [B.out.cell, bN_get _ (by omega)]
              have hm := tb_one HX.out hbs
              have hk0 : (0 : Int) < (k : Int) + 1 := by omega
              have hS := C.out (s[k].toNat + 1) (by omega)
              rw [show (gmk (.one P))[s[k].toNat + 1]? = some (.bool (P s[k].toNat)) from mA_get _ _ h256, show off + i * 257 + (s[k].toNat + 1) = off + i * 257 + 1 + s[k].toNat by omega] at hS
              cases ha : tb l (by8 s) i k with
              | false =>
                rw [ha] at hcp hm
                have hv : Hid (tb l (by8 s) (i + 1) (k + 1) = false) := Lib.hid hm
                obtain ⟨K1, K2, K3, K4⟩ := HK false hv
                clear HK ha hm hbs hv B N L C
                go_wp2_with fail
                go_region
                go_wp2_with fail
                exact ⟨⟨k + 2, by go_num, by omega, K1, K2, Lib.hid K3.out.drew, K4⟩, by simp only [intOf]; omega⟩

              | true =>
                rw [ha] at hcp hm
                cases hp : P s[k].toNat with
                | true =>
                  rw [hp] at hS hm
                  have hv : Hid (tb l (by8 s) (i + 1) (k + 1) = true) := Lib.hid hm
                  obtain ⟨K1, K2, K3, K4⟩ := HK true hv
                  clear HK ha hm hbs hp hv B N L C
                  go_wp2_with fail
                  go_region
                  go_wp2_with fail
                  exact ⟨⟨k + 2, by go_num, by omega, K1, K2, Lib.hid K3.out.drew, K4⟩, by simp only [intOf]; omega⟩

                | false =>
                  rw [hp] at hS hm
                  have hv : Hid (tb l (by8 s) (i + 1) (k + 1) = false) := Lib.hid hm
                  obtain ⟨K1, K2, K3, K4⟩ := HK false hv
                  clear HK ha hm hbs hp hv B N L C
                  go_wp2_with fail
                  go_region
                  go_wp2_with fail
                  exact ⟨⟨k + 2, by go_num, by omega, K1, K2, Lib.hid K3.out.drew, K4⟩, by simp only [intOf]; omega⟩
        · have hksI : ¬ (k : Int) ≤ (s.size : Int) := by omega
          have HN : Hid (Blk wr G 4 (bN (s.size + 1) (tb l (by8 s) (i + 1)))) := Lib.hid (by
            have h := N.out
            rw [bN_ext (g := tb l (by8 s) (i + 1)) (fun y hy => if_pos (by omega))] at h
            exact h)
          have HgG := Lib.hid HbG.out.2
          clear B N C
          go_wp2_with fail
          exact ⟨⟨i + 1, G, rfl, by go_num, by omega, HgG, HN, L⟩, by simp only [intOf]; omega⟩
    · have hltI : ¬ (i : Int) < (n : Int) := by omega
      have hin : i = l.length := by have := HL.out; omega
      have hc : wr.cell? ⟨g, s.size, none⟩ = some (.bool (tb l (by8 s) i s.size)) := by rw [B.out.cell, bN_get _ (by omega)]
      have hf := B.out.frozen s.size
      have HV : Hid (tb l (by8 s) i s.size = cv l (by8 s) (fun _ => false) 0 0) := Lib.hid (by
        rw [hin]
        have := tb_all (l := l) (s := by8 s)
        rw [by8_length] at this
        exact this)
      clear hin B
      go_wp2_with fail
      rw [HV.out]
      go_ret
      exact ⟨rfl, L.out⟩
end Go.Proofs.Ytaielamimkigmaa
