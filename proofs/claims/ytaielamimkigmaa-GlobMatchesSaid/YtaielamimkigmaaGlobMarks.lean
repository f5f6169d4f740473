/-
  The document's marks of a part.
-/
import Derived.Test.YtaielamimkigmaaGlobMk
namespace Go.Proofs.Ytaielamimkigmaa
open Go.RowKit Go.ChangeShapes Globm Go.ChangeMaps

/-- what the document hands back of a part -/
def mkV (base : Nat) : Option (List (Mk Nat)) → Value → World → Prop
  | none, v, _ => v = .tuple #[.slice none 0 0, .bool false]
  | some l, v, w => ∃ A cap, v = .tuple #[.slice A l.length cap, .bool true] ∧ w.ownsRow base 84 257 (.slice A l.length cap) l.length (mcl l) ∧ l.length ≤ 64
theorem own_form257 {w : World} {base k : Nat} {v : Value} {xs : List Value} {e : TypeId} (h : w.ownsRow base e 257 v k xs) : ∃ a c, v = .slice a k c := by
  rcases h.2 with ⟨rfl, rfl⟩ | ⟨g, cap, cur, rfl, _⟩
  · exact ⟨none, 0, rfl⟩
  · exact ⟨_, cap, rfl⟩
theorem midM {w : World} {g : Nat} {t : TypeId} {b : Bool} {P Q : Nat → Bool} (h : Blk w g t (mA b Q)) : Sem.run Try.prog (storeCells ⟨g, 1, none⟩ (bA P).toList) w = .ok () (w.setRow g (mA b P)) := by
  have h2 := run_storeCells_at (P := Try.prog) g 1 t (bA P).toList 0 (mA b Q) w h (by rw [Array.length_toList, bA_size, mA_size]; decide) (fun v hv => by
    have h := bA_one P
    rw [Array.all_eq_true_iff_forall_mem] at h
    exact h v (by simpa using hv))
  rw [show (mA b P) = ((mA b Q).toList.take (1 + 0) ++ (bA P).toList ++ (mA b Q).toList.drop (1 + 0 + (bA P).toList.length)).toArray by
    rw [Array.length_toList, bA_size]
    have e : ∀ R : Nat → Bool, (mA b R).toList = .bool b :: (bA R).toList := fun R => by simp [mA, bA]
    apply Array.toList_inj.1
    rw [e, e]
    show _ = [Value.bool b] ++ (bA P).toList ++ (bA Q).toList.drop 256
    rw [List.drop_eq_nil_of_le (by rw [Array.length_toList, bA_size]; decide)]
    simp]
  exact h2
theorem mem_suf : ∀ (n : Nat) (l : List Nat) (P : Nat → Bool) (any : Bool) (Q : Nat → Bool) (r : List Nat), l.length ≤ n → mem l P any = some (Q, r) → ∃ j, r = l.drop j := by
  intro n
  induction n with
  | zero =>
    intro l P any Q r hl h
    obtain rfl : l = [] := List.eq_nil_of_length_eq_zero (by omega)
    rw [mem_nil] at h; cases h
  | succ n ih =>
    intro l P any Q r hl h
    match l, hl with
    | [], _ => rw [mem_nil] at h; cases h
    | a :: l, hl =>
      rw [mem] at h
      simp only [List.length_cons] at hl
      split at h
      · split at h
        · injection h with h; injection h with _ h; subst h; exact ⟨1, rfl⟩
        · cases h
      · split at h
        · obtain ⟨j, e⟩ := ih _ _ _ _ _ (by rw [List.length_drop]; omega) h
          exact ⟨j + 2 + 1, by rw [e, List.drop_drop, List.drop_succ_cons]; congr 1; omega⟩
        · obtain ⟨j, e⟩ := ih _ _ _ _ _ (by omega) h
          exact ⟨j + 1, by rw [e, List.drop_succ_cons]⟩
theorem sect_suf {l : List Nat} {Q : Nat → Bool} {r : List Nat} (h : sect l = some (Q, r)) : r = l.drop (l.length - r.length) := by
  have : ∃ j, r = l.drop j := by
    unfold sect at h
    split at h
    · rcases hm : mem (l.drop 1) (fun _ => false) false with _ | ⟨Q', r'⟩
      · rw [hm] at h; cases h
      · rw [hm] at h
        obtain ⟨j, e⟩ := mem_suf _ _ _ _ _ _ (Nat.le_refl _) hm
        simp only [Option.map_some, Option.some.injEq, Prod.mk.injEq] at h
        obtain ⟨_, rfl⟩ := h
        exact ⟨j + 1, by rw [e, List.drop_drop]; congr 1; omega⟩
    · exact mem_suf _ _ _ _ _ _ (Nat.le_refl _) h
  obtain ⟨j, rfl⟩ := this
  rw [List.length_drop]
  rcases Nat.lt_or_ge l.length j with hj | hj
  · rw [List.drop_eq_nil_of_le (by omega), List.drop_eq_nil_of_le (by omega)]
  · congr 1; omega
theorem storn84 (w : World) (Q : Nat → Bool) : Sem.run Try.prog (storeCells ⟨w.heap.size, 0, none⟩ (mA false Q).toList) (w.alloc (.cells Try.zeroCells84 84)) = .ok () (w.alloc (.cells (mA false Q) 84)) :=
  run_storeCells_new w 84 _ _ (by rw [mA_size]; exact size84) (by rw [zero84, mA_size, mA_size]) (mA_one _ _)
theorem gmk_one (P : Nat → Bool) : gmk (.one P : Mk Nat) = mA false P := rfl
theorem gmk_many : gmk (.many : Mk Nat) = mA true (fun _ => false) := rfl

set_option maxRecDepth 100000 in
set_option maxHeartbeats 8000000 in
theorem marks_any (s : ByteArray) (w : World) :
    Calls Try.prog 26 #[.string s] w fun e w' => (∃ v, e = .returned v ∧ mkV w.heap.size (marks (by8 s)) v w') ∧ Below w.heap.size w w' := by
  by_cases h : 1 ≤ s.size ∧ s.size ≤ 64
  · have h2 : (s.size : Int) ≤ 64 := by omega
    have hm := marks_prs (l := by8 s) (by rw [by8_length]; exact h.1) (by rw [by8_length]; exact h.2)
    obtain ⟨res, hres⟩ : ∃ res, prs 64 (by8 s) = res := ⟨_, rfl⟩
    rw [hm, hres]
    have HRes := Lib.hid hres
    have f1 : decide ((s.size : Int) < 1) = false := by simp; omega
    have f2 : decide ((64 : Int) < (s.size : Int)) = false := by simp; omega
    have HLen : Hid (s.size ≤ 64) := Lib.hid h.2
    clear hm hres h
    go_enter Try.func26, Try.ntmps26
    go_wp2_with fail
    go_loopw [4, 5] (fun y x wr => ∃ (k n : Nat) (A : Option Addr) (ca : Nat), x = .int .i64 k ∧ y = .slice A n ca ∧ k ≤ s.size ∧ n + (s.size - k) ≤ 64 ∧ Hid (∃ l : List (Mk Nat), l.length = n ∧ (prs 64 ((by8 s).drop k)).map (l ++ ·) = res ∧ wr.ownsRow w.heap.size 84 257 (.slice A n ca) n (mcl l)) ∧ Hid (Below w.heap.size w wr)) (fun _ x _ => s.size - (intOf x).toNat)
    case atStart => exact ⟨0, 0, none, 0, rfl, rfl, by omega, by have := HLen.out; omega, Lib.hid ⟨[], rfl, by rw [List.drop_zero, HRes.out]; cases res <;> rfl, World.ownsRow_nil _ _ _ _⟩, Lib.hid (Below.refl _ _)⟩
    case round =>
      obtain ⟨k, n, A, ca, rfl, rfl, hk, hn64, hL, hB⟩ := hrel
      clear f1 f2
      by_cases hlt : k < s.size
      · have hltI : (k : Int) < (s.size : Int) := by omega
        have ha := by8_drop hlt
        have h256 : s[k].toNat < 256 := UInt8.toNat_lt _
        have hw : w.heap.size ≤ wr.heap.size := hB.out.size
        have F := store84 wr
        have B1 : Blk (wr.alloc (.cells Try.zeroCells84 84)) wr.heap.size 84 (mA false (fun _ => false)) := by
          have h := Blk.new wr 84 Try.zeroCells84
          rw [zero84] at h ⊢
          exact h
        have LB := Lib.hid (hB.out.alloc hB.out.size (.cells Try.zeroCells84 84))
        have hpc := prs_cons 63 (a := s[k].toNat) (l := (by8 s).drop (k + 1)) (by rw [List.length_drop, by8_length]; have := HLen.out; omega)
        rw [fst1_cons] at hpc
        clear HRes
        by_cases h42 : s[k].toNat = 42
        ·
          have e42 : ((s[k].toNat : Int) == 42) = true := by rw [h42]; rfl
          have e63 : ((s[k].toNat : Int) == 63) = false := by rw [h42]; rfl
          have hc : (wr.alloc (.cells Try.zeroCells84 84)).cell? ⟨wr.heap.size, 0, none⟩ = some (.bool false) := by rw [B1.cell, mA_get0]
          have hfz := B1.frozen 0

          have HStep : Hid (∃ l : List (Mk Nat), l.length = n ∧ (prs 64 ((by8 s).drop (k + 1))).map (l ++ [.many] ++ ·) = res ∧ wr.ownsRow w.heap.size 84 257 (.slice A n ca) n (mcl l)) := Lib.hid (by
            obtain ⟨l, e1, e2, e3⟩ := hL.out
            refine ⟨l, e1, ?_, e3⟩
            rw [← e2, ha, hpc, if_pos h42]
            show _ = Option.map (l ++ ·) ((prs 64 ((by8 s).drop (k + 1))).map (.many :: ·))
            cases prs 64 ((by8 s).drop (k + 1)) <;> simp)
          obtain ⟨l, hlk, hlres, hown⟩ := HStep.out
          have HLk := Lib.hid hlk
          have HLr := Lib.hid hlres
          have HOwn := Lib.hid hown
          clear hlk hlres hown HStep hL hpc ha


          have HZ : Hid (Try.zeroCells84.setIfInBounds 0 (.bool true) = gmk (.many)) := Lib.hid (by
            rw [zero84, mA_set0, gmk_many])
          clear h42

          have BM : Hid (Blk (wr.alloc (.cells (gmk (.many)) 84)) wr.heap.size 84 (gmk (.many))) := Lib.hid (Blk.new _ _ _)
          have LM : Hid (Below w.heap.size w (wr.alloc (.cells (gmk (.many)) 84))) := Lib.hid (hB.out.alloc hB.out.size _)
          have OM : Hid (World.ownsRow (wr.alloc (.cells (gmk (.many)) 84)) w.heap.size 84 257 (.slice A n ca) n (mcl l)) := Lib.hid (HOwn.out.alloc _)
          go_wp2_with fail
          rw [HZ.out]

          refine wp_load_row 84 _ rfl (wr.heap.size) rfl 84 (gmk (.many)) (0, 0) _ BM.out Try.underlying84 rfl (by rw [gmk_size]; exact size84) ?_
          go_wp2_with (first | (refine buildM rfl _ rfl (.many) rfl ?_) | (at_builtin; refine appM rfl _ _ rfl w.heap.size _ n _ rfl (OM.out.alloc _) (wr.alloc (.cells (gmk (.many)) 84)).heap.size 1 (.many) rfl (Blk.new _ _ _) (by omega) (by rw [World.size_alloc]; have := LM.out.size; omega) ?_; intro v' w' hown' hb' hg'))
          obtain ⟨Z, cz, rfl⟩ := own_form257 hown'
          rw [← mcl_snoc] at hown'
          refine ⟨⟨k + 1, n + 1, Z, cz, by go_num, rfl, by omega, by omega, Lib.hid ⟨l ++ [.many], by simp [HLk.out], HLr.out, hown'⟩, Lib.hid ((LM.out.alloc LM.out.size _).trans hb')⟩, by simp only [intOf]; omega⟩

        · by_cases h63 : s[k].toNat = 63
          ·
            have e63 : ((s[k].toNat : Int) == 63) = true := by rw [h63]; rfl

            have HStep : Hid (∃ l : List (Mk Nat), l.length = n ∧ (prs 64 ((by8 s).drop (k + 1))).map (l ++ [.one (sp 0 255)] ++ ·) = res ∧ wr.ownsRow w.heap.size 84 257 (.slice A n ca) n (mcl l)) := Lib.hid (by
              obtain ⟨l, e1, e2, e3⟩ := hL.out
              refine ⟨l, e1, ?_, e3⟩
              rw [← e2, ha, hpc, if_neg h42, if_pos h63]
              show _ = Option.map (l ++ ·) ((prs 64 ((by8 s).drop (k + 1))).map (.one (sp 0 255) :: ·))
              cases prs 64 ((by8 s).drop (k + 1)) <;> simp)
            obtain ⟨l, hlk, hlres, hown⟩ := HStep.out
            have HLk := Lib.hid hlk
            have HLr := Lib.hid hlres
            have HOwn := Lib.hid hown
            clear hlk hlres hown HStep hL hpc ha

            clear h42 h63
            have HA := Lib.hid (fun W => all_any W)
            have B1H := Lib.hid B1
            go_wp2_with fail
            refine (HA.out _).mono ?_
            rintro e w2 ⟨rfl, hb2⟩
            have b2 := B1H.out.below hb2 B1H.out.lt
            have HS := midM (P := fun _ => true) b2
            have BM : Hid (Blk (w2.setRow wr.heap.size (mA false (fun _ => true))) wr.heap.size 84 (gmk (.one (sp 0 255)))) := Lib.hid (by
              have e : gmk (.one (sp 0 255)) = mA false (fun _ => true) := by
                rw [gmk_one]
                exact mA_ext (fun i hi => by unfold sp; rw [decide_eq_true_iff]; omega)
              rw [e]
              exact bRow b2 _)
            have LM : Hid (Below w.heap.size w (w2.setRow wr.heap.size (mA false (fun _ => true)))) := Lib.hid (below_rowG (LB.out.trans (hb2.mono LB.out.size)) hw _)
            have OM : Hid (World.ownsRow (w2.setRow wr.heap.size (mA false (fun _ => true))) w.heap.size 84 257 (.slice A n ca) n (mcl l)) := Lib.hid (own_belowN HOwn.out (below_rowG (((Below.refl _ wr).alloc (Nat.le_refl _) _).trans (hb2.mono (by simp))) (Nat.le_refl _) _))
            clear hb2 b2 B1 F
            go_wp2_with fail

            refine wp_load_row 84 _ rfl (wr.heap.size) rfl 84 (gmk (.one (sp 0 255))) (0, 0) _ BM.out Try.underlying84 rfl (by rw [gmk_size]; exact size84) ?_
            go_wp2_with (first | (refine buildM rfl _ rfl (.one (sp 0 255)) rfl ?_) | (at_builtin; refine appM rfl _ _ rfl w.heap.size _ n _ rfl (OM.out.alloc _) (w2.setRow wr.heap.size (mA false (fun _ => true))).heap.size 1 (.one (sp 0 255)) rfl (Blk.new _ _ _) (by omega) (by rw [World.size_alloc]; have := LM.out.size; omega) ?_; intro v' w' hown' hb' hg'))
            obtain ⟨Z, cz, rfl⟩ := own_form257 hown'
            rw [← mcl_snoc] at hown'
            refine ⟨⟨k + 1, n + 1, Z, cz, by go_num, rfl, by omega, by omega, Lib.hid ⟨l ++ [.one (sp 0 255)], by simp [HLk.out], HLr.out, hown'⟩, Lib.hid ((LM.out.alloc LM.out.size _).trans hb')⟩, by simp only [intOf]; omega⟩

          · by_cases h91 : s[k].toNat = 91
            ·
              have e42 : ((s[k].toNat : Int) == 42) = false := by rw [h91]; rfl
              have e63 : ((s[k].toNat : Int) == 63) = false := by rw [h91]; rfl
              have e91 : ((s[k].toNat : Int) == 91) = true := by rw [h91]; rfl
              have h0k : (0 : Int) ≤ (k : Int) + 1 := by omega
              have hk1 : (k : Int) + 1 ≤ (s.size : Int) := by omega
              obtain ⟨t, ht⟩ : ∃ t, s.extract (k + 1) s.size = t := ⟨_, rfl⟩
              have htz : t.size = s.size - (k + 1) := by rw [← ht]; simp
              have hfrom := by8_from s (k + 1)
              rw [ht] at hfrom
              have HG := Lib.hid (fun W => group_any t W (by omega))
              have HSl : ∀ W, Sem.run Try.prog (Instr.slice 9 (Value.string s) (some (Value.int IntKind.i64 ((k : Int) + 1))) none none) W = .ok (.string t) W := fun W => by
                have h := run_slice_string_from_if (P := Try.prog) (w := W) 9 s .i64 ((k : Int) + 1) (by rfl)
                rw [if_pos ⟨h0k, hk1⟩, show ((k : Int) + 1).toNat = k + 1 by omega, ht] at h
                exact h
              have B1H := Lib.hid B1
              have HWr := Lib.hid hw
              rw [if_neg (by omega), if_neg (by omega), if_pos h91] at hpc
              rw [hfrom] at HG
              rcases hsec : sect ((by8 s).drop (k + 1)) with _ | ⟨P, r⟩
              · rw [hsec] at HG hpc
                have HN : Hid (res = none) := Lib.hid (by
                  obtain ⟨l, _, e2, _⟩ := hL.out
                  rw [← e2, ha, hpc]; rfl)
                simp only [grpV] at HG
                clear ha hpc hL hsec hfrom ht B1 h42 h63 h91
                go_wp2_with fail
                refine (HG.out _).mono ?_
                rintro e w2 ⟨rfl, hb2⟩
                have HS := storn84 w2 (fun _ => false)
                have HB2 := Lib.hid ((LB.out.trans (hb2.mono LB.out.size)).alloc (LB.out.trans (hb2.mono LB.out.size)).size (.cells (mA false (fun _ => false)) 84))
                clear hb2 F
                go_wp2_with fail
                go_ret2
                rw [HN.out]
                exact ⟨⟨_, rfl, rfl⟩, HB2.out⟩
              · rw [hsec] at HG hpc
                have hrl := sect_len hsec
                have hrs := sect_suf hsec
                rw [← hfrom, by8_length] at hrl hrs
                simp only [grpV] at HG
                obtain ⟨N, hN⟩ : ∃ N, t.size - 1 - r.length = N := ⟨_, rfl⟩
                rw [hN] at HG
                have hN2 : N + r.length + 1 = t.size := by omega
                have hrs2 : r = (by8 s).drop (k + 2 + N) := by
                  rw [hrs, hfrom, List.drop_drop]
                  congr 1
                  omega
                have HStep : Hid (∃ l : List (Mk Nat), l.length = n ∧ (prs 64 ((by8 s).drop (k + 2 + N))).map (l ++ [.one P] ++ ·) = res ∧ wr.ownsRow w.heap.size 84 257 (.slice A n ca) n (mcl l)) := Lib.hid (by
                  obtain ⟨l, e1, e2, e3⟩ := hL.out
                  refine ⟨l, e1, ?_, e3⟩
                  rw [← e2, ha, hpc, ← hrs2]
                  show _ = Option.map (l ++ ·) ((prs 64 r).map (.one P :: ·))
                  cases prs 64 r <;> simp)
                obtain ⟨l, hlk, hlres, hown⟩ := HStep.out
                have HLk := Lib.hid hlk
                have HLr := Lib.hid hlres
                have HOwn := Lib.hid hown
                have hN0 : ¬ (N : Int) < 0 := by omega
                have hkN : k + 2 + N ≤ s.size := by omega
                clear hlk hlres hown HStep hL hpc ha hrs2 hrs hrl hN hN2 hsec hfrom ht B1 h42 h63 h91 htz
                go_wp2_with fail
                refine (HG.out _).mono ?_
                rintro e w2 ⟨rfl, hb2⟩
                have HS := storn84 w2 P
                have b2 := B1H.out.below hb2 B1H.out.lt
                have hlt2 : wr.heap.size < w2.heap.size := b2.lt
                have b3 := b2.alloc (.cells (mA false P) 84)
                have HS2 := storc84 (c := false) (Q := P) b3
                have BM : Hid (Blk ((w2.alloc (.cells (mA false P) 84)).setRow wr.heap.size (mA false P)) wr.heap.size 84 (gmk (.one P))) := Lib.hid (bRow b3 _)
                have L3 := (LB.out.trans (hb2.mono LB.out.size)).alloc (LB.out.trans (hb2.mono LB.out.size)).size (.cells (mA false P) 84)
                have LM : Hid (Below w.heap.size w ((w2.alloc (.cells (mA false P) 84)).setRow wr.heap.size (mA false P))) := Lib.hid (below_rowG L3 HWr.out _)
                have OM : Hid (World.ownsRow ((w2.alloc (.cells (mA false P) 84)).setRow wr.heap.size (mA false P)) w.heap.size 84 257 (.slice A n ca) n (mcl l)) := Lib.hid (own_belowN HOwn.out (below_rowG ((((Below.refl _ wr).alloc (Nat.le_refl _) _).trans (hb2.mono (by simp))).alloc (by omega) _) (Nat.le_refl _) _))
                have bx := Lib.hid (Blk.new w2 84 (mA false P))
                clear hb2 b2 b3 F L3
                go_wp2_with fail
                refine wp_load_row 84 _ rfl (w2.heap.size) rfl 84 (mA false P) (0, 0) _ bx.out Try.underlying84 rfl (by rw [mA_size]; exact size84) ?_
                go_wp2_with fail
                refine wp_load_row 84 _ rfl (wr.heap.size) rfl 84 (gmk (.one P)) (0, 0) _ BM.out Try.underlying84 rfl (by rw [gmk_size]; exact size84) ?_
                go_wp2_with (first | (refine buildM rfl _ rfl (.one P) rfl ?_) | (at_builtin; refine appM rfl _ _ rfl w.heap.size _ n _ rfl (OM.out.alloc _) ((w2.alloc (.cells (mA false P) 84)).setRow wr.heap.size (mA false P)).heap.size 1 (.one P) rfl (Blk.new _ _ _) (by omega) (by rw [World.size_alloc]; have := LM.out.size; omega) ?_; intro v' w' hown' hb' hg'))
                obtain ⟨Z, cz, rfl⟩ := own_form257 hown'
                rw [← mcl_snoc] at hown'
                refine ⟨⟨k + 2 + N, n + 1, Z, cz, by go_num, rfl, by omega, by omega, Lib.hid ⟨l ++ [.one P], by simp [HLk.out], HLr.out, hown'⟩, Lib.hid ((LM.out.alloc LM.out.size _).trans hb')⟩, by simp only [intOf]; omega⟩

            ·
              have e42 : ((s[k].toNat : Int) == 42) = false := by simp; omega
              have e63 : ((s[k].toNat : Int) == 63) = false := by simp; omega
              have e91 : ((s[k].toNat : Int) == 91) = false := by simp; omega
              have hc : (wr.alloc (.cells Try.zeroCells84 84)).cell? ⟨wr.heap.size, 1 + s[k].toNat, none⟩ = some (.bool false) := by rw [B1.cell, Nat.add_comm, mA_get _ _ h256]
              have hfz := B1.frozen (1 + s[k].toNat)

              have HStep : Hid (∃ l : List (Mk Nat), l.length = n ∧ (prs 64 ((by8 s).drop (k + 1))).map (l ++ [.one (sp s[k].toNat s[k].toNat)] ++ ·) = res ∧ wr.ownsRow w.heap.size 84 257 (.slice A n ca) n (mcl l)) := Lib.hid (by
                obtain ⟨l, e1, e2, e3⟩ := hL.out
                refine ⟨l, e1, ?_, e3⟩
                rw [← e2, ha, hpc, if_neg h42, if_neg h63, if_neg h91]
                show _ = Option.map (l ++ ·) ((prs 64 ((by8 s).drop (k + 1))).map (.one (sp s[k].toNat s[k].toNat) :: ·))
                cases prs 64 ((by8 s).drop (k + 1)) <;> simp)
              obtain ⟨l, hlk, hlres, hown⟩ := HStep.out
              have HLk := Lib.hid hlk
              have HLr := Lib.hid hlres
              have HOwn := Lib.hid hown
              clear hlk hlres hown HStep hL hpc ha


              have HZ : Hid (Try.zeroCells84.setIfInBounds (1 + s[k].toNat) (.bool true) = gmk (.one (sp s[k].toNat s[k].toNat))) := Lib.hid (by
                rw [zero84, Nat.add_comm 1 s[k].toNat, mA_set, gmk_one]
                apply mA_ext
                intro i _
                unfold sp
                by_cases e : i = s[k].toNat
                · rw [if_pos e]; symm; rw [decide_eq_true_iff]; omega
                · rw [if_neg e]; symm; rw [decide_eq_false_iff_not]; omega)
              clear h42 h63 h91

              have BM : Hid (Blk (wr.alloc (.cells (gmk (.one (sp s[k].toNat s[k].toNat))) 84)) wr.heap.size 84 (gmk (.one (sp s[k].toNat s[k].toNat)))) := Lib.hid (Blk.new _ _ _)
              have LM : Hid (Below w.heap.size w (wr.alloc (.cells (gmk (.one (sp s[k].toNat s[k].toNat))) 84))) := Lib.hid (hB.out.alloc hB.out.size _)
              have OM : Hid (World.ownsRow (wr.alloc (.cells (gmk (.one (sp s[k].toNat s[k].toNat))) 84)) w.heap.size 84 257 (.slice A n ca) n (mcl l)) := Lib.hid (HOwn.out.alloc _)
              go_wp2_with fail
              rw [HZ.out]

              refine wp_load_row 84 _ rfl (wr.heap.size) rfl 84 (gmk (.one (sp s[k].toNat s[k].toNat))) (0, 0) _ BM.out Try.underlying84 rfl (by rw [gmk_size]; exact size84) ?_
              go_wp2_with (first | (refine buildM rfl _ rfl (.one (sp s[k].toNat s[k].toNat)) rfl ?_) | (at_builtin; refine appM rfl _ _ rfl w.heap.size _ n _ rfl (OM.out.alloc _) (wr.alloc (.cells (gmk (.one (sp s[k].toNat s[k].toNat))) 84)).heap.size 1 (.one (sp s[k].toNat s[k].toNat)) rfl (Blk.new _ _ _) (by omega) (by rw [World.size_alloc]; have := LM.out.size; omega) ?_; intro v' w' hown' hb' hg'))
              obtain ⟨Z, cz, rfl⟩ := own_form257 hown'
              rw [← mcl_snoc] at hown'
              refine ⟨⟨k + 1, n + 1, Z, cz, by go_num, rfl, by omega, by omega, Lib.hid ⟨l ++ [.one (sp s[k].toNat s[k].toNat)], by simp [HLk.out], HLr.out, hown'⟩, Lib.hid ((LM.out.alloc LM.out.size _).trans hb')⟩, by simp only [intOf]; omega⟩
      · have hke : k = s.size := by omega
        have HEnd : Hid (∃ l : List (Mk Nat), l.length = n ∧ res = some l ∧ wr.ownsRow w.heap.size 84 257 (.slice A n ca) n (mcl l)) := Lib.hid (by
          obtain ⟨l, e1, e2, e3⟩ := hL.out
          exact ⟨l, e1, by rw [← e2, List.drop_eq_nil_of_le (by rw [by8_length]; omega), prs_nil]; simp, e3⟩)
        have hk64 : Hid (n ≤ 64) := Lib.hid (by omega)
        have hltI : ¬ (k : Int) < (s.size : Int) := by omega
        clear hL hke hlt hn64
        go_wp2_with fail
        go_ret2
        obtain ⟨l, rfl, rfl, e3⟩ := HEnd.out
        exact ⟨⟨_, rfl, A, ca, rfl, e3, hk64.out⟩, hB.out⟩
  · have hm : marks (by8 s) = none := by
      unfold marks
      rw [if_neg (by rw [by8_length]; exact h)]
    rw [hm]
    rcases (by omega : s.size < 1 ∨ (1 ≤ s.size ∧ 64 < s.size)) with h1 | ⟨h1, h2⟩
    · have f1 : decide ((s.size : Int) < 1) = true := by simp; omega
      clear h hm h1
      go_enter Try.func26, Try.ntmps26
      go_wp2_with fail
      go_ret2
      exact ⟨⟨_, rfl, rfl⟩, Below.refl _ _⟩
    · have f1 : decide ((s.size : Int) < 1) = false := by simp; omega
      have f2 : decide ((64 : Int) < (s.size : Int)) = true := by simp; omega
      clear h hm h1 h2
      go_enter Try.func26, Try.ntmps26
      go_wp2_with fail
      go_ret2
      exact ⟨⟨_, rfl, rfl⟩, Below.refl _ _⟩
end Go.Proofs.Ytaielamimkigmaa
