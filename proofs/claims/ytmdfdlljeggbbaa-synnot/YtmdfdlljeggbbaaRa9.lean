/- The landed reader: items. -/
import Derived.Test.YtmdfdlljeggbbaaRa8
set_option linter.unusedSimpArgs false
set_option linter.unusedVariables false
set_option maxRecDepth 100000
namespace Go.Proofs.Ytmdfdlljeggbbaa
open Go.RowKit
/-- What the items of a class come to. -/
def ItP (w : World) (g : Nat) (s : ByteArray) (v : Value) (F : C4 → C4) (R : Except Nat (C4 × List UInt8)) (e : Ending) (w' : World) : Prop :=
  match R with
  | .ok (c, r) => e = .returned (F c).v ∧ (∃ a', PA w' g s a' v r) ∧ w.grownBy w' (some g)
  | .error k => e = .panicked (mis ((s.size : Int) - (k : Int))) ∧ Stk w' g ∧ w.grownBy w' (some g)
/-- How it stands between two items. -/
def ItR (w : World) (g : Nat) (s : ByteArray) (v : Value) (B : Nat) (R : Except Nat (C4 × List UInt8)) (wr : World) : Prop :=
  ∃ (f : Nat) (k : C4) (l : List UInt8) (a : Nat), items f k l = R ∧ l.length < f ∧ k.ok ∧ PA wr g s a v l ∧ Hb wr B k ∧ Hb wr w.heap.size z4 ∧ w.grownBy wr (some g)
theorem items_end (f : Nat) (k : C4) (hf : 0 < f) : items f k [] = .error 0 := by
  cases f with
  | zero => omega
  | succ f => simp [items, rd1]
theorem items_stop (f : Nat) (k : C4) (r : List UInt8) (hf : 0 < f) : items f k (93 :: r) = .ok (k, r) := by
  cases f with
  | zero => omega
  | succ f => simp [items]
set_option maxHeartbeats 1000000 in
theorem items_no (g : Nat) (s : ByteArray) (a : Nat) (v : Value) (l : List UInt8) (hl : l.head? ≠ some 94) (w : World) (h : PA w g s a v l) :
    Calls Try.prog 58 #[.pointer (some ⟨g, 0, none⟩)] w (ItP w g s v id (items (l.length + 1) z4 l)) := by
  have hlt := h.lt
  have HP := hid (fun o => h.below (new_block w o))
  obtain ⟨R, hR⟩ : ∃ R, R = items (l.length + 1) z4 l := ⟨_, rfl⟩
  rw [← hR]
  have HR := hid hR
  clear h hR
  go_enter_defers Try.func58, Try.ntmps58
  go_wp2_with fail
  refine Calls.mono (skip_no g s a v l 94 _ rfl _ (HP.out _) hl) ?_
  rintro e w1 ⟨rfl, hb⟩
  have HZ : Hid (Hb w1 w.heap.size z4) := (Hb.new w z4 _ rfl).below hb (by simp)
  have HB := hid ((new_block w (.cells z4.cells 24)).trans (hb.mono (by simp)))
  have HP1 := hid ((HP.out _).below hb)
  clear hb HP hl
  go_wp2_with fail
  obtain ⟨B, hBe⟩ : ∃ B, B = w1.heap.size := ⟨_, rfl⟩
  have HBs := hid (show w.heap.size < B ∧ g < w.heap.size from ⟨by have := HZ.out.lt; omega, hlt⟩)
  have HST : Hid (ItR w g s v B R (w1.alloc (.cells z4.cells 24))) := ⟨l.length + 1, z4, l, a, HR.out.symm, by omega, z4_ok, HP1.out.below (new_block _ _), Hb.new w1 z4 B hBe, HZ.out.alloc _, grown_trans (grown_of_below HB.out _) (grown_of_below (new_block _ _) _)⟩
  rw [← hBe]
  clear HP1 HZ HB HR
  have HE := hid hBe
  clear hBe
  go_loopw [] (fun wr => ItR w g s v B R wr) (fun wr => s.size - plc wr g)
  case atStart => exact HST.out
  case round =>
    clear HST
    obtain ⟨f, k, l', a', hI, hf, hk, hp, hC, hZ, hG⟩ := hrel
    have HI := hid hI
    have HP := hid hp
    have HC := hid hC
    have HZ := hid hZ
    have HG := hid hG
    have HK := hid hk
    have HF := hid hf
    clear hI hf hk hp hC hZ hG
    cases l' with
    | nil =>
      go_wp2_with fail
      refine Calls.mono (more_nil g s a' v _ HP.out) ?_
      rintro e w2 ⟨rfl, hb2⟩
      obtain ⟨x0, x1, x2, x3, y0, y1, y2, y3⟩ := (HC.out.below hb2 HC.out.lt).all
      obtain ⟨z0, z1, z2, z3, t0, t1, t2, t3⟩ := (HZ.out.below hb2 HZ.out.lt).all
      have HP2 := hid (HP.out.below hb2)
      have HG2 := hid (grown_trans HG.out (grown_of_below hb2 _))
      have HRe : Hid (R = .error 0) := HI.out.symm.trans (items_end f k (by have := HF.out; omega))
      clear hb2
      go_wp2_with fail
      have hB4 : Below w.heap.size w2 (put4 w2 w.heap.size k) := below_put4 (Below.refl _ _) (Nat.le_refl _) k
      refine door_no _ _ _ 93 g s a' v [] _ (HP2.out.belowB hB4 hlt) (by simp) ?_
      intro w4 hs hg4
      rw [HRe.out]
      exact ⟨by simp, hs, grown_trans (grown_below HG2.out hB4) hg4⟩
    | cons c r =>
      go_wp2_with fail
      refine Calls.mono (more_cons g s a' v c r _ HP.out) ?_
      rintro e w2 ⟨rfl, hb2⟩
      go_wp2_with fail
      refine Calls.mono (rsees_any g s a' v _ 93 _ rfl _ (HP.out.below hb2)) ?_
      rintro e w3 ⟨rfl, hb3⟩
      by_cases hc : c = 93
      · subst hc
        have HX : Hid (decide ((93 :: r).head? = some 93) = true) := by show _ = _; simp
        rw [HX.out]
        have hb23 := hb2.trans (hb3.mono hb2.size)
        obtain ⟨x0, x1, x2, x3, y0, y1, y2, y3⟩ := (HC.out.below hb23 HC.out.lt).all
        obtain ⟨z0, z1, z2, z3, t0, t1, t2, t3⟩ := (HZ.out.below hb23 HZ.out.lt).all
        have HP2 := hid (HP.out.below hb23)
        have HZ2 := hid (HZ.out.below hb23 HZ.out.lt)
        have HG2 := hid (grown_trans HG.out (grown_of_below hb23 _))
        have HRe : Hid (R = .ok (k, r)) := HI.out.symm.trans (items_stop f k r (by have := HF.out; omega))
        clear hb2 hb3 hb23
        go_wp2_with fail
        have hB4 : Below w.heap.size w3 (put4 w3 w.heap.size k) := below_put4 (Below.refl _ _) (Nat.le_refl _) k
        refine door_yes _ _ _ 93 g s a' v r _ (HP2.out.belowB hB4 hlt) ?_
        intro w4 hp4 hg4
        have hq := (HZ2.out.put4 k).grown hg4 (by omega)
        refine ⟨k.v, by simp [results, Try.results58, go_sem, hq.c0, hq.c1, hq.c2, hq.c3], ?_⟩
        rw [HRe.out]
        exact ⟨rfl, ⟨_, hp4⟩, grown_trans (grown_below HG2.out hB4) hg4⟩
      · have HX : Hid (decide ((c :: r).head? = some 93) = false) := by show _ = _; simp [hc]
        rw [HX.out]
        have hb23 := hb2.trans (hb3.mono hb2.size)
        have HP3 := hid (HP.out.below hb23)
        have HC3 := hid (HC.out.below hb23 HC.out.lt)
        have HZ3 := hid (HZ.out.below hb23 HZ.out.lt)
        have HG3 := hid (grown_trans HG.out (grown_of_below hb23 _))
        have HPL := hid (show plc wr g = a' from HP.out.plc)
        clear HP HC HZ HG hb2 hb3 hb23 HX
        have HN := hid (show (c :: r).head? ≠ some 93 from by simp [hc])
        clear hc
        obtain ⟨f', hf'⟩ : ∃ f', f = f' + 1 := ⟨f - 1, by have := HF.out; omega⟩
        subst hf'
        have HI2 := hid (HI.out.symm.trans (items_itm f' k (c :: r) HN.out))
        clear HI
        have n1 : ¬ B = g := by have := HBs.out; omega
        obtain ⟨x0, x1, x2, x3, y0, y1, y2, y3⟩ := HC3.out.all
        have HPd : Hid (∀ w' : World, w' = w3.drew → PA w' g s a' v (c :: r) ∧ Hb w' B k) := by
          rintro _ rfl
          exact ⟨HP3.out.below (below_drewN' w3 1), HC3.out.drew⟩
        cases hit : itm (c :: r) with
        | error k' =>
          have HRe : Hid (R = .error k') := by
            have h := HI2.out
            rw [hit] at h
            exact h
          have HT := hid (item_bad g s a' v (c :: r) k' hit)
          clear HI2 hit
          go_wp2_with fail
          refine wp_panicIs (fun ch ds w' => ch = mis ((s.size : Int) - (k' : Int)) ∧ ds = [dclose g 93] ∧ Stk w' g ∧ w.grownBy w' (some g)) ?_ ?_
          · rintro ch a1 w5 ⟨rfl, hds, hs, hg5⟩
            show Leaves _ _ a1.tmps _ a1.defers _ _
            rw [hds]
            refine door_stuck _ _ _ _ _ g _ hs ?_
            intro w6 hb6
            rw [HRe.out]
            exact ⟨rfl, hs.below hb6, grown_trans hg5 (grown_of_below hb6 _)⟩
          refine wp_region_held_drew (S := fun _ => True) (by kernel_rfl) trivial (fun _ => ?_)
          refine wpAnyH_take (i := 1) (oi := _) (v := ?_) rfl (by kernel_rfl) (by kernel_rfl) (by kernel_rfl) (fun _ _ _ h => h) (Or.inl ⟨by rfl, ?_⟩) trivial ?_
          rotate_left
          · (intro w hSw; simp only [List.getElem_toArray, List.getElem_cons_zero, List.getElem_cons_succ]; go_simp; try with_reducible rfl)
          simp only [List.getElem_toArray, List.getElem_cons_zero, List.getElem_cons_succ, Act.put, List.setIfInBounds_toArray, List.set_cons_zero, List.set_cons_succ]
          refine wpAnyH_ready (rs := [0, 2]) (by kernel_rfl) (by simp) (AllReadyH.cons (o := _) rfl (fun K hK => ?_) (AllReadyH.cons (o := _) rfl (fun K hK => ?_) AllReadyH.nil))
          · simp only [List.getElem_toArray, List.getElem_cons_zero, List.getElem_cons_succ]
            go_simp
            refine hK.out _ _ trivial (fun _ => ?_)
            clear hK K
            try simp only [List.getElem_toArray, List.getElem_cons_zero, List.getElem_cons_succ, Act.put, List.setIfInBounds_toArray, List.set_cons_zero, List.set_cons_succ]
            refine wpAnyH_ready (rs := [2]) (by kernel_rfl) (by simp) (AllReadyH.cons (o := _) rfl (fun K hK => ?_) AllReadyH.nil)
            try simp only [List.getElem_toArray, List.getElem_cons_zero, List.getElem_cons_succ]
            go_simp
            refine Calls.mono (HT.out _ (HPd.out _ rfl).1) ?_
            rintro e w5 ⟨rfl, hs, hg5⟩
            exact ⟨rfl, rfl, hs, grown_trans HG3.out (grown_trans (grown_of_below (below_drewN' w3 1) _) hg5)⟩
          · simp only [List.getElem_toArray, List.getElem_cons_zero, List.getElem_cons_succ]
            go_simp
            refine Calls.mono (HT.out _ (HPd.out _ rfl).1) ?_
            rintro e w5 ⟨rfl, hs, hg5⟩
            exact ⟨rfl, rfl, hs, grown_trans HG3.out (grown_trans (grown_of_below (below_drewN' w3 1) _) hg5)⟩
        | ok p =>
          obtain ⟨lo, n, r2⟩ := p
          have HRe : Hid (R = items f' (addTo k lo n) r2) := by
            have h := HI2.out
            rw [hit] at h
            exact h
          have HT := hid (item_ok g s a' v (c :: r) lo n r2 hit)
          have HIL := hid (itm_len _ _ _ _ hit)
          have HO := hid (or_rng HK.out lo n HIL.out.1)
          have HE2 := hid (either_any k (rng lo n))
          clear HI2 hit
          go_wp2_with fail
          refine wp_panicIs (fun ch ds w' => False) (fun _ _ _ h => h.elim) ?_
          go_region_with (first
            | (go_at_call 63; refine Calls.mono (HT.out _ (HPd.out _ rfl).1) ?_; rintro e w5 ⟨rfl, ⟨a5, hp5⟩, hg5⟩; obtain ⟨q0, q1, q2, q3, r0, r1, r2', r3⟩ := ((HPd.out _ rfl).2.grown hg5 n1).all)
            | (go_at_call 9; refine Calls.mono (HE2.out _) ?_; rintro e w6 ⟨rfl, hb6⟩; obtain ⟨q0, q1, q2, q3, r0, r1, r2', r3⟩ := (((HPd.out _ rfl).2.grown hg5 n1).below hb6 ((HPd.out _ rfl).2.grown hg5 n1).lt).all))
          all_goals refine PanicIs.normal ?_
          all_goals go_wp2_with fail
          all_goals
            have hB7 : Below w.heap.size w6 (put4 w6 B (k.or (rng lo n))) := below_put4 (Below.refl _ _) (by have := HBs.out; omega) _
            have hC7 := (((HPd.out _ rfl).2.grown hg5 n1).below hb6 ((HPd.out _ rfl).2.grown hg5 n1).lt).put4 (k.or (rng lo n))
            have hC8 : Hb (put4 w6 B (k.or (rng lo n))) B (addTo k lo n) := by rw [← HO.out]; exact hC7
            have hZ5 := (HZ3.out.drew).grown hg5 (by omega)
            have hP7 := (hp5.below hb6).belowB hB7 hlt
            refine ⟨⟨f', addTo k lo n, r2, a5, HRe.out.symm, ?_, addTo_ok HK.out lo n, hP7, hC8, (hZ5.below hb6 hZ5.lt).other4 _ (by have := HBs.out; omega), grown_below (grown_trans HG3.out (grown_trans (grown_of_below (below_drewN' w3 1) _) (grown_trans hg5 (grown_of_below hb6 _)))) hB7⟩, ?_⟩
            · have h1 := HF.out
              have h2 := HIL.out.2
              omega
            · have h1 := hP7.plc
              have h2 := HPL.out
              have h3 := hP7.le
              have h4 := HP3.out.le
              have h5 := HIL.out.2
              show s.size - plc (put4 w6 B (k.or (rng lo n))) g < s.size - plc wr g
              rw [h1, h2]
              omega
set_option maxHeartbeats 1000000 in
theorem items_hat (g : Nat) (s : ByteArray) (a : Nat) (v : Value) (l : List UInt8) (w : World) (h : PA w g s a v (94 :: l)) :
    Calls Try.prog 58 #[.pointer (some ⟨g, 0, none⟩)] w (ItP w g s v C4.not (items (l.length + 1) z4 l)) := by
  have hlt := h.lt
  have HP := hid (fun o => h.below (new_block w o))
  obtain ⟨R, hR⟩ : ∃ R, R = items (l.length + 1) z4 l := ⟨_, rfl⟩
  rw [← hR]
  have HR := hid hR
  clear h hR
  go_enter_defers Try.func58, Try.ntmps58
  go_wp2_with fail
  refine Calls.mono (skip_yes g s a v l 94 _ rfl _ (HP.out _)) ?_
  rintro e w1 ⟨rfl, hp1, hg⟩
  have HZ : Hid (Hb w1 w.heap.size z4) := (Hb.new w z4 _ rfl).grown hg (by omega)
  have HB := hid (grown_trans (grown_of_below (new_block w (.cells z4.cells 24)) (some g)) hg)
  have HP1 := hid hp1
  clear hg hp1 HP
  go_wp2_with fail
  obtain ⟨B, hBe⟩ : ∃ B, B = w1.heap.size := ⟨_, rfl⟩
  have HBs := hid (show w.heap.size < B ∧ g < w.heap.size from ⟨by have := HZ.out.lt; omega, hlt⟩)
  have HST : Hid (ItR w g s v B R (w1.alloc (.cells z4.cells 24))) := ⟨l.length + 1, z4, l, a + 1, HR.out.symm, by omega, z4_ok, HP1.out.below (new_block _ _), Hb.new w1 z4 B hBe, HZ.out.alloc _, grown_trans HB.out (grown_of_below (new_block _ _) _)⟩
  rw [← hBe]
  clear HP1 HZ HB HR
  have HE := hid hBe
  clear hBe
  go_loopw [] (fun wr => ItR w g s v B R wr) (fun wr => s.size - plc wr g)
  case atStart => exact HST.out
  case round =>
    clear HST
    obtain ⟨f, k, l', a', hI, hf, hk, hp, hC, hZ, hG⟩ := hrel
    have HI := hid hI
    have HP := hid hp
    have HC := hid hC
    have HZ := hid hZ
    have HG := hid hG
    have HK := hid hk
    have HF := hid hf
    clear hI hf hk hp hC hZ hG
    cases l' with
    | nil =>
      go_wp2_with fail
      refine Calls.mono (more_nil g s a' v _ HP.out) ?_
      rintro e w2 ⟨rfl, hb2⟩
      obtain ⟨x0, x1, x2, x3, y0, y1, y2, y3⟩ := (HC.out.below hb2 HC.out.lt).all
      obtain ⟨z0, z1, z2, z3, t0, t1, t2, t3⟩ := (HZ.out.below hb2 HZ.out.lt).all
      have HP2 := hid (HP.out.below hb2)
      have HG2 := hid (grown_trans HG.out (grown_of_below hb2 _))
      have HRe : Hid (R = .error 0) := HI.out.symm.trans (items_end f k (by have := HF.out; omega))
      have hZ2 := HZ.out.below hb2 HZ.out.lt
      clear hb2
      go_wp2_with fail
      refine Calls.mono (not_any k _) ?_
      rintro e w9 ⟨rfl, hb9⟩
      clear z0 z1 z2 z3 t0 t1 t2 t3
      obtain ⟨z0, z1, z2, z3, t0, t1, t2, t3⟩ := (hZ2.below hb9 hZ2.lt).all
      replace HP2 := hid (HP2.out.below hb9)
      replace HG2 := hid (grown_trans HG2.out (grown_of_below hb9 _))
      clear hZ2 hb9
      go_wp2_with fail
      have hB4 : Below w.heap.size w9 (put4 w9 w.heap.size k.not) := below_put4 (Below.refl _ _) (Nat.le_refl _) k.not
      refine door_no _ _ _ 93 g s a' v [] _ (HP2.out.belowB hB4 hlt) (by simp) ?_
      intro w4 hs hg4
      rw [HRe.out]
      exact ⟨by simp, hs, grown_trans (grown_below HG2.out hB4) hg4⟩
    | cons c r =>
      go_wp2_with fail
      refine Calls.mono (more_cons g s a' v c r _ HP.out) ?_
      rintro e w2 ⟨rfl, hb2⟩
      go_wp2_with fail
      refine Calls.mono (rsees_any g s a' v _ 93 _ rfl _ (HP.out.below hb2)) ?_
      rintro e w3 ⟨rfl, hb3⟩
      by_cases hc : c = 93
      · subst hc
        have HX : Hid (decide ((93 :: r).head? = some 93) = true) := by show _ = _; simp
        rw [HX.out]
        have hb23 := hb2.trans (hb3.mono hb2.size)
        obtain ⟨x0, x1, x2, x3, y0, y1, y2, y3⟩ := (HC.out.below hb23 HC.out.lt).all
        obtain ⟨z0, z1, z2, z3, t0, t1, t2, t3⟩ := (HZ.out.below hb23 HZ.out.lt).all
        have HP2 := hid (HP.out.below hb23)
        have HZ2 := hid (HZ.out.below hb23 HZ.out.lt)
        have HG2 := hid (grown_trans HG.out (grown_of_below hb23 _))
        have HRe : Hid (R = .ok (k, r)) := HI.out.symm.trans (items_stop f k r (by have := HF.out; omega))
        clear hb2 hb3 hb23
        go_wp2_with fail
        refine Calls.mono (not_any k _) ?_
        rintro e w9 ⟨rfl, hb9⟩
        clear z0 z1 z2 z3 t0 t1 t2 t3
        obtain ⟨z0, z1, z2, z3, t0, t1, t2, t3⟩ := (HZ2.out.below hb9 HZ2.out.lt).all
        replace HP2 := hid (HP2.out.below hb9)
        replace HZ2 := hid (HZ2.out.below hb9 HZ2.out.lt)
        replace HG2 := hid (grown_trans HG2.out (grown_of_below hb9 _))
        clear hb9
        go_wp2_with fail
        have hB4 : Below w.heap.size w9 (put4 w9 w.heap.size k.not) := below_put4 (Below.refl _ _) (Nat.le_refl _) k.not
        refine door_yes _ _ _ 93 g s a' v r _ (HP2.out.belowB hB4 hlt) ?_
        intro w4 hp4 hg4
        have hq := (HZ2.out.put4 k.not).grown hg4 (by omega)
        refine ⟨k.not.v, by simp [results, Try.results58, go_sem, hq.c0, hq.c1, hq.c2, hq.c3], ?_⟩
        rw [HRe.out]
        exact ⟨rfl, ⟨_, hp4⟩, grown_trans (grown_below HG2.out hB4) hg4⟩
      · have HX : Hid (decide ((c :: r).head? = some 93) = false) := by show _ = _; simp [hc]
        rw [HX.out]
        have hb23 := hb2.trans (hb3.mono hb2.size)
        have HP3 := hid (HP.out.below hb23)
        have HC3 := hid (HC.out.below hb23 HC.out.lt)
        have HZ3 := hid (HZ.out.below hb23 HZ.out.lt)
        have HG3 := hid (grown_trans HG.out (grown_of_below hb23 _))
        have HPL := hid (show plc wr g = a' from HP.out.plc)
        clear HP HC HZ HG hb2 hb3 hb23 HX
        have HN := hid (show (c :: r).head? ≠ some 93 from by simp [hc])
        clear hc
        obtain ⟨f', hf'⟩ : ∃ f', f = f' + 1 := ⟨f - 1, by have := HF.out; omega⟩
        subst hf'
        have HI2 := hid (HI.out.symm.trans (items_itm f' k (c :: r) HN.out))
        clear HI
        have n1 : ¬ B = g := by have := HBs.out; omega
        obtain ⟨x0, x1, x2, x3, y0, y1, y2, y3⟩ := HC3.out.all
        have HPd : Hid (∀ w' : World, w' = w3.drew → PA w' g s a' v (c :: r) ∧ Hb w' B k) := by
          rintro _ rfl
          exact ⟨HP3.out.below (below_drewN' w3 1), HC3.out.drew⟩
        cases hit : itm (c :: r) with
        | error k' =>
          have HRe : Hid (R = .error k') := by
            have h := HI2.out
            rw [hit] at h
            exact h
          have HT := hid (item_bad g s a' v (c :: r) k' hit)
          clear HI2 hit
          go_wp2_with fail
          refine wp_panicIs (fun ch ds w' => ch = mis ((s.size : Int) - (k' : Int)) ∧ ds = [dclose g 93] ∧ Stk w' g ∧ w.grownBy w' (some g)) ?_ ?_
          · rintro ch a1 w5 ⟨rfl, hds, hs, hg5⟩
            show Leaves _ _ a1.tmps _ a1.defers _ _
            rw [hds]
            refine door_stuck _ _ _ _ _ g _ hs ?_
            intro w6 hb6
            rw [HRe.out]
            exact ⟨rfl, hs.below hb6, grown_trans hg5 (grown_of_below hb6 _)⟩
          refine wp_region_held_drew (S := fun _ => True) (by kernel_rfl) trivial (fun _ => ?_)
          refine wpAnyH_take (i := 1) (oi := _) (v := ?_) rfl (by kernel_rfl) (by kernel_rfl) (by kernel_rfl) (fun _ _ _ h => h) (Or.inl ⟨by rfl, ?_⟩) trivial ?_
          rotate_left
          · (intro w hSw; simp only [List.getElem_toArray, List.getElem_cons_zero, List.getElem_cons_succ]; go_simp; try with_reducible rfl)
          simp only [List.getElem_toArray, List.getElem_cons_zero, List.getElem_cons_succ, Act.put, List.setIfInBounds_toArray, List.set_cons_zero, List.set_cons_succ]
          refine wpAnyH_ready (rs := [0, 2]) (by kernel_rfl) (by simp) (AllReadyH.cons (o := _) rfl (fun K hK => ?_) (AllReadyH.cons (o := _) rfl (fun K hK => ?_) AllReadyH.nil))
          · simp only [List.getElem_toArray, List.getElem_cons_zero, List.getElem_cons_succ]
            go_simp
            refine hK.out _ _ trivial (fun _ => ?_)
            clear hK K
            try simp only [List.getElem_toArray, List.getElem_cons_zero, List.getElem_cons_succ, Act.put, List.setIfInBounds_toArray, List.set_cons_zero, List.set_cons_succ]
            refine wpAnyH_ready (rs := [2]) (by kernel_rfl) (by simp) (AllReadyH.cons (o := _) rfl (fun K hK => ?_) AllReadyH.nil)
            try simp only [List.getElem_toArray, List.getElem_cons_zero, List.getElem_cons_succ]
            go_simp
            refine Calls.mono (HT.out _ (HPd.out _ rfl).1) ?_
            rintro e w5 ⟨rfl, hs, hg5⟩
            exact ⟨rfl, rfl, hs, grown_trans HG3.out (grown_trans (grown_of_below (below_drewN' w3 1) _) hg5)⟩
          · simp only [List.getElem_toArray, List.getElem_cons_zero, List.getElem_cons_succ]
            go_simp
            refine Calls.mono (HT.out _ (HPd.out _ rfl).1) ?_
            rintro e w5 ⟨rfl, hs, hg5⟩
            exact ⟨rfl, rfl, hs, grown_trans HG3.out (grown_trans (grown_of_below (below_drewN' w3 1) _) hg5)⟩
        | ok p =>
          obtain ⟨lo, n, r2⟩ := p
          have HRe : Hid (R = items f' (addTo k lo n) r2) := by
            have h := HI2.out
            rw [hit] at h
            exact h
          have HT := hid (item_ok g s a' v (c :: r) lo n r2 hit)
          have HIL := hid (itm_len _ _ _ _ hit)
          have HO := hid (or_rng HK.out lo n HIL.out.1)
          have HE2 := hid (either_any k (rng lo n))
          clear HI2 hit
          go_wp2_with fail
          refine wp_panicIs (fun ch ds w' => False) (fun _ _ _ h => h.elim) ?_
          go_region_with (first
            | (go_at_call 63; refine Calls.mono (HT.out _ (HPd.out _ rfl).1) ?_; rintro e w5 ⟨rfl, ⟨a5, hp5⟩, hg5⟩; obtain ⟨q0, q1, q2, q3, r0, r1, r2', r3⟩ := ((HPd.out _ rfl).2.grown hg5 n1).all)
            | (go_at_call 9; refine Calls.mono (HE2.out _) ?_; rintro e w6 ⟨rfl, hb6⟩; obtain ⟨q0, q1, q2, q3, r0, r1, r2', r3⟩ := (((HPd.out _ rfl).2.grown hg5 n1).below hb6 ((HPd.out _ rfl).2.grown hg5 n1).lt).all))
          all_goals refine PanicIs.normal ?_
          all_goals go_wp2_with fail
          all_goals
            have hB7 : Below w.heap.size w6 (put4 w6 B (k.or (rng lo n))) := below_put4 (Below.refl _ _) (by have := HBs.out; omega) _
            have hC7 := (((HPd.out _ rfl).2.grown hg5 n1).below hb6 ((HPd.out _ rfl).2.grown hg5 n1).lt).put4 (k.or (rng lo n))
            have hC8 : Hb (put4 w6 B (k.or (rng lo n))) B (addTo k lo n) := by rw [← HO.out]; exact hC7
            have hZ5 := (HZ3.out.drew).grown hg5 (by omega)
            have hP7 := (hp5.below hb6).belowB hB7 hlt
            refine ⟨⟨f', addTo k lo n, r2, a5, HRe.out.symm, ?_, addTo_ok HK.out lo n, hP7, hC8, (hZ5.below hb6 hZ5.lt).other4 _ (by have := HBs.out; omega), grown_below (grown_trans HG3.out (grown_trans (grown_of_below (below_drewN' w3 1) _) (grown_trans hg5 (grown_of_below hb6 _)))) hB7⟩, ?_⟩
            · have h1 := HF.out
              have h2 := HIL.out.2
              omega
            · have h1 := hP7.plc
              have h2 := HPL.out
              have h3 := hP7.le
              have h4 := HP3.out.le
              have h5 := HIL.out.2
              show s.size - plc (put4 w6 B (k.or (rng lo n))) g < s.size - plc wr g
              rw [h1, h2]
              omega
/-- A class in brackets, whole. -/
theorem items_any (g : Nat) (s : ByteArray) (a : Nat) (v : Value) (l : List UInt8) (w : World) (h : PA w g s a v l) :
    Calls Try.prog 58 #[.pointer (some ⟨g, 0, none⟩)] w (ItP w g s v id (bracket l)) := by
  unfold bracket
  by_cases hl : l.head? = some 94
  · rw [if_pos hl]
    obtain ⟨e, hn⟩ := tail_len l _ hl
    rw [e] at h
    have h2 := items_hat g s a v l.tail w h
    rw [hn] at h2
    cases hI : items l.length z4 l.tail with
    | error k => rw [hI] at h2; exact h2
    | ok p => obtain ⟨c, r⟩ := p; rw [hI] at h2; exact h2
  · rw [if_neg hl]
    exact items_no g s a v l hl w h
end Go.Proofs.Ytmdfdlljeggbbaa
