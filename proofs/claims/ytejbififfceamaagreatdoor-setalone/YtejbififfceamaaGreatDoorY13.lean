/- The landed reader: items. copy, of elements of many cells: what lies where behind it. No function of the program. slices.Insert, of one node. -/
import Derived.Test.YtejbififfceamaaGreatDoorY09
import Derived.Test.YtejbififfceamaaGreatDoorY12
import Derived.Test.YtejbififfceamaaGreatDoorProg
import Derived.WalkKit
import Derived.Laws.IdiomCopy
import Derived.OwnWalk
import Derived.Lib.Overlaps
import Derived.Lib.AppendZerosOnto
import Derived.Laws.Externs
import Derived.Shelf.Spec.SlicesInsertGrow
namespace Go.Proofs.YtejbififfceamaaGreatDoor
set_option linter.unusedSimpArgs false
set_option linter.unusedVariables false
set_option maxRecDepth 100000
open Go.RowKit
/-- What the items of a class come to. -/
def ItP (w : World) (g : Nat) (s : ByteArray) (v : Value) (F : C4 → C4) (R : Except Nat (C4 × List UInt8)) (e : Ending) (w' : World) : Prop :=
  match R with
  | .ok (c, r) => e = .returned (F c).v ∧ (∃ a', PA w' g s a' v r) ∧ w.grownBy w' (some g)
  | .error k => e = .panicked (mis ((s.size : Int) - (k : Int))) ∧ Stk w' g ∧ w.grownBy w' (some g)
/-- How it stands between two items. -/
def ItR (w : World) (g : Nat) (s : ByteArray) (v : Value) (B : Nat) (R : Except Nat (C4 × List UInt8)) (wr : World) : Prop :=
  ∃ (f : Nat) (k : C4) (l : List UInt8) (a : Nat), items f k l = R ∧ l.length < f ∧ k.ok ∧ PA wr g s a v l ∧ Hb wr B k ∧ Hb wr w.heap.size z4 ∧ w.grownBy wr (some g)
theorem items_end (f : Nat) (k : C4) (hf : 0 < f) : items f k [] = .error 0 := by
  cases f with
  | zero => omega
  | succ f => simp [items, rd1]
theorem items_stop (f : Nat) (k : C4) (r : List UInt8) (hf : 0 < f) : items f k (93 :: r) = .ok (k, r) := by
  cases f with
  | zero => omega
  | succ f => simp [items]
set_option maxHeartbeats 1000000 in
theorem items_no (g : Nat) (s : ByteArray) (a : Nat) (v : Value) (l : List UInt8) (hl : l.head? ≠ some 94) (w : World) (h : PA w g s a v l) :
    Calls Tryz.prog 132 #[.pointer (some ⟨g, 0, none⟩)] w (ItP w g s v id (items (l.length + 1) z4 l)) := by
  have hlt := h.lt
  have HP := hid (fun o => h.below (new_block w o))
  obtain ⟨R, hR⟩ : ∃ R, R = items (l.length + 1) z4 l := ⟨_, rfl⟩
  rw [← hR]
  have HR := hid hR
  clear h hR
  go_enter_defers Tryz.func132, Tryz.ntmps132
  go_wp2_with fail
  refine Calls.mono (skip_no g s a v l 94 _ rfl _ (HP.out _) hl) ?_
  rintro e w1 ⟨rfl, hb⟩
  have HZ : Hid (Hb w1 w.heap.size z4) := (Hb.new w z4 _ rfl).below hb (by simp)
  have HB := hid ((new_block w (.cells z4.cells 104)).trans (hb.mono (by simp)))
  have HP1 := hid ((HP.out _).below hb)
  clear hb HP hl
  go_wp2_with fail
  obtain ⟨B, hBe⟩ : ∃ B, B = w1.heap.size := ⟨_, rfl⟩
  have HBs := hid (show w.heap.size < B ∧ g < w.heap.size from ⟨by have := HZ.out.lt; omega, hlt⟩)
  have HST : Hid (ItR w g s v B R (w1.alloc (.cells z4.cells 104))) := ⟨l.length + 1, z4, l, a, HR.out.symm, by omega, z4_ok, HP1.out.below (new_block _ _), Hb.new w1 z4 B hBe, HZ.out.alloc _, grown_trans (grown_of_below HB.out _) (grown_of_below (new_block _ _) _)⟩
  rw [← hBe]
  clear HP1 HZ HB HR
  have HE := hid hBe
  clear hBe
  go_loopw [] (fun wr => ItR w g s v B R wr) (fun wr => s.size - plc wr g)
  case atStart => exact HST.out
  case round =>
    clear HST
    obtain ⟨f, k, l', a', hI, hf, hk, hp, hC, hZ, hG⟩ := hrel
    have HI := hid hI
    have HP := hid hp
    have HC := hid hC
    have HZ := hid hZ
    have HG := hid hG
    have HK := hid hk
    have HF := hid hf
    clear hI hf hk hp hC hZ hG
    cases l' with
    | nil =>
      go_wp2_with fail
      refine Calls.mono (more_nil g s a' v _ HP.out) ?_
      rintro e w2 ⟨rfl, hb2⟩
      obtain ⟨x0, x1, x2, x3, y0, y1, y2, y3⟩ := (HC.out.below hb2 HC.out.lt).all
      obtain ⟨z0, z1, z2, z3, t0, t1, t2, t3⟩ := (HZ.out.below hb2 HZ.out.lt).all
      have HP2 := hid (HP.out.below hb2)
      have HG2 := hid (grown_trans HG.out (grown_of_below hb2 _))
      have HRe : Hid (R = .error 0) := HI.out.symm.trans (items_end f k (by have := HF.out; omega))
      clear hb2
      go_wp2_with fail
      have hB4 : Below w.heap.size w2 (put4 w2 w.heap.size k) := below_put4 (Below.refl _ _) (Nat.le_refl _) k
      refine door_no _ _ _ 93 g s a' v [] _ (HP2.out.belowB hB4 hlt) (by simp) ?_
      intro w4 hs hg4
      rw [HRe.out]
      exact ⟨by simp, hs, grown_trans (grown_below HG2.out hB4) hg4⟩
    | cons c r =>
      go_wp2_with fail
      refine Calls.mono (more_cons g s a' v c r _ HP.out) ?_
      rintro e w2 ⟨rfl, hb2⟩
      go_wp2_with fail
      refine Calls.mono (rsees_any g s a' v _ 93 _ rfl _ (HP.out.below hb2)) ?_
      rintro e w3 ⟨rfl, hb3⟩
      by_cases hc : c = 93
      · subst hc
        have HX : Hid (decide ((93 :: r).head? = some 93) = true) := by show _ = _; simp
        rw [HX.out]
        have hb23 := hb2.trans (hb3.mono hb2.size)
        obtain ⟨x0, x1, x2, x3, y0, y1, y2, y3⟩ := (HC.out.below hb23 HC.out.lt).all
        obtain ⟨z0, z1, z2, z3, t0, t1, t2, t3⟩ := (HZ.out.below hb23 HZ.out.lt).all
        have HP2 := hid (HP.out.below hb23)
        have HZ2 := hid (HZ.out.below hb23 HZ.out.lt)
        have HG2 := hid (grown_trans HG.out (grown_of_below hb23 _))
        have HRe : Hid (R = .ok (k, r)) := HI.out.symm.trans (items_stop f k r (by have := HF.out; omega))
        clear hb2 hb3 hb23
        go_wp2_with fail
        have hB4 : Below w.heap.size w3 (put4 w3 w.heap.size k) := below_put4 (Below.refl _ _) (Nat.le_refl _) k
        refine door_yes _ _ _ 93 g s a' v r _ (HP2.out.belowB hB4 hlt) ?_
        intro w4 hp4 hg4
        have hq := (HZ2.out.put4 k).grown hg4 (by omega)
        refine ⟨k.v, by simp [results, Tryz.results132, go_sem, hq.c0, hq.c1, hq.c2, hq.c3], ?_⟩
        rw [HRe.out]
        exact ⟨rfl, ⟨_, hp4⟩, grown_trans (grown_below HG2.out hB4) hg4⟩
      · have HX : Hid (decide ((c :: r).head? = some 93) = false) := by show _ = _; simp [hc]
        rw [HX.out]
        have hb23 := hb2.trans (hb3.mono hb2.size)
        have HP3 := hid (HP.out.below hb23)
        have HC3 := hid (HC.out.below hb23 HC.out.lt)
        have HZ3 := hid (HZ.out.below hb23 HZ.out.lt)
        have HG3 := hid (grown_trans HG.out (grown_of_below hb23 _))
        have HPL := hid (show plc wr g = a' from HP.out.plc)
        clear HP HC HZ HG hb2 hb3 hb23 HX
        have HN := hid (show (c :: r).head? ≠ some 93 from by simp [hc])
        clear hc
        obtain ⟨f', hf'⟩ : ∃ f', f = f' + 1 := ⟨f - 1, by have := HF.out; omega⟩
        subst hf'
        have HI2 := hid (HI.out.symm.trans (items_itm f' k (c :: r) HN.out))
        clear HI
        have n1 : ¬ B = g := by have := HBs.out; omega
        obtain ⟨x0, x1, x2, x3, y0, y1, y2, y3⟩ := HC3.out.all
        have HPd : Hid (∀ w' : World, w' = w3.drew → PA w' g s a' v (c :: r) ∧ Hb w' B k) := by
          rintro _ rfl
          exact ⟨HP3.out.below (below_drewN' w3 1), HC3.out.drew⟩
        cases hit : itm (c :: r) with
        | error k' =>
          have HRe : Hid (R = .error k') := by
            have h := HI2.out
            rw [hit] at h
            exact h
          have HT := hid (item_bad g s a' v (c :: r) k' hit)
          clear HI2 hit
          go_wp2_with fail
          refine wp_panicIs (fun ch ds w' => ch = mis ((s.size : Int) - (k' : Int)) ∧ ds = [dclose g 93] ∧ Stk w' g ∧ w.grownBy w' (some g)) ?_ ?_
          · rintro ch a1 w5 ⟨rfl, hds, hs, hg5⟩
            show Leaves _ _ a1.tmps _ a1.defers _ _
            rw [hds]
            refine door_stuck _ _ _ _ _ g _ hs ?_
            intro w6 hb6
            rw [HRe.out]
            exact ⟨rfl, hs.below hb6, grown_trans hg5 (grown_of_below hb6 _)⟩
          refine wp_region_held_drew (S := fun _ => True) (by kernel_rfl) trivial (fun _ => ?_)
          refine wpAnyH_take (i := 1) (oi := _) (v := ?_) rfl (by kernel_rfl) (by kernel_rfl) (by kernel_rfl) (fun _ _ _ h => h) (Or.inl ⟨by rfl, ?_⟩) trivial ?_
          rotate_left
          · (intro w hSw; simp only [List.getElem_toArray, List.getElem_cons_zero, List.getElem_cons_succ]; go_simp; try with_reducible rfl)
          simp only [List.getElem_toArray, List.getElem_cons_zero, List.getElem_cons_succ, Act.put, List.setIfInBounds_toArray, List.set_cons_zero, List.set_cons_succ]
          refine wpAnyH_ready (rs := [0, 2]) (by kernel_rfl) (by simp) (AllReadyH.cons (o := _) rfl (fun K hK => ?_) (AllReadyH.cons (o := _) rfl (fun K hK => ?_) AllReadyH.nil))
          · simp only [List.getElem_toArray, List.getElem_cons_zero, List.getElem_cons_succ]
            go_simp
            refine hK.out _ _ trivial (fun _ => ?_)
            clear hK K
            try simp only [List.getElem_toArray, List.getElem_cons_zero, List.getElem_cons_succ, Act.put, List.setIfInBounds_toArray, List.set_cons_zero, List.set_cons_succ]
            refine wpAnyH_ready (rs := [2]) (by kernel_rfl) (by simp) (AllReadyH.cons (o := _) rfl (fun K hK => ?_) AllReadyH.nil)
            try simp only [List.getElem_toArray, List.getElem_cons_zero, List.getElem_cons_succ]
            go_simp
            refine Calls.mono (HT.out _ (HPd.out _ rfl).1) ?_
            rintro e w5 ⟨rfl, hs, hg5⟩
            exact ⟨rfl, rfl, hs, grown_trans HG3.out (grown_trans (grown_of_below (below_drewN' w3 1) _) hg5)⟩
          · simp only [List.getElem_toArray, List.getElem_cons_zero, List.getElem_cons_succ]
            go_simp
            refine Calls.mono (HT.out _ (HPd.out _ rfl).1) ?_
            rintro e w5 ⟨rfl, hs, hg5⟩
            exact ⟨rfl, rfl, hs, grown_trans HG3.out (grown_trans (grown_of_below (below_drewN' w3 1) _) hg5)⟩
        | ok p =>
          obtain ⟨lo, n, r2⟩ := p
          have HRe : Hid (R = items f' (addTo k lo n) r2) := by
            have h := HI2.out
            rw [hit] at h
            exact h
          have HT := hid (item_ok g s a' v (c :: r) lo n r2 hit)
          have HIL := hid (itm_len _ _ _ _ hit)
          have HO := hid (or_rng HK.out lo n HIL.out.1)
          have HE2 := hid (either_any k (rng lo n))
          clear HI2 hit
          go_wp2_with fail
          refine wp_panicIs (fun ch ds w' => False) (fun _ _ _ h => h.elim) ?_
          go_region_with (first
            | (go_at_call 146; refine Calls.mono (HT.out _ (HPd.out _ rfl).1) ?_; rintro e w5 ⟨rfl, ⟨a5, hp5⟩, hg5⟩; obtain ⟨q0, q1, q2, q3, r0, r1, r2', r3⟩ := ((HPd.out _ rfl).2.grown hg5 n1).all)
            | (go_at_call 145; refine Calls.mono (HE2.out _) ?_; rintro e w6 ⟨rfl, hb6⟩; obtain ⟨q0, q1, q2, q3, r0, r1, r2', r3⟩ := (((HPd.out _ rfl).2.grown hg5 n1).below hb6 ((HPd.out _ rfl).2.grown hg5 n1).lt).all))
          all_goals refine PanicIs.normal ?_
          all_goals go_wp2_with fail
          all_goals
            have hB7 : Below w.heap.size w6 (put4 w6 B (k.or (rng lo n))) := below_put4 (Below.refl _ _) (by have := HBs.out; omega) _
            have hC7 := (((HPd.out _ rfl).2.grown hg5 n1).below hb6 ((HPd.out _ rfl).2.grown hg5 n1).lt).put4 (k.or (rng lo n))
            have hC8 : Hb (put4 w6 B (k.or (rng lo n))) B (addTo k lo n) := by rw [← HO.out]; exact hC7
            have hZ5 := (HZ3.out.drew).grown hg5 (by omega)
            have hP7 := (hp5.below hb6).belowB hB7 hlt
            refine ⟨⟨f', addTo k lo n, r2, a5, HRe.out.symm, ?_, addTo_ok HK.out lo n, hP7, hC8, (hZ5.below hb6 hZ5.lt).other4 _ (by have := HBs.out; omega), grown_below (grown_trans HG3.out (grown_trans (grown_of_below (below_drewN' w3 1) _) (grown_trans hg5 (grown_of_below hb6 _)))) hB7⟩, ?_⟩
            · have h1 := HF.out
              have h2 := HIL.out.2
              omega
            · have h1 := hP7.plc
              have h2 := HPL.out
              have h3 := hP7.le
              have h4 := HP3.out.le
              have h5 := HIL.out.2
              show s.size - plc (put4 w6 B (k.or (rng lo n))) g < s.size - plc wr g
              rw [h1, h2]
              omega
set_option maxHeartbeats 1000000 in
theorem items_hat (g : Nat) (s : ByteArray) (a : Nat) (v : Value) (l : List UInt8) (w : World) (h : PA w g s a v (94 :: l)) :
    Calls Tryz.prog 132 #[.pointer (some ⟨g, 0, none⟩)] w (ItP w g s v C4.not (items (l.length + 1) z4 l)) := by
  have hlt := h.lt
  have HP := hid (fun o => h.below (new_block w o))
  obtain ⟨R, hR⟩ : ∃ R, R = items (l.length + 1) z4 l := ⟨_, rfl⟩
  rw [← hR]
  have HR := hid hR
  clear h hR
  go_enter_defers Tryz.func132, Tryz.ntmps132
  go_wp2_with fail
  refine Calls.mono (skip_yes g s a v l 94 _ rfl _ (HP.out _)) ?_
  rintro e w1 ⟨rfl, hp1, hg⟩
  have HZ : Hid (Hb w1 w.heap.size z4) := (Hb.new w z4 _ rfl).grown hg (by omega)
  have HB := hid (grown_trans (grown_of_below (new_block w (.cells z4.cells 104)) (some g)) hg)
  have HP1 := hid hp1
  clear hg hp1 HP
  go_wp2_with fail
  obtain ⟨B, hBe⟩ : ∃ B, B = w1.heap.size := ⟨_, rfl⟩
  have HBs := hid (show w.heap.size < B ∧ g < w.heap.size from ⟨by have := HZ.out.lt; omega, hlt⟩)
  have HST : Hid (ItR w g s v B R (w1.alloc (.cells z4.cells 104))) := ⟨l.length + 1, z4, l, a + 1, HR.out.symm, by omega, z4_ok, HP1.out.below (new_block _ _), Hb.new w1 z4 B hBe, HZ.out.alloc _, grown_trans HB.out (grown_of_below (new_block _ _) _)⟩
  rw [← hBe]
  clear HP1 HZ HB HR
  have HE := hid hBe
  clear hBe
  go_loopw [] (fun wr => ItR w g s v B R wr) (fun wr => s.size - plc wr g)
  case atStart => exact HST.out
  case round =>
    clear HST
    obtain ⟨f, k, l', a', hI, hf, hk, hp, hC, hZ, hG⟩ := hrel
    have HI := hid hI
    have HP := hid hp
    have HC := hid hC
    have HZ := hid hZ
    have HG := hid hG
    have HK := hid hk
    have HF := hid hf
    clear hI hf hk hp hC hZ hG
    cases l' with
    | nil =>
      go_wp2_with fail
      refine Calls.mono (more_nil g s a' v _ HP.out) ?_
      rintro e w2 ⟨rfl, hb2⟩
      obtain ⟨x0, x1, x2, x3, y0, y1, y2, y3⟩ := (HC.out.below hb2 HC.out.lt).all
      obtain ⟨z0, z1, z2, z3, t0, t1, t2, t3⟩ := (HZ.out.below hb2 HZ.out.lt).all
      have HP2 := hid (HP.out.below hb2)
      have HG2 := hid (grown_trans HG.out (grown_of_below hb2 _))
      have HRe : Hid (R = .error 0) := HI.out.symm.trans (items_end f k (by have := HF.out; omega))
      have hZ2 := HZ.out.below hb2 HZ.out.lt
      clear hb2
      go_wp2_with fail
      refine Calls.mono (not_any k _) ?_
      rintro e w9 ⟨rfl, hb9⟩
      clear z0 z1 z2 z3 t0 t1 t2 t3
      obtain ⟨z0, z1, z2, z3, t0, t1, t2, t3⟩ := (hZ2.below hb9 hZ2.lt).all
      replace HP2 := hid (HP2.out.below hb9)
      replace HG2 := hid (grown_trans HG2.out (grown_of_below hb9 _))
      clear hZ2 hb9
      go_wp2_with fail
      have hB4 : Below w.heap.size w9 (put4 w9 w.heap.size k.not) := below_put4 (Below.refl _ _) (Nat.le_refl _) k.not
      refine door_no _ _ _ 93 g s a' v [] _ (HP2.out.belowB hB4 hlt) (by simp) ?_
      intro w4 hs hg4
      rw [HRe.out]
      exact ⟨by simp, hs, grown_trans (grown_below HG2.out hB4) hg4⟩
    | cons c r =>
      go_wp2_with fail
      refine Calls.mono (more_cons g s a' v c r _ HP.out) ?_
      rintro e w2 ⟨rfl, hb2⟩
      go_wp2_with fail
      refine Calls.mono (rsees_any g s a' v _ 93 _ rfl _ (HP.out.below hb2)) ?_
      rintro e w3 ⟨rfl, hb3⟩
      by_cases hc : c = 93
      · subst hc
        have HX : Hid (decide ((93 :: r).head? = some 93) = true) := by show _ = _; simp
        rw [HX.out]
        have hb23 := hb2.trans (hb3.mono hb2.size)
        obtain ⟨x0, x1, x2, x3, y0, y1, y2, y3⟩ := (HC.out.below hb23 HC.out.lt).all
        obtain ⟨z0, z1, z2, z3, t0, t1, t2, t3⟩ := (HZ.out.below hb23 HZ.out.lt).all
        have HP2 := hid (HP.out.below hb23)
        have HZ2 := hid (HZ.out.below hb23 HZ.out.lt)
        have HG2 := hid (grown_trans HG.out (grown_of_below hb23 _))
        have HRe : Hid (R = .ok (k, r)) := HI.out.symm.trans (items_stop f k r (by have := HF.out; omega))
        clear hb2 hb3 hb23
        go_wp2_with fail
        refine Calls.mono (not_any k _) ?_
        rintro e w9 ⟨rfl, hb9⟩
        clear z0 z1 z2 z3 t0 t1 t2 t3
        obtain ⟨z0, z1, z2, z3, t0, t1, t2, t3⟩ := (HZ2.out.below hb9 HZ2.out.lt).all
        replace HP2 := hid (HP2.out.below hb9)
        replace HZ2 := hid (HZ2.out.below hb9 HZ2.out.lt)
        replace HG2 := hid (grown_trans HG2.out (grown_of_below hb9 _))
        clear hb9
        go_wp2_with fail
        have hB4 : Below w.heap.size w9 (put4 w9 w.heap.size k.not) := below_put4 (Below.refl _ _) (Nat.le_refl _) k.not
        refine door_yes _ _ _ 93 g s a' v r _ (HP2.out.belowB hB4 hlt) ?_
        intro w4 hp4 hg4
        have hq := (HZ2.out.put4 k.not).grown hg4 (by omega)
        refine ⟨k.not.v, by simp [results, Tryz.results132, go_sem, hq.c0, hq.c1, hq.c2, hq.c3], ?_⟩
        rw [HRe.out]
        exact ⟨rfl, ⟨_, hp4⟩, grown_trans (grown_below HG2.out hB4) hg4⟩
      · have HX : Hid (decide ((c :: r).head? = some 93) = false) := by show _ = _; simp [hc]
        rw [HX.out]
        have hb23 := hb2.trans (hb3.mono hb2.size)
        have HP3 := hid (HP.out.below hb23)
        have HC3 := hid (HC.out.below hb23 HC.out.lt)
        have HZ3 := hid (HZ.out.below hb23 HZ.out.lt)
        have HG3 := hid (grown_trans HG.out (grown_of_below hb23 _))
        have HPL := hid (show plc wr g = a' from HP.out.plc)
        clear HP HC HZ HG hb2 hb3 hb23 HX
        have HN := hid (show (c :: r).head? ≠ some 93 from by simp [hc])
        clear hc
        obtain ⟨f', hf'⟩ : ∃ f', f = f' + 1 := ⟨f - 1, by have := HF.out; omega⟩
        subst hf'
        have HI2 := hid (HI.out.symm.trans (items_itm f' k (c :: r) HN.out))
        clear HI
        have n1 : ¬ B = g := by have := HBs.out; omega
        obtain ⟨x0, x1, x2, x3, y0, y1, y2, y3⟩ := HC3.out.all
        have HPd : Hid (∀ w' : World, w' = w3.drew → PA w' g s a' v (c :: r) ∧ Hb w' B k) := by
          rintro _ rfl
          exact ⟨HP3.out.below (below_drewN' w3 1), HC3.out.drew⟩
        cases hit : itm (c :: r) with
        | error k' =>
          have HRe : Hid (R = .error k') := by
            have h := HI2.out
            rw [hit] at h
            exact h
          have HT := hid (item_bad g s a' v (c :: r) k' hit)
          clear HI2 hit
          go_wp2_with fail
          refine wp_panicIs (fun ch ds w' => ch = mis ((s.size : Int) - (k' : Int)) ∧ ds = [dclose g 93] ∧ Stk w' g ∧ w.grownBy w' (some g)) ?_ ?_
          · rintro ch a1 w5 ⟨rfl, hds, hs, hg5⟩
            show Leaves _ _ a1.tmps _ a1.defers _ _
            rw [hds]
            refine door_stuck _ _ _ _ _ g _ hs ?_
            intro w6 hb6
            rw [HRe.out]
            exact ⟨rfl, hs.below hb6, grown_trans hg5 (grown_of_below hb6 _)⟩
          refine wp_region_held_drew (S := fun _ => True) (by kernel_rfl) trivial (fun _ => ?_)
          refine wpAnyH_take (i := 1) (oi := _) (v := ?_) rfl (by kernel_rfl) (by kernel_rfl) (by kernel_rfl) (fun _ _ _ h => h) (Or.inl ⟨by rfl, ?_⟩) trivial ?_
          rotate_left
          · (intro w hSw; simp only [List.getElem_toArray, List.getElem_cons_zero, List.getElem_cons_succ]; go_simp; try with_reducible rfl)
          simp only [List.getElem_toArray, List.getElem_cons_zero, List.getElem_cons_succ, Act.put, List.setIfInBounds_toArray, List.set_cons_zero, List.set_cons_succ]
          refine wpAnyH_ready (rs := [0, 2]) (by kernel_rfl) (by simp) (AllReadyH.cons (o := _) rfl (fun K hK => ?_) (AllReadyH.cons (o := _) rfl (fun K hK => ?_) AllReadyH.nil))
          · simp only [List.getElem_toArray, List.getElem_cons_zero, List.getElem_cons_succ]
            go_simp
            refine hK.out _ _ trivial (fun _ => ?_)
            clear hK K
            try simp only [List.getElem_toArray, List.getElem_cons_zero, List.getElem_cons_succ, Act.put, List.setIfInBounds_toArray, List.set_cons_zero, List.set_cons_succ]
            refine wpAnyH_ready (rs := [2]) (by kernel_rfl) (by simp) (AllReadyH.cons (o := _) rfl (fun K hK => ?_) AllReadyH.nil)
            try simp only [List.getElem_toArray, List.getElem_cons_zero, List.getElem_cons_succ]
            go_simp
            refine Calls.mono (HT.out _ (HPd.out _ rfl).1) ?_
            rintro e w5 ⟨rfl, hs, hg5⟩
            exact ⟨rfl, rfl, hs, grown_trans HG3.out (grown_trans (grown_of_below (below_drewN' w3 1) _) hg5)⟩
          · simp only [List.getElem_toArray, List.getElem_cons_zero, List.getElem_cons_succ]
            go_simp
            refine Calls.mono (HT.out _ (HPd.out _ rfl).1) ?_
            rintro e w5 ⟨rfl, hs, hg5⟩
            exact ⟨rfl, rfl, hs, grown_trans HG3.out (grown_trans (grown_of_below (below_drewN' w3 1) _) hg5)⟩
        | ok p =>
          obtain ⟨lo, n, r2⟩ := p
          have HRe : Hid (R = items f' (addTo k lo n) r2) := by
            have h := HI2.out
            rw [hit] at h
            exact h
          have HT := hid (item_ok g s a' v (c :: r) lo n r2 hit)
          have HIL := hid (itm_len _ _ _ _ hit)
          have HO := hid (or_rng HK.out lo n HIL.out.1)
          have HE2 := hid (either_any k (rng lo n))
          clear HI2 hit
          go_wp2_with fail
          refine wp_panicIs (fun ch ds w' => False) (fun _ _ _ h => h.elim) ?_
          go_region_with (first
            | (go_at_call 146; refine Calls.mono (HT.out _ (HPd.out _ rfl).1) ?_; rintro e w5 ⟨rfl, ⟨a5, hp5⟩, hg5⟩; obtain ⟨q0, q1, q2, q3, r0, r1, r2', r3⟩ := ((HPd.out _ rfl).2.grown hg5 n1).all)
            | (go_at_call 145; refine Calls.mono (HE2.out _) ?_; rintro e w6 ⟨rfl, hb6⟩; obtain ⟨q0, q1, q2, q3, r0, r1, r2', r3⟩ := (((HPd.out _ rfl).2.grown hg5 n1).below hb6 ((HPd.out _ rfl).2.grown hg5 n1).lt).all))
          all_goals refine PanicIs.normal ?_
          all_goals go_wp2_with fail
          all_goals
            have hB7 : Below w.heap.size w6 (put4 w6 B (k.or (rng lo n))) := below_put4 (Below.refl _ _) (by have := HBs.out; omega) _
            have hC7 := (((HPd.out _ rfl).2.grown hg5 n1).below hb6 ((HPd.out _ rfl).2.grown hg5 n1).lt).put4 (k.or (rng lo n))
            have hC8 : Hb (put4 w6 B (k.or (rng lo n))) B (addTo k lo n) := by rw [← HO.out]; exact hC7
            have hZ5 := (HZ3.out.drew).grown hg5 (by omega)
            have hP7 := (hp5.below hb6).belowB hB7 hlt
            refine ⟨⟨f', addTo k lo n, r2, a5, HRe.out.symm, ?_, addTo_ok HK.out lo n, hP7, hC8, (hZ5.below hb6 hZ5.lt).other4 _ (by have := HBs.out; omega), grown_below (grown_trans HG3.out (grown_trans (grown_of_below (below_drewN' w3 1) _) (grown_trans hg5 (grown_of_below hb6 _)))) hB7⟩, ?_⟩
            · have h1 := HF.out
              have h2 := HIL.out.2
              omega
            · have h1 := hP7.plc
              have h2 := HPL.out
              have h3 := hP7.le
              have h4 := HP3.out.le
              have h5 := HIL.out.2
              show s.size - plc (put4 w6 B (k.or (rng lo n))) g < s.size - plc wr g
              rw [h1, h2]
              omega
/-- A class in brackets, whole. -/
theorem items_any (g : Nat) (s : ByteArray) (a : Nat) (v : Value) (l : List UInt8) (w : World) (h : PA w g s a v l) :
    Calls Tryz.prog 132 #[.pointer (some ⟨g, 0, none⟩)] w (ItP w g s v id (bracket l)) := by
  unfold bracket
  by_cases hl : l.head? = some 94
  · rw [if_pos hl]
    obtain ⟨e, hn⟩ := tail_len l _ hl
    rw [e] at h
    have h2 := items_hat g s a v l.tail w h
    rw [hn] at h2
    cases hI : items l.length z4 l.tail with
    | error k => rw [hI] at h2; exact h2
    | ok p => obtain ⟨c, r⟩ := p; rw [hI] at h2; exact h2
  · rw [if_neg hl]
    exact items_no g s a v l hl w h
end Go.Proofs.YtejbififfceamaaGreatDoor
namespace Go.Proofs.YtejbififfceamaaGreatDoor
set_option linter.unusedSimpArgs false
set_option linter.unusedVariables false
open Go.RowKit
variable {P : Program}

/-- Cells written over others, from a place on. -/
def over (cur : Array Value) : Nat → List Value → Array Value
  | _, [] => cur
  | o, v :: r => over (cur.set! o v) (o + 1) r
theorem heap_over (b : Nat) (e : TypeId) (fz : Nat × Nat) : ∀ (vs : List Value) (o : Nat) (cur : Array Value) (w : World), w.heap[b]? = some (.cells cur e fz) → (w.setCells b o vs).heap[b]? = some (.cells (over cur o vs) e fz)
  | [], o, cur, w, h => h
  | v :: r, o, cur, w, h => by
    rw [World.setCells, over]
    refine heap_over b e fz r (o + 1) _ _ ?_
    simp [World.setCell, Array.getElem?_modify, h]
theorem over_size : ∀ (vs : List Value) (o : Nat) (cur : Array Value), (over cur o vs).size = cur.size
  | [], o, cur => rfl
  | v :: r, o, cur => by rw [over, over_size r]; simp
theorem over_list : ∀ (vs : List Value) (o : Nat) (cur : Array Value), o + vs.length ≤ cur.size → (over cur o vs).toList = cur.toList.take o ++ vs ++ cur.toList.drop (o + vs.length)
  | [], o, cur, h => by simp [over]
  | v :: r, o, cur, h => by
    simp only [List.length_cons] at h
    rw [over, over_list r (o + 1) _ (by simp; omega)]
    have e1 : (cur.set! o v).toList = cur.toList.set o v := by simp
    rw [e1]
    have e2 : (cur.toList.set o v).take (o + 1) = cur.toList.take o ++ [v] := by
      rw [List.take_set, List.take_add_one, List.getElem?_eq_getElem (by simp; omega)]
      have hm : min o cur.size = o := by omega
      rw [List.set_append]
      simp [hm]
    rw [e2]
    have e3 : (cur.toList.set o v).drop (o + 1 + r.length) = cur.toList.drop (o + (v :: r).length) := by
      rw [List.drop_set_of_lt (by omega)]
      simp
      congr 1
      omega
    rw [e3]
    simp
theorem other_over (b : Nat) : ∀ (vs : List Value) (o : Nat) (w : World) (k : Nat), k ≠ b → (w.setCells b o vs).heap[k]? = w.heap[k]?
  | [], o, w, k, h => rfl
  | v :: r, o, w, k, h => by
    rw [World.setCells, other_over b r (o + 1) _ k h]
    exact Below.heap_setCell w _ v k h
theorem size_over (b : Nat) : ∀ (vs : List Value) (o : Nat) (w : World), (w.setCells b o vs).heap.size = w.heap.size
  | [], o, w => rfl
  | v :: r, o, w => by rw [World.setCells, size_over b r]; simp [World.setCell]
theorem meta_over (b : Nat) : ∀ (vs : List Value) (o : Nat) (w : World), (w.setCells b o vs).os = w.os ∧ (w.setCells b o vs).tape = w.tape ∧ (w.setCells b o vs).output = w.output
  | [], o, w => ⟨rfl, rfl, rfl⟩
  | v :: r, o, w => by rw [World.setCells]; exact meta_over b r (o + 1) _
theorem run_copy_wide (w : World) (dT sT ty elem : TypeId) (i : TypeInfo) (b o dLen dCap : Nat) (a : Addr) (sLen sCap : Nat) (n size : Nat) (cs : List Value)
    (hu : P.underlying dT = some (.slice elem)) (hi : P.info? elem = some i) (hs : i.size = size) (hn : n = Nat.min sLen dLen) (hl : cs.length = n * size)
    (hsrc : ∀ j v, cs[j]? = some v → w.cell? (a.add j) = some v) (hc : ∀ j, j < cs.length → (w.cell? ⟨b, o + j, none⟩).isSome = true) (hf : ∀ j, j < cs.length → w.frozen? ⟨b, o + j, none⟩ = false) (h1 : ∀ v ∈ cs, v.oneCell' = true) :
    (Builtin.copy_ #[dT, sT] ty #[.slice (some ⟨b, o, none⟩) dLen dCap, .slice (some a) sLen sCap]).run P w = .ok (goInt n) (w.setCells b o cs) := by
  have hl2 := run_loadCells_list (P := P) w a cs hsrc
  have hst := run_storeCells_cells (P := P) b o cs 0 w (by simpa using hc) (by simpa using hf) h1
  rw [hl] at hl2
  subst hs
  simp [Builtin.copy_, run_underlying hu, Builtin.lenOf, Builtin.firstCells, sizeOf, typeInfo, hi, ← hn, hl2, hst]
end Go.Proofs.YtejbififfceamaaGreatDoor
namespace Go.Proofs.YtejbififfceamaaGreatDoor
set_option linter.unusedSimpArgs false
set_option linter.unusedVariables false
set_option maxRecDepth 100000
open Go.RowKit
theorem shape_of_heap {w : World} {b : Nat} {cur : Array Value} {T : TypeId} {fz : Nat × Nat} (h : w.heap[b]? = some (.cells cur T fz)) : w.shape? b = some (T, cur.size) := by simp [World.shape?, h]
theorem info_node : ∃ i0, Tryz.prog.info? 106 = some i0 ∧ i0.zero = some (.agg #[.int .i64 0, .int .u64 0, .int .u64 0, .int .u64 0, .int .u64 0]) ∧ i0.size = 5 ∧ i0.bytes = 40 := by
  have hinfo : (Tryz.prog.info? 106).map (fun i => (i.zero, i.size, i.bytes)) = some (some (.agg #[.int .i64 0, .int .u64 0, .int .u64 0, .int .u64 0, .int .u64 0]), 5, 40) := by kernel_rfl
  obtain ⟨i0, hi, hz0, hz1, hz2⟩ := info_parts hinfo
  exact ⟨i0, hi, hz0, hz1, hz2⟩
set_option maxHeartbeats 4000000 in
theorem insert_room (b n c i vb : Nat) (cur : Array Value) (T : TypeId) (xo : Array Value) (ds xs : List Value) (w : World) (hi : i < n) (hroom : n + 1 ≤ c) (hc63 : c ≤ 9223372036854775807) (hvb : vb ≠ b)
    (hb : w.heap[b]? = some (.cells cur 106 (0, 0))) (hcur : cur.size = c * 5) (hv : w.heap[vb]? = some (.cells xo T (0, 0)))
    (hds : ds.length = (n - i) * 5) (hxs : xs.length = 1 * 5) (hd1 : ∀ u ∈ ds, u.oneCell' = true) (hx1 : ∀ u ∈ xs, u.oneCell' = true)
    (hdc : ∀ j u, ds[j]? = some u → w.cell? ⟨b, i * 5 + j, none⟩ = some u) (hxc : ∀ j u, xs[j]? = some u → w.cell? ⟨vb, j, none⟩ = some u) :
    Calls Tryz.prog 95 #[.slice (some ⟨b, 0, none⟩) n c, .int .i64 i, .slice (some ⟨vb, 0, none⟩) 1 1] w fun e w' => e = .returned (.slice (some ⟨b, 0, none⟩) (n + 1) c) ∧ w' = (w.drew.setCells b ((i + 1) * 5) ds).setCells b (i * 5) xs := by
  have hz2 : ¬ ((i : Int) = (n : Int)) := by omega
  have hw0 : IntKind.i64.wrap ((n : Int) + 1) = (n : Int) + 1 := by rw [IntKind.wrap_i64]; omega
  have hw1 : IntKind.i64.wrap ((i : Int) + 1) = (i : Int) + 1 := by rw [IntKind.wrap_i64]; omega
  have hb1 : (0 : Int) ≤ (i : Int) + 1 := by omega
  have hin : i ≤ n := by omega
  have hin2 : (i : Int) ≤ (n : Int) := by omega
  have hn3 : ¬ ((c : Int) < (n : Int) + 1) := by omega
  have htn : ((i : Int) + 1).toNat = i + 1 := by omega
  have htn2 : ((n : Int) + 1).toNat = n + 1 := by omega
  have hb2 : ¬ (c = i + 1) := by omega
  have hb3 : (i : Int) ≤ (n : Int) + 1 := by omega
  have hb4 : ¬ (c = i) := by omega
  have hov : ∀ lb cb, (callFunc 119 #[.slice (some ⟨vb, 0, none⟩) 1 1, .slice (some ⟨b, (i + 1) * 5, none⟩) lb cb]).run Tryz.prog w = .ok (.value (.bool false)) w := fun lb cb => by
    rw [run_callFunc_extern Tryz.func119 (by kernel_rfl) (by kernel_rfl) (by kernel_rfl) (e := Extern.SlicesOverlaps.overlaps #[60, 60] #[4]) (by kernel_rfl),
      Lib.run_overlaps_apart w 60 4 106 Tryz.underlying60 5 (fun w => by exact Tryz.sizeOf106 w) ⟨vb, 0, none⟩ ⟨b, (i + 1) * 5, none⟩ 1 1 lb cb hvb T 106 xo.size cur.size (shape_of_heap hv) (shape_of_heap hb) (by omega) (Lib.frozen_of_heap hv _) (Lib.frozen_of_heap hv _)]
    rfl
  obtain ⟨i0, hi0, hz0, hzs, hzb⟩ := info_node
  have hcell : ∀ j, j < c * 5 → (w.cell? ⟨b, j, none⟩).isSome = true := fun j hj => by
    rw [Lib.cell_of_heap hb, Array.getElem?_eq_getElem (by omega)]; rfl
  have hcp1 : ∀ ty dc sc, (Builtin.copy_ #[60, 60] ty #[.slice (some ⟨b, (i + 1) * 5, none⟩) (n - i) dc, .slice (some ⟨b, i * 5, none⟩) (n + 1 - i) sc]).run Tryz.prog w.drew = .ok (goInt ((n - i : Nat) : Int)) (w.drew.setCells b ((i + 1) * 5) ds) := fun ty dc sc =>
    run_copy_wide w.drew _ _ ty 106 i0 b ((i + 1) * 5) (n - i) dc ⟨b, i * 5, none⟩ (n + 1 - i) sc (n - i) 5 ds Tryz.underlying60 hi0 hzs (by simp only [Nat.min_def]; split <;> omega) hds
      (fun j u hj => by rw [Addr.add_lit]; exact hdc j u hj)
      (fun j hj => hcell _ (by omega)) (fun j hj => Lib.frozen_of_heap hb _) hd1
  obtain ⟨W1, hW1⟩ : ∃ W1, W1 = w.drew.setCells b ((i + 1) * 5) ds := ⟨_, rfl⟩
  have hbW : W1.heap[b]? = some (.cells (over cur ((i + 1) * 5) ds) 106 (0, 0)) := by rw [hW1]; exact heap_over b _ _ ds _ cur w.drew hb
  have hcp2 : ∀ ty dc, (Builtin.copy_ #[60, 60] ty #[.slice (some ⟨b, i * 5, none⟩) (n + 1 - i) dc, .slice (some ⟨vb, 0, none⟩) 1 1]).run Tryz.prog W1 = .ok (goInt ((1 : Nat) : Int)) (W1.setCells b (i * 5) xs) := fun ty dc =>
    run_copy_wide W1 _ _ ty 106 i0 b (i * 5) (n + 1 - i) dc ⟨vb, 0, none⟩ 1 1 1 5 xs Tryz.underlying60 hi0 hzs (by simp only [Nat.min_def]; split <;> omega) hxs
      (fun j u hj => by
        rw [Addr.add_lit, hW1, World.cell?_setCells_out b _ _ _ _ (fun h _ => absurd h hvb), Nat.zero_add]
        exact hxc j u hj)
      (fun j hj => by rw [Lib.cell_of_heap hbW, Array.getElem?_eq_getElem (by rw [over_size]; omega)]; rfl) (fun j hj => Lib.frozen_of_heap hbW _) hx1
  rw [← hW1] at hcp1 ⊢
  clear hW1
  go_enter Tryz.func95, Tryz.ntmps95
  have mixed : Tryz.prog.follows .mixedOrders = true := by kernel_rfl
  go_wp2_with (simp only [hov])
  go_region_law_o (refine step_copy_runI rfl _ _ 60 60 rfl _ _ (by simp [Act.eval, Act.put]) (by simp [Act.eval, Act.put]) (hcp1 _ _ _) ?_)
  go_wp2_with (at_builtin; refine wpList_copy_runI _ rfl _ _ 60 60 rfl _ _ rfl rfl (hcp2 _ _) ?_)
  go_ret
  exact ⟨rfl, rfl⟩
set_option maxHeartbeats 4000000 in
theorem insert_grow (b n c i vb : Nat) (os ds xs : List Value) (w : World) (hi : i < n) (hnc : n ≤ c) (hroom : c < n + 1) (hbig : (n + 1) * 40 ≤ 140737488355328)
    (hos : os.length = i * 5) (hds : ds.length = (n - i) * 5) (hxs : xs.length = 1 * 5) (hd1 : ∀ u ∈ ds, u.oneCell' = true) (hx1 : ∀ u ∈ xs, u.oneCell' = true)
    (hoc : ∀ j u, os[j]? = some u → w.cell? ⟨b, j, none⟩ = some u) (hdc : ∀ j u, ds[j]? = some u → w.cell? ⟨b, i * 5 + j, none⟩ = some u) (hxc : ∀ j u, xs[j]? = some u → w.cell? ⟨vb, j, none⟩ = some u) :
    Calls Tryz.prog 95 #[.slice (some ⟨b, 0, none⟩) n c, .int .i64 i, .slice (some ⟨vb, 0, none⟩) 1 1] w fun e w' => ∃ (G : Nat) (ROW : Array Value), n + 1 ≤ G ∧ G ≤ maxLen ∧ ROW.size = G * 5 ∧ ROW.toList.take (i * 5) = os ∧
      e = .returned (.slice (some ⟨w.heap.size, 0, none⟩) (n + 1) G) ∧ w' = (((w.alloc (.cells ROW 106)).drew.setCells w.heap.size (i * 5) xs).drew).setCells w.heap.size ((i + 1) * 5) ds := by
  have hz2 : ¬ ((i : Int) = (n : Int)) := by omega
  have hw0 : IntKind.i64.wrap ((n : Int) + 1) = (n : Int) + 1 := by rw [IntKind.wrap_i64]; omega
  have hw1 : IntKind.i64.wrap ((i : Int) + 1) = (i : Int) + 1 := by rw [IntKind.wrap_i64]; omega
  have hw2 : IntKind.i64.wrap ((n : Int) + 1 - (i : Int)) = (n : Int) + 1 - (i : Int) := by rw [IntKind.wrap_i64]; omega
  have hb1 : (0 : Int) ≤ (i : Int) + 1 := by omega
  have hin : i ≤ n := by omega
  have hin2 : (i : Int) ≤ (n : Int) := by omega
  have hn3 : ((c : Int) < (n : Int) + 1) := by omega
  have htn : ((i : Int) + 1).toNat = i + 1 := by omega
  have htn2 : ((n : Int) + 1).toNat = n + 1 := by omega
  have hb3 : (i : Int) ≤ (n : Int) + 1 := by omega
  have hci : ¬ (c = i) := by omega
  have mixed : Tryz.prog.follows .mixedOrders = true := by kernel_rfl
  obtain ⟨i0, hi0, hz0, hzs, hzb⟩ := info_node
  have hbw : b < w.heap.size := by
    cases ds with
    | nil => simp at hds; omega
    | cons u r => exact block_lt_of_cell (hdc 0 u rfl)
  have hvw : vb < w.heap.size := by
    cases xs with
    | nil => simp at hxs
    | cons u r => exact block_lt_of_cell (hxc 0 u rfl)
  have hkk : (n : Int) + 1 - (i : Int) = ((n + 1 - i : Nat) : Int) := by omega
  have hik : i + (n + 1 - i) = n + 1 := by omega
  have hold : (Builtin.firstCells i0.size i (.slice (some ⟨b, 0, none⟩) i c)).run Tryz.prog w.drew = .ok os.toArray w.drew := by
    rw [hzs]
    exact run_firstCells_some w.drew 5 i ⟨b, 0, none⟩ i c os hos (fun j u hj => by rw [Addr.add_lit, Nat.zero_add]; exact hoc j u hj)
  obtain ⟨G, hG⟩ : ∃ G, G = grownCap w (n + 1) c 106 := ⟨_, rfl⟩
  have hGn : n + 1 ≤ G := by rw [hG]; exact grownCap_ge w _ _ _
  have hGm : G ≤ maxLen := by rw [hG]; exact grownCap_le_maxLen w _ _ _ (by unfold maxLen; omega)
  have hrz : ∀ ty, ∃ ROW : Array Value, ROW.size = G * 5 ∧ ROW.toList.take (i * 5) = os ∧ (Builtin.append_ #[60, 3] ty #[.slice (some ⟨b, 0, none⟩) i c, .int .i64 ((n : Int) + 1 - (i : Int))]).run Tryz.prog w =
      .ok (.slice (some ⟨w.heap.size, 0, none⟩) (n + 1) G) (w.drew.alloc (.cells ROW 106)) := fun ty => by
    have h := Lib.run_append_grow_zeros w 60 3 ty 106 i0 _ .i64 .i64 Tryz.underlying60 Tryz.underlying3 hi0 hz0 (some ⟨b, 0, none⟩) i c os hold (n + 1 - i) (by omega) (by omega) (by omega) (by omega) (by rw [hzb]; omega) (by rw [hzb, hik]; exact growslice_fits hroom hbig)
    rw [hik, ← hG] at h
    rw [hkk]
    refine ⟨_, ?_, ?_, h⟩
    · simp [Builtin.zeroCells, Value.cells]
      omega
    · simp
      rw [← hos]
      simp
  obtain ⟨ROW, hRs, hRt, hrun⟩ := hrz 60
  clear hrz hold
  have hE : w.drew.alloc (.cells ROW 106) = (w.alloc (.cells ROW 106)).drew := rfl
  rw [hE] at hrun
  clear hE
  obtain ⟨N, hN⟩ : ∃ N, N = w.heap.size := ⟨_, rfl⟩
  have hbN : b ≠ N := by omega
  have hvN : vb ≠ N := by omega
  obtain ⟨WA, hWA⟩ : ∃ WA, WA = (w.alloc (.cells ROW 106)).drew := ⟨_, rfl⟩
  have hA : WA.heap[N]? = some (.cells ROW 106 (0, 0)) := by rw [hWA, hN]; exact heap_alloc_new w _
  have hOA : ∀ k j u, k < w.heap.size → w.cell? ⟨k, j, none⟩ = some u → WA.cell? ⟨k, j, none⟩ = some u := fun k j u hk h => by
    rw [hWA]
    show (w.alloc _).cell? _ = _
    rw [World.cell?_alloc_past (w := w) _ k j hk]; exact h
  have hcpA : ∀ ty dc, (Builtin.copy_ #[60, 60] ty #[.slice (some ⟨N, i * 5, none⟩) (n + 1 - i) dc, .slice (some ⟨vb, 0, none⟩) 1 1]).run Tryz.prog WA = .ok (goInt ((1 : Nat) : Int)) (WA.setCells N (i * 5) xs) := fun ty dc =>
    run_copy_wide WA _ _ ty 106 i0 N (i * 5) (n + 1 - i) dc ⟨vb, 0, none⟩ 1 1 1 5 xs Tryz.underlying60 hi0 hzs (by simp only [Nat.min_def]; split <;> omega) hxs
      (fun j u hj => by rw [Addr.add_lit, Nat.zero_add]; exact hOA vb j u hvw (hxc j u hj))
      (fun j hj => by rw [Lib.cell_of_heap hA, Array.getElem?_eq_getElem (by omega)]; rfl) (fun j hj => Lib.frozen_of_heap hA _) hx1
  obtain ⟨WB, hWB⟩ : ∃ WB, WB = (WA.setCells N (i * 5) xs).drew := ⟨_, rfl⟩
  have hB : WB.heap[N]? = some (.cells (over ROW (i * 5) xs) 106 (0, 0)) := by rw [hWB]; exact heap_over N _ _ xs _ ROW WA hA
  have hcpB : ∀ ty dc sc, (Builtin.copy_ #[60, 60] ty #[.slice (some ⟨N, (i + 1) * 5, none⟩) (n - i) dc, .slice (some ⟨b, i * 5, none⟩) (n - i) sc]).run Tryz.prog WB = .ok (goInt ((n - i : Nat) : Int)) (WB.setCells N ((i + 1) * 5) ds) := fun ty dc sc =>
    run_copy_wide WB _ _ ty 106 i0 N ((i + 1) * 5) (n - i) dc ⟨b, i * 5, none⟩ (n - i) sc (n - i) 5 ds Tryz.underlying60 hi0 hzs (by simp only [Nat.min_def]; split <;> omega) hds
      (fun j u hj => by
        rw [Addr.add_lit, hWB]
        show (WA.setCells N (i * 5) xs).cell? _ = _
        rw [World.cell?_setCells_out N _ _ _ _ (fun h _ => absurd h hbN)]
        exact hOA b _ u hbw (hdc j u hj))
      (fun j hj => by rw [Lib.cell_of_heap hB, Array.getElem?_eq_getElem (by rw [over_size]; omega)]; rfl) (fun j hj => Lib.frozen_of_heap hB _) hd1
  rw [← hWA, ← hN] at hrun
  have hGi : ¬ (G = i) := by omega
  have hGim : ¬ (G = i + 1) := by omega
  have hRES : Hid ((((w.alloc (.cells ROW 106)).drew.setCells w.heap.size (i * 5) xs).drew).setCells w.heap.size ((i + 1) * 5) ds = WB.setCells N ((i + 1) * 5) ds) := by show _ = _; rw [hWB, hWA, hN]
  have hN2 : Hid (N = w.heap.size) := hN
  have HH := hid (And.intro hGn (And.intro hGm (And.intro hRs hRt)))
  clear hkk hik hG hGn hGm hRs hRt hA hB hOA hos hds hxs hd1 hx1 hoc hdc hxc hWA hN
  go_enter Tryz.func95, Tryz.ntmps95
  go_wp2_with (first
    | (at_builtin; refine Lib.wpList_append_run _ rfl _ _ _ _ rfl _ _ rfl rfl _ _ hrun ?_)
    | (at_builtin; refine wpList_copy_runI _ rfl _ _ 60 60 rfl _ _ rfl rfl (hcpA _ _) ?_))
  subst hWB
  go_region_law_o (refine step_copy_runI rfl _ _ 60 60 rfl _ _ (by simp [Act.eval, Act.put]) (by simp [Act.eval, Act.put]) (hcpB _ _ _) ?_)
  go_wp2
  go_ret
  refine ⟨G, ROW, HH.out.1, HH.out.2.1, HH.out.2.2.1, HH.out.2.2.2, ?_, ?_⟩
  · rw [← hN2.out]; rfl
  · rw [hRES.out]
end Go.Proofs.YtejbififfceamaaGreatDoor
