/- Package auto: begin. Package auto: next. Package auto: Longest. Package auto: New. The landed builder: add, hold, fork. The landed builder: the steps of a part. -/
import Derived.Test.YtphcncgdodhlbaaDoorY18
import Derived.Test.YtphcncgdodhlbaaDoorY13
import Derived.Test.YtphcncgdodhlbaaDoorY16
import Derived.Test.YtphcncgdodhlbaaDoorY11
import Derived.Test.YtphcncgdodhlbaaDoorY14
import Derived.Deep.RegionLaw
import Derived.Test.YtphcncgdodhlbaaDoorY03
namespace Go.Proofs.YtphcncgdodhlbaaDoor
set_option linter.unusedSimpArgs false
set_option linter.unusedVariables false
set_option maxRecDepth 100000
open Go.RowKit Go.Shelf
/-- What is stored, at a key that may be there. -/
theorem Km.store {w : World} {kt mt : TypeId} {M k : Nat} {ok : Lit → Nat → Prop} (h : Km w kt M k ok) (K : Maps.Keyed Tryd.prog kt) (hu : Tryd.prog.underlying mt = some (.map kt 113)) {key : Value} {kl : Lit} (hkey : keyOf Tryd.prog kt key = some kl) (hlt : k < maxLen) (b : Nat) (hb : ok kl b) :
    ∃ w' k', (Instr.mapUpdate mt (.map (some M)) key (.pointer (some ⟨b, 0, none⟩))).run Tryd.prog w = .ok () w' ∧ Km w' kt M k' ok ∧ w.grownBy w' (some M) := by
  obtain ⟨D, h0, hs, hk⟩ := h
  have hkl := K.key hkey
  obtain ⟨w', hrun, hown', hg⟩ := h0.update K hu (by omega) hkey (val := .pointer (some ⟨b, 0, none⟩)) (d := .held (.pointer (some ⟨b, 0, none⟩))) (ps := []) rfl
  refine ⟨w', Maps.size (D.put kl (.held (.pointer (some ⟨b, 0, none⟩)))), hrun, ⟨D.put kl (.held (.pointer (some ⟨b, 0, none⟩))), ?_, rfl, fun kl' hh' => ?_⟩, hg⟩
  · obtain ⟨es, clock, hb', F, _, e⟩ := hown'
    refine ⟨es, clock, hb', F, ?_, e⟩
    rw [e]
    simp [Maps.size, length_sorted]
  · by_cases e : kl' = kl
    · subst e
      exact ⟨b, hb, fun z => Maps.atKey_put_same h0.isMap hkl _ _⟩
    · rw [Maps.has_put_other e] at hh'
      obtain ⟨c, h4, h5⟩ := hk kl' hh'
      exact ⟨c, h4, fun z => by rw [Maps.atKey_put_other e]; exact h5 z⟩
theorem okB_small {w : World} {Mb k : Nat} {ss : List St} {g : Nat → Option (Nat → Bool)} (h : Km w 116 Mb k (okB ss g)) : k ≤ 4 := by
  refine h.small place_keyed 4 (fun n => placeL (decide (n % 2 = 1)) (decide (n / 2 = 1))) (fun kl b ⟨fi, la, e, _⟩ => ?_)
  cases fi <;> cases la
  · exact ⟨0, by omega, by rw [e]; rfl⟩
  · exact ⟨2, by omega, by rw [e]; rfl⟩
  · exact ⟨1, by omega, by rw [e]; rfl⟩
  · exact ⟨3, by omega, by rw [e]; rfl⟩
set_option maxHeartbeats 4000000 in
theorem begin_any (c : Ax) (hc : c.Good) (g : Nat → Option (Nat → Bool)) (m : Nat → Nat) (K Mb k : Nat) (w : World) (h : AuI c g m K Mb k w) (hT : Tab w) (fi la : Bool) :
    Calls Tryd.prog 49 #[c.u, pcV fi la] w (AuP c g w (begS c.ss fi la)) := by
  obtain ⟨W0, hW0⟩ : ∃ W0, w.alloc (.cells #[.bool fi, .bool la] 116) = W0 := ⟨_, rfl⟩
  have hb0 : Below w.heap.size w W0 := by rw [← hW0]; exact (Below.refl _ _).alloc (Nat.le_refl _) _
  have hq0 : W0.heap[w.heap.size]? = some (.cells #[.bool fi, .bool la] 116 (0, 0)) := by rw [← hW0]; exact World.alloc_heap_new w _
  have h0 := h.below hb0
  have hzab : w.heap.size ≠ c.ab := by have := heap_lt h.au; omega
  have hBB : Below c.B w W0 := hb0.mono (by have := h.size; omega)
  have hT0 := hT.below hb0 (Nat.le_refl _)
  have a2 := Lib.cell_of_heap h0.au 2
  have p0 := Lib.cell_of_heap hq0 0
  have p1 := Lib.cell_of_heap hq0 1
  simp only [auC, List.getElem?_toArray, List.getElem?_cons_zero, List.getElem?_cons_succ] at a2 p0 p1
  obtain ⟨kb, hbg⟩ := h0.bg
  rcases hbg.look2 place_keyed Tryd.underlying109 (place_key fi la) with ⟨σ, ⟨fi', la', hpl, hg⟩, hlook⟩ | ⟨hlook, _⟩
  · -- it is known
    obtain ⟨rfl, rfl⟩ := place_inj hpl
    have hl1 := fun n => hlook (W0.drewN n) rfl
    have HR : Hid (∀ w', Below W0.heap.size W0 w' → AuP c g w (begS c.ss fi la) (.returned (.pointer (some ⟨σ, 0, none⟩))) w') := fun w' hb => ⟨g, m, K, Mb, k, σ, rfl, h0.below hb, Gle.refl g, hg, hBB.trans (hb.mono (by have := h0.size; omega)), (Kc.below hb0).trans (Kc.below hb)⟩
    clear hlook h h0 hT hT0 hq0 hb0 hBB hg hpl hbg
    go_enter Tryd.func49, Tryd.ntmps49
    go_wp2_with fail
    go_big_quiet (fail)
    go_wp2
    go_ret
    exact HR.out _ (below_drewN' W0 nq)
  · -- it is not
    have hl1 := fun n => hlook (W0.drewN n) rfl
    have HC := hid hc
    have H0 := hid h0
    have HQ0 := hid hq0
    have HBB := hid hBB
    have HT0 := hid hT0
    have HK0 : Hid (Kc c w W0) := Kc.below hb0
    clear hlook h hT hb0 hc h0 hq0 hBB hT0 hbg
    go_enter Tryd.func49, Tryd.ntmps49
    go_wp2_with fail
    go_big_quiet (fail)
    have hbn := below_drewN' W0 nq
    have H1 := hid (H0.out.below hbn)
    have HQ1 : Hid ((W0.drewN nq).heap[w.heap.size]? = some (.cells #[.bool fi, .bool la] 116 (0, 0))) := HQ0.out
    have HT1 := hid (HT0.out.below hbn (Nat.le_refl _))
    have HB1 := hid (HBB.out.trans (hbn.mono (by have := H0.out.size; omega)))
    have HK1 := hid (HK0.out.trans (Kc.below hbn))
    clear H0 HQ0 HT0 HBB HK0 hl1 a2 p0 p1 hW0 hbn
    generalize W0.drewN nq = W1 at *
    have HS : Hid (∀ w', Kc c W1 w' → (∃ K Mb, w'.heap[c.ab]? = some (auC c K Mb)) → w'.cell? ⟨c.ab, 0, none⟩ = some (.slice (some ⟨c.b, 0, none⟩) c.ss.length c.cap) ∧ w'.cell? ⟨w.heap.size, 0, none⟩ = some (.bool fi) ∧ w'.cell? ⟨w.heap.size, 1, none⟩ = some (.bool la)) := fun w' hk ⟨K, Mb, ha⟩ => by
      have hq := hk.same _ _ HQ1.out rfl hzab
      have a0 := Lib.cell_of_heap ha 0
      have p0 := Lib.cell_of_heap hq 0
      have p1 := Lib.cell_of_heap hq 1
      simp only [auC, List.getElem?_toArray, List.getElem?_cons_zero, List.getElem?_cons_succ] at a0 p0 p1
      exact ⟨a0, p0, p1⟩
    have hS0 := HS.out W1.drew (Kc.below (Below.refl _ _).drew) ⟨K, Mb, H1.out.au⟩
    have CB := hid (sbegin_any c.ss HC.out.fault c.b 0 c.cap fi la W1.drew (HT1.out.below (Below.refl _ _).drew (Nat.le_refl _)) H1.out.blt H1.out.steps)
    have CK := hid (fun w' (hb : Below W1.drew.heap.size W1.drew w') => keep_any c HC.out g m K Mb k w' ((H1.out.below (Below.refl _ _).drew).below hb) ((HT1.out.below (Below.refl _ _).drew (Nat.le_refl _)).below hb (Nat.le_refl _)) (begS c.ss fi la) (beg_sub (leads_of HC.out.fault) (stepsF_zero HC.out.fault).2.1 fi la))
    unfold stV at CB CK
    go_upto_region 14 with fail
    go_region_held3 (fun w' => w'.cell? ⟨c.ab, 0, none⟩ = some (.slice (some ⟨c.b, 0, none⟩) c.ss.length c.cap) ∧ w'.cell? ⟨w.heap.size, 0, none⟩ = some (.bool fi) ∧ w'.cell? ⟨w.heap.size, 1, none⟩ = some (.bool la)) (first | with_reducible exact hS0 | with_reducible exact hS5 | with_reducible exact hS6 | (trace_state; fail)) (first
      | (go_at_call 75; refine CB.out.mono ?_; rintro e w5 ⟨rfl, hb5⟩; have hS5 := HS.out w5 ((Kc.below (Below.refl _ _).drew).trans (Kc.below hb5)) ⟨K, Mb, (H1.out.below ((Below.refl _ _).drew.trans hb5)).au⟩)
      | (go_at_call 74; refine (CK.out w5 hb5).mono ?_; rintro e w6 ⟨g2, m2, K2, Mb2, k2, σ, rfl, h2, hgl, hgs, hB2, hK2⟩; have hS6 := HS.out w6 (((Kc.below (Below.refl _ _).drew).trans (Kc.below hb5)).trans hK2) ⟨K2, Mb2, h2.au⟩))
    obtain ⟨kb2, hbg2⟩ := (h2.below (Below.refl _ w6).drew).bg
    obtain ⟨w9, k9, hrun, hkm, hg9⟩ := hbg2.store place_keyed Tryd.underlying109 (place_key fi la) (by have := okB_small hbg2; unfold maxLen; omega) σ ⟨fi, la, rfl, hgs⟩
    have HR : Hid (AuP c g w (begS c.ss fi la) (.returned (.pointer (some ⟨σ, 0, none⟩))) w9) := by
      have h3 := (h2.below (Below.refl _ w6).drew)
      refine ⟨g2, m2, K2, Mb2, k2, σ, rfl, h3.putB HC.out hg9 hkm, hgl, hgs, ?_, ?_⟩
      · have hb : Below c.B w w6.drew := ((HB1.out.trans ((Below.refl _ _).drew.trans (hb5.mono (by have := H1.out.size; show c.B ≤ W1.heap.size; omega)))).trans hB2).drew
        exact hb.grown hg9 (by have := h3.size; omega) (fun k e => by injection e with e; have := h3.lo; omega)
      · obtain ⟨es', cl', hM'⟩ := hbg2.heap
        exact (((HK1.out.trans ((Kc.below (Below.refl _ _).drew).trans (Kc.below hb5))).trans hK2).trans (Kc.below (Below.refl _ w6).drew)).trans (Kc.map hM' hg9 h3.outs.2.1)
    have a2 := Lib.cell_of_heap h2.au 2
    simp only [auC, List.getElem?_toArray, List.getElem?_cons_zero, List.getElem?_cons_succ] at a2
    obtain ⟨_, y0, y1⟩ := hS6
    clear h2 hkm hg9 hgl hgs hB2 hK2 hb5 hbg2
    go_wp2_with fail
    go_region
    go_wp2
    go_ret
    exact HR.out
end Go.Proofs.YtphcncgdodhlbaaDoor
namespace Go.Proofs.YtphcncgdodhlbaaDoor
set_option linter.unusedSimpArgs false
set_option linter.unusedVariables false
set_option maxRecDepth 100000
open Go.RowKit Go.Shelf
theorem okM_small {w : World} {M k : Nat} {ss : List St} {g : Nat → Option (Nat → Bool)} {p : Nat → Bool} (h : Km w 126 M k (okM ss g p)) : k ≤ 1024 := by
  refine h.small move_keyed 1024 (fun n => moveL (UInt8.ofNat (n / 4)) (decide (n % 2 = 1)) (decide (n / 2 % 2 = 1))) (fun kl b ⟨x, fi, la, e, _⟩ => ?_)
  have hx := x.toNat_lt
  have hu : ∀ r, r < 4 → UInt8.ofNat ((4 * x.toNat + r) / 4) = x := fun r hr => by
    rw [show (4 * x.toNat + r) / 4 = x.toNat by omega]
    simp
  cases fi <;> cases la
  · refine ⟨4 * x.toNat + 0, by omega, ?_⟩
    rw [e, hu 0 (by omega), decide_eq_false (by omega), decide_eq_false (by omega)]
  · refine ⟨4 * x.toNat + 2, by omega, ?_⟩
    rw [e, hu 2 (by omega), decide_eq_false (by omega), decide_eq_true (by omega)]
  · refine ⟨4 * x.toNat + 1, by omega, ?_⟩
    rw [e, hu 1 (by omega), decide_eq_true (by omega), decide_eq_false (by omega)]
  · refine ⟨4 * x.toNat + 3, by omega, ?_⟩
    rw [e, hu 3 (by omega), decide_eq_true (by omega), decide_eq_true (by omega)]
set_option maxHeartbeats 4000000 in
theorem next_any (c : Ax) (hc : c.Good) (g : Nat → Option (Nat → Bool)) (m : Nat → Nat) (K Mb k : Nat) (w : World) (h : AuI c g m K Mb k w) (hT : Tab w) (ρ : Nat) (q : Nat → Bool) (hρ : g ρ = some q) (x : UInt8) (fi la : Bool) :
    Calls Tryd.prog 52 #[c.u, .pointer (some ⟨ρ, 0, none⟩), mvV x fi la] w (AuP c g w (nxtS c.ss q x.toNat fi la)) := by
  obtain ⟨W0, hW0⟩ : ∃ W0, w.alloc (.cells #[.int .u8 (x.toNat : Int), .bool fi, .bool la] 126) = W0 := ⟨_, rfl⟩
  have hb0 : Below w.heap.size w W0 := by rw [← hW0]; exact (Below.refl _ _).alloc (Nat.le_refl _) _
  have hq0 : W0.heap[w.heap.size]? = some (.cells #[.int .u8 (x.toNat : Int), .bool fi, .bool la] 126 (0, 0)) := by rw [← hW0]; exact World.alloc_heap_new w _
  have h0 := h.below hb0
  have hzab : w.heap.size ≠ c.ab := by have := heap_lt h.au; omega
  have hBB : Below c.B w W0 := hb0.mono (by have := h.size; omega)
  have hT0 := hT.below hb0 (Nat.le_refl _)
  have hst0 := h0.st ρ q hρ
  have hρab := (h0.loS ρ q hρ).2.2
  have a2 := Lib.cell_of_heap hst0 5
  have p0 := Lib.cell_of_heap hq0 0
  have p1 := Lib.cell_of_heap hq0 1
  have p2 := Lib.cell_of_heap hq0 2
  simp only [stC, List.getElem?_toArray, List.getElem?_cons_zero, List.getElem?_cons_succ] at a2 p0 p1 p2
  obtain ⟨kb, hbg⟩ := h0.mv ρ q hρ
  rcases hbg.look2 move_keyed Tryd.underlying120 (move_key x fi la) with ⟨σ, ⟨x', fi', la', hpl, hg⟩, hlook⟩ | ⟨hlook, _⟩
  · -- it is known
    obtain ⟨rfl, rfl, rfl⟩ := move_inj hpl
    have hl1 := fun n => hlook (W0.drewN n) rfl
    have HR : Hid (∀ w', Below W0.heap.size W0 w' → AuP c g w (nxtS c.ss q x.toNat fi la) (.returned (.pointer (some ⟨σ, 0, none⟩))) w') := fun w' hb => ⟨g, m, K, Mb, k, σ, rfl, h0.below hb, Gle.refl g, hg, hBB.trans (hb.mono (by have := h0.size; omega)), (Kc.below hb0).trans (Kc.below hb)⟩
    unfold mvV at hl1 ⊢
    clear hlook h h0 hT hT0 hq0 hb0 hBB hg hpl hbg hst0
    go_enter Tryd.func52, Tryd.ntmps52
    go_wp2_with fail
    go_big_quiet (fail)
    go_wp2
    go_ret
    exact HR.out _ (below_drewN' W0 nq)
  · -- it is not
    have hl1 := fun n => hlook (W0.drewN n) rfl
    have HC := hid hc
    have H0 := hid h0
    have HQ0 := hid hq0
    have HBB := hid hBB
    have HT0 := hid hT0
    have HK0 : Hid (Kc c w W0) := Kc.below hb0
    have HST0 := hid hst0
    unfold mvV at hl1 ⊢
    clear hlook h hT hb0 hc h0 hq0 hBB hT0 hbg hst0
    go_enter Tryd.func52, Tryd.ntmps52
    go_wp2_with fail
    go_big_quiet (fail)
    have hbn := below_drewN' W0 nq
    have H1 := hid (H0.out.below hbn)
    have HQ1 : Hid ((W0.drewN nq).heap[w.heap.size]? = some (.cells #[.int .u8 (x.toNat : Int), .bool fi, .bool la] 126 (0, 0))) := HQ0.out
    have HST1 : Hid ((W0.drewN nq).heap[ρ]? = some (stC c.ss q (m ρ))) := HST0.out
    have HT1 := hid (HT0.out.below hbn (Nat.le_refl _))
    have HB1 := hid (HBB.out.trans (hbn.mono (by have := H0.out.size; omega)))
    have HK1 := hid (HK0.out.trans (Kc.below hbn))
    clear H0 HQ0 HT0 HBB HK0 HST0 hl1 a2 p0 p1 p2 hW0 hbn
    generalize W0.drewN nq = W1 at *
    have HS : Hid (∀ w', Kc c W1 w' → (∃ K Mb, w'.heap[c.ab]? = some (auC c K Mb)) → w'.cell? ⟨c.ab, 0, none⟩ = some (.slice (some ⟨c.b, 0, none⟩) c.ss.length c.cap) ∧ w'.cell? ⟨w.heap.size, 0, none⟩ = some (.int .u8 (x.toNat : Int)) ∧ w'.cell? ⟨w.heap.size, 1, none⟩ = some (.bool fi) ∧ w'.cell? ⟨w.heap.size, 2, none⟩ = some (.bool la) ∧ w'.cell? ⟨ρ, 0, none⟩ = some (.int .u64 (wd q 0)) ∧ w'.cell? ⟨ρ, 1, none⟩ = some (.int .u64 (wd q 1)) ∧ w'.cell? ⟨ρ, 2, none⟩ = some (.int .u64 (wd q 2)) ∧ w'.cell? ⟨ρ, 3, none⟩ = some (.int .u64 (wd q 3))) := fun w' hk ⟨K, Mb, ha⟩ => by
      have hq := hk.same _ _ HQ1.out rfl hzab
      have hs := hk.same _ _ HST1.out rfl hρab
      have a0 := Lib.cell_of_heap ha 0
      have p0 := Lib.cell_of_heap hq 0
      have p1 := Lib.cell_of_heap hq 1
      have p2 := Lib.cell_of_heap hq 2
      have s0 := Lib.cell_of_heap hs 0
      have s1 := Lib.cell_of_heap hs 1
      have s2 := Lib.cell_of_heap hs 2
      have s3 := Lib.cell_of_heap hs 3
      simp only [auC, stC, List.getElem?_toArray, List.getElem?_cons_zero, List.getElem?_cons_succ] at a0 p0 p1 p2 s0 s1 s2 s3
      exact ⟨a0, p0, p1, p2, s0, s1, s2, s3⟩
    have hS0 := HS.out W1.drew (Kc.below (Below.refl _ _).drew) ⟨K, Mb, H1.out.au⟩
    have CB := hid (snext_any c.ss HC.out.fault HC.out.ok c.b 0 c.cap q (H1.out.sub ρ q hρ) x fi la W1.drew (HT1.out.below (Below.refl _ _).drew (Nat.le_refl _)) H1.out.blt H1.out.steps)
    have CK := hid (fun w' (hb : Below W1.drew.heap.size W1.drew w') => keep_any c HC.out g m K Mb k w' ((H1.out.below (Below.refl _ _).drew).below hb) ((HT1.out.below (Below.refl _ _).drew (Nat.le_refl _)).below hb (Nat.le_refl _)) (nxtS c.ss q x.toNat fi la) (nxt_sub (leads_of HC.out.fault) q x.toNat fi la))
    unfold stV at CB CK
    go_upto_region 16 with fail
    go_region_held3 (fun w' => w'.cell? ⟨c.ab, 0, none⟩ = some (.slice (some ⟨c.b, 0, none⟩) c.ss.length c.cap) ∧ w'.cell? ⟨w.heap.size, 0, none⟩ = some (.int .u8 (x.toNat : Int)) ∧ w'.cell? ⟨w.heap.size, 1, none⟩ = some (.bool fi) ∧ w'.cell? ⟨w.heap.size, 2, none⟩ = some (.bool la) ∧ w'.cell? ⟨ρ, 0, none⟩ = some (.int .u64 (wd q 0)) ∧ w'.cell? ⟨ρ, 1, none⟩ = some (.int .u64 (wd q 1)) ∧ w'.cell? ⟨ρ, 2, none⟩ = some (.int .u64 (wd q 2)) ∧ w'.cell? ⟨ρ, 3, none⟩ = some (.int .u64 (wd q 3))) (first | with_reducible exact hS0 | with_reducible exact hS5 | with_reducible exact hS6 | (trace_state; fail)) (first
      | (go_at_call 76; refine CB.out.mono ?_; rintro e w5 ⟨rfl, hb5⟩; have hS5 := HS.out w5 ((Kc.below (Below.refl _ _).drew).trans (Kc.below hb5)) ⟨K, Mb, (H1.out.below ((Below.refl _ _).drew.trans hb5)).au⟩)
      | (go_at_call 74; refine (CK.out w5 hb5).mono ?_; rintro e w6 ⟨g2, m2, K2, Mb2, k2, σ, rfl, h2, hgl, hgs, hB2, hK2⟩; have hS6 := HS.out w6 (((Kc.below (Below.refl _ _).drew).trans (Kc.below hb5)).trans hK2) ⟨K2, Mb2, h2.au⟩))
    obtain ⟨kb2, hbg2⟩ := (h2.below (Below.refl _ w6).drew).mv ρ q (hgl ρ q hρ)
    obtain ⟨w9, k9, hrun, hkm, hg9⟩ := hbg2.store move_keyed Tryd.underlying120 (move_key x fi la) (by have := okM_small hbg2; unfold maxLen; omega) σ ⟨x, fi, la, rfl, hgs⟩
    have HR : Hid (AuP c g w (nxtS c.ss q x.toNat fi la) (.returned (.pointer (some ⟨σ, 0, none⟩))) w9) := by
      have h3 := (h2.below (Below.refl _ w6).drew)
      refine ⟨g2, m2, K2, Mb2, k2, σ, rfl, h3.putM HC.out (hgl ρ q hρ) hg9 hkm, hgl, hgs, ?_, ?_⟩
      · have hb : Below c.B w w6.drew := ((HB1.out.trans ((Below.refl _ _).drew.trans (hb5.mono (by have := H1.out.size; show c.B ≤ W1.heap.size; omega)))).trans hB2).drew
        exact hb.grown hg9 (by have := h3.size; omega) (fun k e => by injection e with e; have := h3.loS ρ q (hgl ρ q hρ); omega)
      · obtain ⟨es', cl', hM'⟩ := hbg2.heap
        exact (((HK1.out.trans ((Kc.below (Below.refl _ _).drew).trans (Kc.below hb5))).trans hK2).trans (Kc.below (Below.refl _ w6).drew)).trans (Kc.map hM' hg9 (h3.outS ρ q (hgl ρ q hρ)))
    unfold mvV at hrun
    have a2 := Lib.cell_of_heap (h2.st ρ q (hgl ρ q hρ)) 5
    simp only [stC, List.getElem?_toArray, List.getElem?_cons_zero, List.getElem?_cons_succ] at a2
    obtain ⟨_, y0, y1, y2, _⟩ := hS6
    clear h2 hkm hg9 hgl hgs hB2 hK2 hb5 hbg2
    go_wp2_with fail
    go_region
    go_wp2
    go_ret
    exact HR.out
end Go.Proofs.YtphcncgdodhlbaaDoor
namespace Go.Proofs.YtphcncgdodhlbaaDoor
set_option linter.unusedSimpArgs false
set_option linter.unusedVariables false
set_option maxRecDepth 100000
open Go.RowKit Go.Shelf
/-- Between two rounds: σ is the state of what is come to at place a. -/
def LpI (c : Ax) (s : ByteArray) (i a σ : Nat) (w wr : World) : Prop := ∃ g m K Mb k, AuI c g m K Mb k wr ∧ g σ = some (curS c.ss s.data.toList i a) ∧ Below c.B w wr ∧ Kc c w wr
theorem lastI_no {l : List Nat} (a : Nat) (h : ¬ a ∈ l) : lastI (ahead l (a + 1)) = lastI (ahead l a) := by rw [ahead_no a h]
theorem lastI_yes {l : List Nat} (hl : l.Pairwise (· < ·)) (a : Nat) (h : a ∈ l) : lastI (ahead l (a + 1)) = (a : Int) := by rw [ahead_yes hl a h, lastI_snoc]
set_option maxHeartbeats 8000000 in
theorem along_any (c : Ax) (hc : c.Good) (g : Nat → Option (Nat → Bool)) (m : Nat → Nat) (K Mb k : Nat) (w : World) (h : AuI c g m K Mb k w) (hT : Tab w) (s : ByteArray) (hs : s.size ≤ 400) (i : Nat) (hi : i ≤ s.size) (l : List Nat) (hl : RunR c.ss s.data.toList i l) :
    Calls Tryd.prog 34 #[c.u, .string s, .int .i64 (i : Int)] w fun e w' => e = .returned (.tuple #[.int .i64 (lastI l), .nilIface]) ∧ (∃ g m K Mb k, AuI c g m K Mb k w') ∧ Below c.B w w' ∧ Kc c w w' := by
  have hpl : plE s.size (i : Int) = 0 := by unfold plE; rw [if_neg (by omega), if_pos ⟨by omega, by omega⟩]
  have HCP := hid (checkPlace_any s (i : Int) w (by unfold maxLen; omega))
  rw [hpl, show errV 0 = .nilIface from rfl] at HCP
  have hlen : s.data.toList.length = s.size := by simp
  obtain ⟨h200, hpos, _⟩ := stepsF_zero hc.fault
  have HPL := hid (fun w' => placeOf_any s i w')
  have HBG := hid (fun w' (hb : Below w.heap.size w w') => begin_any c hc g m K Mb k w' (h.below hb) (hT.below hb (Nat.le_refl _)) (decide (i = 0)) (decide (i = s.data.toList.length)))
  have HTB : Hid (∀ w', Below c.B w w' → Tab w') := fun w' hb j hj => by
    have e := hT j hj
    exact (hb.cell (p := ⟨1, j, none⟩) hc.tab).trans e
  have HSZ := hid h.size
  have HC := hid hc
  have HL := hid hl
  rw [← cur_beg c.ss s.data.toList i (by omega)] at HBG
  clear hpl h hT hc hl
  go_enter Tryd.func34, Tryd.ntmps34
  go_wp2_with fail
  refine Calls.mono HCP.out ?_
  rintro e w1 ⟨rfl, hb1⟩
  go_wp2_with fail
  refine Calls.mono (HPL.out w1) ?_
  rintro e w2 ⟨rfl, hb2⟩
  have hb12 := hb1.trans (hb2.mono hb1.size)
  go_wp2_with fail
  refine Calls.mono (HBG.out w2 hb12) ?_
  rintro e w3 ⟨g3, m3, K3, Mb3, k3, σ, rfl, h3, _, hg3, hB3, hK3⟩
  have HR0 : Hid (∃ a σ' : Nat, i ≤ a ∧ a ≤ s.size ∧ (i : Int) = (a : Int) ∧ σ = σ' ∧ (-1 : Int) = lastI (ahead l a) ∧ LpI c s i a σ' w w3) := by
    refine ⟨i, σ, Nat.le_refl _, hi, rfl, rfl, ?_, g3, m3, K3, Mb3, k3, h3, hg3, (hb12.mono (Nat.le_of_lt HSZ.out)).trans hB3, (Kc.below hb12).trans hK3⟩
    rw [cur_begin (by omega) HL.out]
    rfl
  clear h3 hg3 hB3 hK3 hb12 hb2 hb1 HBG HPL HCP
  go_wp2_with fail
  go_loopw [9, 10, 11] (fun lo no av wr => ∃ a σ : Nat, i ≤ a ∧ a ≤ s.size ∧ av = .int .i64 (a : Int) ∧ no = .pointer (some ⟨σ, 0, none⟩) ∧ lo = .int .i64 (lastI (ahead l a)) ∧ Hid (LpI c s i a σ w wr)) (fun _ _ av _ => s.size + 1 - (intOf av).toNat)
  case atStart =>
    obtain ⟨a, σ', h1, h2, h3, h4, h5, h6⟩ := HR0.out
    exact ⟨a, σ', h1, h2, by rw [h3], by rw [h4], by rw [h5], h6⟩
  case round =>
    clear HR0
    obtain ⟨a, ρ, hia, has, rfl, rfl, rfl, HR⟩ := hrel
    obtain ⟨g4, m4, K4, Mb4, k4, h4, hg4, hB4, hK4⟩ := HR.out
    have HK4 := hid hK4
    have hst := h4.st ρ _ hg4
    have c0 := Lib.cell_of_heap hst 0
    have c1 := Lib.cell_of_heap hst 1
    have c2 := Lib.cell_of_heap hst 2
    have c3 := Lib.cell_of_heap hst 3
    simp only [stC, List.getElem?_toArray, List.getElem?_cons_zero, List.getElem?_cons_succ] at c0 c1 c2 c3
    have CE := hid (sempty_any h200 (curS c.ss s.data.toList i a) (h4.sub ρ _ hg4) wr)
    have HEND : Hid (curS c.ss s.data.toList i a = noP → ahead l a = l) := fun h => cur_all (by omega) hia HL.out h
    have H4 := hid h4
    have HB4 := hid hB4
    unfold stV at CE
    clear h4 hB4 hK4 hst HR
    go_wp2_with fail
    refine Calls.mono CE.out ?_
    rintro e w5 ⟨y, rfl, hy, hb5⟩
    have H5 := hid (H4.out.below hb5)
    have HB5 := hid (HB4.out.trans (hb5.mono (Nat.le_of_lt H4.out.size)))
    have HK5 := hid (HK4.out.trans (Kc.below hb5))
    clear hb5 H4 HB4 HK4 CE c0 c1 c2 c3
    cases y with
    | true =>
      have HE : Hid (ahead l a = l) := HEND.out (hy.1 rfl)
      clear hy HEND
      go_wp2
      go_ret2
      exact ⟨by rw [HE.out]; rfl, ⟨_, _, _, _, _, H5.out⟩, HB5.out, HK5.out⟩
    | false =>
      have c4 := Lib.cell_of_heap (H5.out.st ρ _ hg4) 4
      simp only [stC, List.getElem?_toArray, List.getElem?_cons_zero, List.getElem?_cons_succ] at c4
      clear hy HEND
      have HDN := hid (cur_done (ss := c.ss) (s := s.data.toList) (i := i) (show i ≤ s.data.toList.length by omega) HL.out a)
      cases hd : donF c.ss (curS c.ss s.data.toList i a)
      case' false =>
        rw [hd] at c4
        have HV : Hid (lastI (ahead l (a + 1)) = lastI (ahead l a)) := lastI_no a (fun h => by
          have := HDN.out.2 h
          rw [hd] at this
          cases this)
      case' true =>
        rw [hd] at c4
        have HV : Hid (lastI (ahead l (a + 1)) = (a : Int)) := lastI_yes HL.out.1 a (HDN.out.1 hd)
      all_goals
        clear HDN hd
        by_cases hae : a = s.size
        · have he : ((a : Int) == (s.size : Int)) = true := by rw [hae]; simp
          have HE : Hid (ahead l (a + 1) = l) := by
            show _ = _
            rw [hae, ← hlen]
            exact cur_last (by omega) HL.out
          rw [HE.out] at HV
          clear hae
          go_wp2
          go_ret2
          exact ⟨by rw [HV.out]; rfl, ⟨_, _, _, _, _, H5.out⟩, HB5.out, HK5.out⟩
        · have he : ((a : Int) == (s.size : Int)) = false := by rw [beq_eq_false_iff_ne]; omega
          have hal : a < s.size := by omega
          have g0 : (0 : Int) ≤ (a : Int) := by omega
          have g1 : (a : Int) < (s.size : Int) := by omega
          have hsa : s.data.toList[a]? = some s[a] := by
            rw [List.getElem?_eq_getElem (by simpa using hal)]; rfl
          have HNX : Hid (nxtS c.ss (curS c.ss s.data.toList i a) s[a].toNat false (decide (a + 1 = s.size)) = curS c.ss s.data.toList i (a + 1)) := by
            show _ = _
            rw [cur_next c.ss s.data.toList i a hia s[a] hsa, hlen]
          have CP := hid (fun w' => placeOf_any s (a + 1) w')
          have e1 : ((a + 1 : Nat) : Int) = (a : Int) + 1 := by omega
          rw [e1, show decide (a + 1 = 0) = false by simp, hlen] at CP
          have hw1 : IntKind.i64.wrap ((a : Int) + 1) = (a : Int) + 1 := by rw [IntKind.wrap_i64]; omega
          have CN := hid (fun w' (hb : Below w5.heap.size w5 w') => next_any c HC.out g4 m4 K4 Mb4 k4 w' (H5.out.below hb) (HTB.out _ (HB5.out.trans (hb.mono (Nat.le_of_lt H5.out.size)))) ρ _ hg4 s[a] false (decide (a + 1 = s.size)))
          rw [HNX.out] at CN
          unfold mvV at CN
          have HG4 := hid hg4
          clear e1 hsa hg4
          go_wp2_with fail
          go_region_with (first
            | (go_at_call 50; refine (CP.out _).mono ?_; rintro e w6 ⟨rfl, hb6⟩; have hbw : Below w5.heap.size w5 w6 := bel_d hb6)
            | (go_at_call 52; refine (CN.out w6 hbw).mono ?_; rintro e w7 ⟨g7, m7, K7, Mb7, k7, τ, rfl, h7, hgl7, hg7, hB7, hK7⟩))
          all_goals trace_state
          all_goals
            have HR : Hid (LpI c s i (a + 1) τ w w7) := ⟨g7, m7, K7, Mb7, k7, h7, hg7, (HB5.out.trans (hbw.mono (Nat.le_of_lt H5.out.size))).trans hB7, (HK5.out.trans (Kc.below hbw)).trans hK7⟩
            clear h7 hgl7 hg7 hB7 hK7 hb6 hbw
            go_wp2
            exact ⟨⟨a + 1, τ, by omega, by omega, by go_num, rfl, by rw [HV.out], HR⟩, by simp [intOf]; omega⟩
end Go.Proofs.YtphcncgdodhlbaaDoor
namespace Go.Proofs.YtphcncgdodhlbaaDoor
set_option linter.unusedSimpArgs false
set_option linter.unusedVariables false
set_option maxRecDepth 100000
open Go.RowKit Go.Shelf
set_option maxHeartbeats 1000000 in
theorem along_bad (c : Ax) (s : ByteArray) (i : Int) (w : World) (hs : s.size ≤ maxLen) (hp : ¬ plE s.size i = 0) :
    Calls Tryd.prog 34 #[c.u, .string s, .int .i64 i] w fun e w' => e = .returned (.tuple #[.int .i64 0, errV (plE s.size i)]) ∧ Below w.heap.size w w' := by
  have HC := hid (checkPlace_any s i w hs)
  rw [show errV (plE s.size i) = .iface 23 (.int .i64 (plE s.size i)) by unfold errV; rw [if_neg hp]] at HC ⊢
  clear hp
  go_enter Tryd.func34, Tryd.ntmps34
  go_wp2_with fail
  refine Calls.mono HC.out ?_
  rintro e w1 ⟨rfl, hb⟩
  go_wp2
  go_ret2
  exact ⟨rfl, hb⟩
set_option maxHeartbeats 1000000 in
theorem new_bad (ss : List St) (v : Value) (w : World) (hf : ¬ stepsF ss = 0) (hS : SsIn w v ss) :
    Calls Tryd.prog 33 #[v] w fun e w' => e = .returned (.tuple #[.pointer none, errV (stepsF ss)]) ∧ Below w.heap.size w w' := by
  have HC := hid (waysOf_bad ss v w hf hS)
  obtain ⟨a, cap, rfl, hm⟩ := ssIn_form hS
  rw [show errV (stepsF ss) = .iface 23 (.int .i64 (stepsF ss)) by unfold errV; rw [if_neg hf]] at HC ⊢
  clear hS hf
  go_enter Tryd.func33, Tryd.ntmps33
  go_wp2_with fail
  refine Calls.mono HC.out ?_
  rintro e w1 ⟨rfl, hb⟩
  go_wp2
  go_ret2
  exact ⟨rfl, hb.alloc hb.size _⟩
set_option maxHeartbeats 1000000 in
theorem new_ok (ss : List St) (v : Value) (w : World) (hf : stepsF ss = 0) (hS : SsIn w v ss) :
    Calls Tryd.prog 33 #[v] w fun e w' => ∃ c : Ax, c.ss = ss ∧ c.B = w.heap.size ∧ e = .returned (.tuple #[c.u, .nilIface]) ∧ Below w.heap.size w w' ∧ ∃ K Mb, AuI c (fun _ => none) (fun n => n) K Mb 0 w' := by
  have HC := hid (waysOf_ok ss v w hf hS)
  obtain ⟨a, cap, rfl, hm⟩ := ssIn_form hS
  have HF := hid hf
  clear hS hf
  go_enter Tryd.func33, Tryd.ntmps33
  go_wp2_with fail
  refine Calls.mono HC.out ?_
  rintro e w1 ⟨b, c, rfl, hb1, hN1, hb, hbl⟩
  obtain ⟨w3, hw3⟩ : ∃ w3, (w1.alloc (.cells #[.slice (some ⟨b, 0, none⟩) ss.length c] 105)).alloc (.cells #[.slice (some ⟨b, 0, none⟩) ss.length c, .map none, .map none] 111) = w3 := ⟨_, rfl⟩
  have hb3 : Below w1.heap.size w1 w3 := by rw [← hw3]; exact ((Below.refl _ _).alloc (Nat.le_refl _) _).alloc (by simp) _
  have ha3 : w3.heap[w1.heap.size + 1]? = some (.cells #[.slice (some ⟨b, 0, none⟩) ss.length c, .map none, .map none] 111 (0, 0)) := by
    rw [← hw3]
    have := World.alloc_heap_new (w1.alloc (.cells #[.slice (some ⟨b, 0, none⟩) ss.length c] 105)) (.cells #[.slice (some ⟨b, 0, none⟩) ss.length c, .map none, .map none] 111)
    rwa [World.size_alloc] at this
  have hsz3 : w3.heap.size = w1.heap.size + 2 := by rw [← hw3]; simp
  have CF := hid (forget_raw (w1.heap.size + 1) _ _ _ w3 ha3)
  have HB1 := hid hb1
  have HN1 := hid hN1
  have HB3 := hid hb3
  have hs1 := hb1.size
  clear HC hb1 hN1 hb3 ha3
  go_wp2_with fail
  refine Calls.mono CF.out ?_
  rintro e w4 ⟨⟨v4, rfl⟩, e1, e2, e3, hg4⟩
  have HR : Hid (∃ c' : Ax, c'.ss = ss ∧ c'.B = w.heap.size ∧ c'.u = .pointer (some ⟨w1.heap.size + 1, 0, none⟩) ∧ Below w.heap.size w w4 ∧ ∃ K Mb, AuI c' (fun _ => none) (fun n => n) K Mb 0 w4) := by
    refine ⟨⟨ss, w1.heap.size + 1, b, c, w.heap.size, fun _ => False⟩, rfl, rfl, rfl, ?_, w3.heap.size, w3.heap.size + 1, ?_⟩
    · exact (HB1.out.trans (HB3.out.mono hs1)).grown hg4 (by omega) (fun k e => by injection e with e; omega)
    · exact {
        au := e1
        steps := (HN1.out.below HB3.out hbl).grown hg4 (show b < _ by omega) (fun e => absurd (show b = w1.heap.size + 1 from Option.some.inj e) (by omega))
        blt := by have := hg4.size; show b < _; omega
        kn := (Km.empty _ e2).mono (fun _ _ h => h.elim)
        k100 := by omega
        bg := ⟨0, (Km.empty _ e3).mono (fun _ _ h => h.elim)⟩
        sub := fun σ p h => by cases h
        st := fun σ p h => by cases h
        mv := fun σ p h => by cases h
        inj := fun σ τ p q h => by cases h
        mK := fun σ p h => by cases h
        KM := by omega
        lo := ⟨show w.heap.size ≤ _ by omega, show w.heap.size ≤ _ by omega, show w.heap.size ≤ w1.heap.size + 1 by omega, hb⟩
        loS := fun σ p h => by cases h
        out := fun k e => e.elim
        outS := fun σ p h => by cases h }
  clear e1 e2 e3 hg4 CF HB1 HN1 HB3
  go_wp2
  go_ret2
  obtain ⟨c', r1, r2, r3, r4, r5⟩ := HR.out
  exact ⟨c', r1, r2, by rw [r3]; rfl, r4, r5⟩
/-- A value is an auto of a program, all that it keeps lies from B on. -/
def AuV (B : Nat) (w : World) (u : Value) (ss : List St) : Prop := ∃ c : Ax, c.ss = ss ∧ c.B = B ∧ u = c.u ∧ c.Good ∧ ∃ g m K Mb k, AuI c g m K Mb k w
end Go.Proofs.YtphcncgdodhlbaaDoor
namespace Go.Proofs.YtphcncgdodhlbaaDoor
set_option linter.unusedSimpArgs false
set_option linter.unusedVariables false
set_option maxRecDepth 100000
open Go.RowKit
/-- The builder at g has the nodes nv, and the steps ss so far. -/
structure BB (w : World) (g : Nat) (nv : Value) (ss : List St) : Prop where
  of : ∃ sv, Bld w g nv sv ∧ SsOwn w (g + 1) sv ss
theorem Bld.grownS {w w' : World} {g B : Nat} {nv sv u : Value} {ss : List St} (h : Bld w g nv sv) (hO : SsOwn w B u ss) (hB : g < B) (hg : w.grownBy w' u.ownBlock) : Bld w' g nv sv := by
  refine (hg.block g h.lt ?_).trans h
  intro e
  have := (hO.ne g e.symm).1
  omega
theorem below_grownS {w w' : World} {g B : Nat} {u : Value} {ss : List St} (hO : SsOwn w B u ss) (hB : g ≤ B) (hgs : g ≤ w.heap.size) (hg : w.grownBy w' u.ownBlock) : Below g w w' :=
  ⟨hg.os, hg.tape, hg.output, hg.size, fun k hk => hg.block k (by omega) (by
    intro e
    have := (hO.ne k e.symm).1
    omega)⟩
set_option maxHeartbeats 2000000 in
theorem add_any (g : Nat) (nv : Value) (ss : List St) (n : St) (w : World) (h : BB w g nv ss) (hm : ss.length ≤ 1000) :
    Calls Tryd.prog 45 #[.pointer (some ⟨g, 0, none⟩), n.v] w fun e w' => e = .returned (.tuple #[]) ∧ BB w' g nv (ss ++ [n]) ∧ Below g w w' := by
  obtain ⟨sv, hb, hO⟩ := h.of
  have hg := hb.lt
  obtain ⟨a0, cap0, hsv⟩ := hO.len
  have n0 : ¬ g = w.heap.size := by omega
  have n1 : ¬ w.heap.size = g := by omega
  have n2 : ¬ w.heap.size + 1 = g := by omega
  have n3 : ¬ g = w.heap.size + 1 := by omega
  obtain ⟨c0, c1, f1⟩ := hb.all
  have k1 : ∀ o, (w.alloc o).cell? ⟨g, 1, none⟩ = some sv := fun o => (hb.alloc o).all.2.1
  have k2 : ∀ o o', ((w.alloc o).alloc o').cell? ⟨g, 1, none⟩ = some sv := fun o o' => ((hb.alloc o).alloc o').all.2.1
  have AO : Hid (∀ W : World, W = ((w.alloc (.cells #[.int .i64 n.op, .int .u64 n.c.a, .int .u64 n.c.b, .int .u64 n.c.c, .int .u64 n.c.d, .int .i64 n.x, .int .i64 n.y] 103)).alloc (.cells #[.int .i64 n.op, .int .u64 n.c.a, .int .u64 n.c.b, .int .u64 n.c.c, .int .u64 n.c.d, .int .i64 n.x, .int .i64 n.y] 103)).drew → SsOwn W (g + 1) sv ss ∧ (∀ j u, (ssCells [n])[j]? = some u → W.cell? ⟨w.heap.size + 1, j, none⟩ = some u) ∧ g + 1 ≤ W.heap.size ∧ Bld W g nv sv ∧ Below g w W) := by
    rintro _ rfl
    have hB2 : Below w.heap.size w ((w.alloc (.cells #[.int .i64 n.op, .int .u64 n.c.a, .int .u64 n.c.b, .int .u64 n.c.c, .int .u64 n.c.d, .int .i64 n.x, .int .i64 n.y] 103)).alloc (.cells #[.int .i64 n.op, .int .u64 n.c.a, .int .u64 n.c.b, .int .u64 n.c.c, .int .u64 n.c.d, .int .i64 n.x, .int .i64 n.y] 103)).drew := (((Below.refl _ _).alloc (Nat.le_refl _) _).alloc (by simp) _).drew
    refine ⟨hO.below hB2, ?_, ?_, hb.below hB2, hB2.mono (by omega)⟩
    · intro j u hj
      show ((w.alloc _).alloc _).cell? _ = _
      rw [World.cell?_alloc_at (w := w.alloc (.cells #[.int .i64 n.op, .int .u64 n.c.a, .int .u64 n.c.b, .int .u64 n.c.c, .int .u64 n.c.d, .int .i64 n.x, .int .i64 n.y] 103)) _ _ (w.heap.size + 1) j (by simp)]
      simpa [ssCells, stCells] using hj
    · have := hB2.size
      omega
  clear h hO hsv hb
  go_enter Tryd.func45, Tryd.ntmps45
  go_wp2_with fail
  go_region_law (first | (refine step_append_ss (by rfl) _ _ (by rfl) (g + 1) sv (by rfl) ss (AO.out _ rfl).1 (w.heap.size + 1) 1 n (by rfl) (AO.out _ rfl).2.1 (by omega) (AO.out _ rfl).2.2.1 ?_; intro g3 cap3 w3 ho3 hg3 hb3 hl3; have HO3 := hid ho3; have hp3 := (AO.out _ rfl).2.2.2.1.grownS (AO.out _ rfl).1 (by omega) hg3; have HB3 := hid ((AO.out _ rfl).2.2.2.2.trans (below_grownS (AO.out _ rfl).1 (by omega) (by have := (AO.out _ rfl).2.2.1; omega) hg3)); have HP3 := hid hp3; obtain ⟨d0, d1, e1⟩ := hp3.all; clear ho3 hg3 hb3 hl3 hp3))
  all_goals go_wp2
  all_goals go_end0
  all_goals exact ⟨rfl, ⟨_, HP3.out.setSteps _, HO3.out.keptG (bgrown_cell _ _ _ _) (by omega)⟩, HB3.out.setCell (Nat.le_refl _) _⟩
theorem BB.below {w w' : World} {g : Nat} {nv : Value} {ss : List St} (h : BB w g nv ss) (hb : Below w.heap.size w w') : BB w' g nv ss := by
  obtain ⟨sv, h1, h2⟩ := h.of
  exact ⟨sv, h1.below hb, h2.below hb⟩
theorem BB.lt {w : World} {g : Nat} {nv : Value} {ss : List St} (h : BB w g nv ss) : g < w.heap.size := by
  obtain ⟨sv, h1, _⟩ := h.of
  exact h1.lt
/-- What lies in memory of a builder, and the length of its steps. -/
theorem BB.read {w : World} {g : Nat} {nv : Value} {ss : List St} (h : BB w g nv ss) : ∃ a cap, w.cell? ⟨g, 0, none⟩ = some nv ∧ w.cell? ⟨g, 1, none⟩ = some (.slice a ss.length cap) := by
  obtain ⟨sv, h1, h2⟩ := h.of
  obtain ⟨a, cap, rfl⟩ := h2.len
  exact ⟨a, cap, h1.all.1, h1.all.2.1⟩
set_option maxHeartbeats 1000000 in
theorem hold_any (g : Nat) (nv : Value) (ss : List St) (w : World) (h : BB w g nv ss) (hm : ss.length ≤ 1000) :
    Calls Tryd.prog 82 #[.pointer (some ⟨g, 0, none⟩)] w fun e w' => e = .returned (.int .i64 (ss.length : Int)) ∧ BB w' g nv (ss ++ [stZ]) ∧ Below g w w' := by
  have HA := hid (add_any g nv ss stZ w h hm)
  clear h
  go_enter Tryd.func82, Tryd.ntmps82
  go_wp2_with fail
  refine Calls.mono HA.out ?_
  rintro e w1 ⟨rfl, h1, hb⟩
  obtain ⟨a, cap, d0, d1⟩ := h1.read
  have HB := hid h1
  have HL := hid hb
  rw [List.length_append] at d1
  have hl : (((ss.length + [stZ].length : Nat) : Int)) - 1 = (ss.length : Int) := by simp
  clear h1 hb
  go_wp2
  go_ret
  exact ⟨by first | rfl | (simp; done), HB.out, HL.out⟩
/-- A step is put in the place of another one. -/
def putSt (w : World) (g o : Nat) (s : St) : World := ((((((w.setCell ⟨g, o, none⟩ (.int .i64 s.op)).setCell ⟨g, o + 1, none⟩ (.int .u64 s.c.a)).setCell ⟨g, o + 2, none⟩ (.int .u64 s.c.b)).setCell ⟨g, o + 3, none⟩ (.int .u64 s.c.c)).setCell ⟨g, o + 4, none⟩ (.int .u64 s.c.d)).setCell ⟨g, o + 5, none⟩ (.int .i64 s.x)).setCell ⟨g, o + 6, none⟩ (.int .i64 s.y)
theorem heap_set {w : World} {r : Nat} {cur : Array Value} {t : TypeId} {fz : Nat × Nat} (h : w.heap[r]? = some (.cells cur t fz)) (o : Nat) (v : Value) : (w.setCell ⟨r, o, none⟩ v).heap[r]? = some (.cells (cur.setIfInBounds o v) t fz) := by
  simp [World.setCell, Array.getElem?_modify, h]
theorem stCells_set (m : St) (R : List Value) (k t : Nat) (v : Value) : (stCells m ++ R).set ((k + 1) * 7 + t) v = stCells m ++ R.set (k * 7 + t) v := by
  rw [List.set_append_right _ _ (by simp [stCells]; omega)]
  congr 2
  simp [stCells]
  omega
theorem ssCells_set (s : St) : ∀ (ss : List St) (k : Nat), k < ss.length → ssCells (ss.set k s) = ((((((((ssCells ss).set (k * 7 + 0) (.int .i64 s.op)).set (k * 7 + 1) (.int .u64 s.c.a)).set (k * 7 + 2) (.int .u64 s.c.b)).set (k * 7 + 3) (.int .u64 s.c.c)).set (k * 7 + 4) (.int .u64 s.c.d)).set (k * 7 + 5) (.int .i64 s.x)).set (k * 7 + 6) (.int .i64 s.y))
  | [], k, h => by simp at h
  | m :: r, 0, h => by simp [ssCells, stCells]
  | m :: r, k + 1, h => by
    rw [List.set_cons_succ, ssCells, ssCells, ssCells_set s r k (by simpa using h)]
    rw [stCells_set, stCells_set, stCells_set, stCells_set, stCells_set, stCells_set, stCells_set]
theorem SsOwn.put {w : World} {base r cap : Nat} {ss : List St} (h : SsOwn w base (.slice (some ⟨r, 0, none⟩) ss.length cap) ss) (k : Nat) (hk : k < ss.length) (s : St) :
    SsOwn (putSt w r (k * 7) s) base (.slice (some ⟨r, 0, none⟩) ss.length cap) (ss.set k s) := by
  refine ⟨by rw [ssCells_len], Or.inr ?_⟩
  rcases h.2 with ⟨hv, hn⟩ | ⟨g, cap', cur, hv, hb, hh, hnc, hcm, hcs, htk⟩
  · omega
  · injection hv with e1 e2 e3
    injection e1 with e1
    injection e1 with e1
    subst e1
    subst e3
    have hh' := heap_set (heap_set (heap_set (heap_set (heap_set (heap_set (heap_set hh (k * 7) (.int .i64 s.op)) (k * 7 + 1) (.int .u64 s.c.a)) (k * 7 + 2) (.int .u64 s.c.b)) (k * 7 + 3) (.int .u64 s.c.c)) (k * 7 + 4) (.int .u64 s.c.d)) (k * 7 + 5) (.int .i64 s.x)) (k * 7 + 6) (.int .i64 s.y)
    refine ⟨r, cap, _, by rw [List.length_set], hb, hh', by rw [List.length_set]; exact hnc, hcm, by simp only [Array.size_setIfInBounds]; exact hcs, ?_⟩
    rw [List.length_set, ssCells_set s ss k hk]
    simp only [Array.toList_setIfInBounds, List.take_set, htk, Nat.add_zero]
theorem grown_putSt (w : World) (r o : Nat) (s : St) : w.grownBy (putSt w r o s) (some r) :=
  Lib.grownBy_setB (Lib.grownBy_setB (Lib.grownBy_setB (Lib.grownBy_setB (Lib.grownBy_setB (Lib.grownBy_setB (Lib.grownBy_setB (World.grownBy.refl w _) _ _) _ _) _ _) _ _) _ _) _ _) _ _
set_option maxHeartbeats 1000000 in
theorem fork_any (g : Nat) (nv : Value) (ss : List St) (k x y : Nat) (w : World) (h : BB w g nv ss) (hk : k < ss.length) :
    Calls Tryd.prog 83 #[.pointer (some ⟨g, 0, none⟩), .int .i64 (k : Int), .int .i64 (x : Int), .int .i64 (y : Int)] w fun e w' => e = .returned (.tuple #[]) ∧ BB w' g nv (ss.set k (stF x y)) ∧ Below g w w' := by
  obtain ⟨sv, hb, hO⟩ := h.of
  obtain ⟨c0, c1, f1⟩ := hb.all
  obtain ⟨r, cap, rfl, hr, hrl, hlc, cur, hh, hcs, htk⟩ := hO.form (by omega)
  have k0 : (0 : Int) ≤ (k : Int) := by omega
  have k1 : (k : Int) < (ss.length : Int) := by omega
  have z0 : w.frozen? ⟨r, k * 7, none⟩ = false := Lib.frozen_of_heap hh _
  have z1 : w.frozen? ⟨r, k * 7 + 1, none⟩ = false := Lib.frozen_of_heap hh _
  have z2 : w.frozen? ⟨r, k * 7 + 2, none⟩ = false := Lib.frozen_of_heap hh _
  have z3 : w.frozen? ⟨r, k * 7 + 3, none⟩ = false := Lib.frozen_of_heap hh _
  have z4' : w.frozen? ⟨r, k * 7 + 4, none⟩ = false := Lib.frozen_of_heap hh _
  have z5 : w.frozen? ⟨r, k * 7 + 5, none⟩ = false := Lib.frozen_of_heap hh _
  have z6 : w.frozen? ⟨r, k * 7 + 6, none⟩ = false := Lib.frozen_of_heap hh _
  have HC : Hid (∃ c : Nat → Value, ∀ t, t < 7 → w.cell? ⟨r, k * 7 + t, none⟩ = some (c t)) := by
    refine ⟨fun t => cur.toList.getD (k * 7 + t) .nilIface, fun t ht => ?_⟩
    have : k * 7 + t < cur.size := by rw [hcs]; omega
    rw [Lib.cell_of_heap hh, Array.getElem?_eq_getElem this]
    simp [List.getD, Array.getElem?_toList, Array.getElem?_eq_getElem this]
  obtain ⟨c, hc⟩ := HC.out
  have y0 := hc 0 (by omega)
  have y1 := hc 1 (by omega)
  have y2 := hc 2 (by omega)
  have y3 := hc 3 (by omega)
  have y4 := hc 4 (by omega)
  have y5 := hc 5 (by omega)
  have y6 := hc 6 (by omega)
  rw [Nat.add_zero] at y0
  have HP : Hid (BB (putSt w r (k * 7) (stF x y)) g nv (ss.set k (stF x y)) ∧ Below g w (putSt w r (k * 7) (stF x y))) := by
    refine ⟨⟨.slice (some ⟨r, 0, none⟩) ss.length cap, ?_, hO.put k hk _⟩, ?_⟩
    · exact ((grown_putSt w r (k * 7) (stF x y)).block g hb.lt (by intro e; injection e with e; omega)).trans hb
    · have hgr := grown_putSt w r (k * 7) (stF x y)
      exact ⟨hgr.os, hgr.tape, hgr.output, hgr.size, fun i hi => hgr.block i (by omega) (by intro e; injection e with e; omega)⟩
  clear hc h hb hO hh htk hcs HC
  go_enter Tryd.func83, Tryd.ntmps83
  go_wp2
  go_end0
  exact ⟨rfl, HP.out⟩
end Go.Proofs.YtphcncgdodhlbaaDoor
namespace Go.Proofs.YtphcncgdodhlbaaDoor
set_option linter.unusedSimpArgs false
set_option linter.unusedVariables false
set_option maxRecDepth 100000
open Go.RowKit
/-- The part at i is built as the tree t says. -/
def BPart (ns : List Nd) (b off cap : Nat) (t : Rx) (i : Nat) : Prop := ∀ (g : Nat) (ss : List St) (w : World), BB w g (.slice (some ⟨b, off, none⟩) ns.length cap) ss → b < g → NsAt w b off ns → ss.length + 2 * t.flat.length ≤ 500 →
  Calls Tryd.prog 44 #[.pointer (some ⟨g, 0, none⟩), .int .i64 (i : Int)] w fun e w' => e = .returned (.int .i64 ((i + t.flat.length : Nat) : Int)) ∧ BB w' g (.slice (some ⟨b, off, none⟩) ns.length cap) (ss ++ t.cod ss.length) ∧ Below g w w'
set_option maxHeartbeats 2000000 in
theorem part_leaf (ns : List Nd) (hl : ns.length ≤ 60) (b off cap i : Nat) (n : Nd) (hn : ns[i]? = some n) (hi : i < ns.length) (hop : n.op = 1 ∨ n.op = 2 ∨ n.op = 8 ∨ n.op = 9) : BPart ns b off cap (.leaf n) i := by
  intro g ss w hB hbg hN hm
  have hml : ss.length ≤ 500 := by omega
  obtain ⟨c0, c1, c2, c3, c4⟩ := hN i n hn
  obtain ⟨a, cap', d0, d1⟩ := hB.read
  have i0 : (0 : Int) ≤ (i : Int) := by omega
  have i1 : (i : Int) < (ns.length : Int) := by omega
  have HL : Hid (((i + (Rx.leaf n).flat.length : Nat) : Int) = (i : Int) + 1) := by show _ = _; simp [Rx.flat]
  rw [HL.out]
  rcases hop with hop | hop | hop | hop
  · have HC : Hid ((Rx.leaf n).cod ss.length = [⟨1, n.c, ((ss.length + 1 : Nat) : Int), 0⟩]) := by show _ = _; simp [Rx.cod, hop]
    rw [hop] at c0
    have HA := hid (add_any g _ ss ⟨1, n.c, ((ss.length + 1 : Nat) : Int), 0⟩ w hB (by omega))
    have hx : Hid ((ss.length : Int) + 1 = ((ss.length + 1 : Nat) : Int)) := by show _ = _; omega
    rw [HC.out]
    clear hN hB
    go_enter Tryd.func44, Tryd.ntmps44
    go_wp2_with fail
    rw [hx.out]
    refine Calls.mono HA.out ?_
    rintro e w1 ⟨rfl, h1, hb1⟩
    go_wp2
    go_ret
    exact ⟨rfl, h1, hb1⟩
  · have HC : Hid ((Rx.leaf n).cod ss.length = []) := by show _ = _; simp [Rx.cod, hop]
    rw [hop] at c0
    rw [HC.out, List.append_nil]
    have HB := hid hB
    clear hN hB
    go_enter Tryd.func44, Tryd.ntmps44
    go_wp2
    go_ret
    exact ⟨rfl, HB.out, Below.refl _ _⟩
  · have HC : Hid ((Rx.leaf n).cod ss.length = [⟨3, z4, ((ss.length + 1 : Nat) : Int), 0⟩]) := by show _ = _; simp [Rx.cod, hop]
    rw [hop] at c0
    have HA := hid (add_any g _ ss ⟨3, z4, ((ss.length + 1 : Nat) : Int), 0⟩ w hB (by omega))
    have hx : Hid ((ss.length : Int) + 1 = ((ss.length + 1 : Nat) : Int)) := by show _ = _; omega
    rw [HC.out]
    clear hN hB
    go_enter Tryd.func44, Tryd.ntmps44
    go_wp2_with fail
    rw [hx.out]
    refine Calls.mono HA.out ?_
    rintro e w1 ⟨rfl, h1, hb1⟩
    go_wp2
    go_ret
    exact ⟨rfl, h1, hb1⟩
  · have HC : Hid ((Rx.leaf n).cod ss.length = [⟨4, z4, ((ss.length + 1 : Nat) : Int), 0⟩]) := by show _ = _; simp [Rx.cod, hop]
    rw [hop] at c0
    have HA := hid (add_any g _ ss ⟨4, z4, ((ss.length + 1 : Nat) : Int), 0⟩ w hB (by omega))
    have hx : Hid ((ss.length : Int) + 1 = ((ss.length + 1 : Nat) : Int)) := by show _ = _; omega
    rw [HC.out]
    clear hN hB
    go_enter Tryd.func44, Tryd.ntmps44
    go_wp2_with fail
    rw [hx.out]
    refine Calls.mono HA.out ?_
    rintro e w1 ⟨rfl, h1, hb1⟩
    go_wp2
    go_ret
    exact ⟨rfl, h1, hb1⟩
end Go.Proofs.YtphcncgdodhlbaaDoor
