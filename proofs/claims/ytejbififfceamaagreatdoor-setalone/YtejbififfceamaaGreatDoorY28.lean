/- Package auto: forget. Package auto: keep. Package auto: begin. Package auto: next. Package auto: Longest. -/
import Derived.Test.YtejbififfceamaaGreatDoorY27
import Derived.Laws.EntriesVeiled
import Derived.Deep.RegionHeld3
import Derived.Deep.CutRange
import Derived.BigQuiet
import Derived.Test.YtejbififfceamaaGreatDoorY23
namespace Go.Proofs.YtejbififfceamaaGreatDoor
set_option linter.unusedSimpArgs false
set_option linter.unusedVariables false
set_option maxRecDepth 100000
open Go.RowKit
theorem Km.empty {w : World} {M : Nat} (kt : TypeId) (h : w.heap[M]? = some (.map #[] 0)) : Km w kt M 0 (fun _ _ => False) := by
  obtain ⟨es, clock, hb, r⟩ := World.ownsMap_made (H := Value) w Tryz.prog kt asIs
  rw [World.alloc_heap_new] at hb
  injection hb with hb
  injection hb with h1 h2
  subst h1 h2
  exact ⟨.map [], ⟨#[], 0, h, r⟩, rfl, fun kl h => by simp [Maps.has] at h⟩
set_option maxHeartbeats 1000000 in
theorem forget_raw (ab : Nat) (s x y : Value) (w : World) (h : w.heap[ab]? = some (.cells #[s, x, y] 166 (0, 0))) :
    Calls Tryz.prog 73 #[.pointer (some ⟨ab, 0, none⟩)] w fun e w' => (∃ v, e = .returned v) ∧ w'.heap[ab]? = some (.cells #[s, .map (some w.heap.size), .map (some (w.heap.size + 1))] 166 (0, 0)) ∧ w'.heap[w.heap.size]? = some (.map #[] 0) ∧ w'.heap[w.heap.size + 1]? = some (.map #[] 0) ∧ w.grownBy w' (some ab) := by
  have hlt := heap_lt h
  have hmm := @run_makeMap Tryz.prog
  obtain ⟨w1, hw1⟩ : ∃ w1, w.alloc (.map #[] 0) = w1 := ⟨_, rfl⟩
  have h1 : w1.heap[ab]? = some (.cells #[s, x, y] 166 (0, 0)) := by rw [← hw1]; exact (Below.heap_alloc w _ ab hlt).trans h
  have e1 : w1.heap[w.heap.size]? = some (.map #[] 0) := by rw [← hw1]; exact World.alloc_heap_new w _
  have s1 : w1.heap.size = w.heap.size + 1 := by rw [← hw1]; simp
  have g1 : w.grownBy w1 (some ab) := by rw [← hw1]; exact World.grownBy_alloc _ _ _
  have c1 := Lib.cell_of_heap h1 1
  have f1 := Lib.frozen_of_heap h1 1
  simp only [List.getElem?_toArray, List.getElem?_cons_zero, List.getElem?_cons_succ] at c1
  obtain ⟨w2, hw2⟩ : ∃ w2, w1.setCell ⟨ab, 1, none⟩ (.map (some w.heap.size)) = w2 := ⟨_, rfl⟩
  have h2 : w2.heap[ab]? = some (.cells #[s, .map (some w.heap.size), y] 166 (0, 0)) := by
    rw [← hw2]
    simp [World.setCell, Array.getElem?_modify, h1]
  have g2 : w1.grownBy w2 (some ab) := by rw [← hw2]; exact grown_setS _ _ _ _
  have e2 : w2.heap[w.heap.size]? = some (.map #[] 0) := (g2.block _ (heap_lt e1) (by intro e; injection e with e; omega)).trans e1
  have s2 : w2.heap.size = w.heap.size + 1 := by rw [← hw2]; simpa using s1
  obtain ⟨w3, hw3⟩ : ∃ w3, w2.alloc (.map #[] 0) = w3 := ⟨_, rfl⟩
  have h3 : w3.heap[ab]? = some (.cells #[s, .map (some w.heap.size), y] 166 (0, 0)) := by rw [← hw3]; exact (Below.heap_alloc w2 _ ab (heap_lt h2)).trans h2
  have e3 : w3.heap[w.heap.size]? = some (.map #[] 0) := by rw [← hw3]; exact (Below.heap_alloc w2 _ _ (heap_lt e2)).trans e2
  have e4 : w3.heap[w.heap.size + 1]? = some (.map #[] 0) := by rw [← hw3, ← s2]; exact World.alloc_heap_new w2 _
  have g3 : w2.grownBy w3 (some ab) := by rw [← hw3]; exact World.grownBy_alloc _ _ _
  have c3 := Lib.cell_of_heap h3 2
  have f3 := Lib.frozen_of_heap h3 2
  simp only [List.getElem?_toArray, List.getElem?_cons_zero, List.getElem?_cons_succ] at c3
  have HR : Hid ((w3.setCell ⟨ab, 2, none⟩ (.map (some (w.heap.size + 1)))).heap[ab]? = some (.cells #[s, .map (some w.heap.size), .map (some (w.heap.size + 1))] 166 (0, 0)) ∧ (w3.setCell ⟨ab, 2, none⟩ (.map (some (w.heap.size + 1)))).heap[w.heap.size]? = some (.map #[] 0) ∧ (w3.setCell ⟨ab, 2, none⟩ (.map (some (w.heap.size + 1)))).heap[w.heap.size + 1]? = some (.map #[] 0) ∧ w.grownBy (w3.setCell ⟨ab, 2, none⟩ (.map (some (w.heap.size + 1)))) (some ab)) := by
    have g4 := grown_setS w3 ab 2 (.map (some (w.heap.size + 1)))
    refine ⟨by simp [World.setCell, Array.getElem?_modify, h3], (g4.block _ (heap_lt e3) (by intro e; injection e with e; omega)).trans e3, (g4.block _ (heap_lt e4) (by intro e; injection e with e; omega)).trans e4, ((g1.trans g2).trans g3).trans g4⟩
  clear h h1 h2 h3 e1 e2 e3 e4 g1 g2 g3 s1
  go_enter Tryz.func73, Tryz.ntmps73
  go_wp2
  go_end0
  exact ⟨⟨_, rfl⟩, HR.out⟩
theorem AuI.forget {c : Ax} (hc : c.Good) {g : Nat → Option (Nat → Bool)} {m : Nat → Nat} {K Mb k : Nat} {w w' : World} (h : AuI c g m K Mb k w) (h1 : w'.heap[c.ab]? = some (auC c w.heap.size (w.heap.size + 1))) (h2 : w'.heap[w.heap.size]? = some (.map #[] 0)) (h3 : w'.heap[w.heap.size + 1]? = some (.map #[] 0)) (hg : w.grownBy w' (some c.ab)) : AuI c g m w.heap.size (w.heap.size + 1) 0 w' ∧ Below c.B w w' := by
  have hlo := h.lo
  have hpos := (stepsF_zero hc.fault).2.1
  have hba : c.b ≠ c.ab := fun e => by
    obtain ⟨c0, _⟩ := h.steps 0 c.ss[0] (List.getElem?_eq_getElem hpos)
    have e0 := Lib.cell_of_heap h.au 0
    rw [e] at c0
    simp only [auC, List.getElem?_toArray, List.getElem?_cons_zero] at e0
    rw [show (0 : Nat) + 0 * 7 = 0 by omega, e0] at c0
    cases c0
  have mlt : ∀ τ q, g τ = some q → m τ < w.heap.size := fun τ q e => by obtain ⟨kn, h1⟩ := h.mv τ q e; exact h1.lt
  have mab : ∀ τ q, g τ = some q → m τ ≠ c.ab := fun τ q e hm => by
    obtain ⟨kn, h1⟩ := h.mv τ q e
    obtain ⟨es, cl, h2⟩ := h1.heap
    rw [hm, h.au] at h2
    cases h2
  refine ⟨⟨h1, h.steps.grown hg h.blt (by intro e; injection e with e; exact hba e), Nat.lt_of_lt_of_le h.blt hg.size, (Km.empty _ h2).mono (fun _ _ h => h.elim), by omega, ⟨0, (Km.empty _ h3).mono (fun _ _ h => h.elim)⟩, h.sub, fun τ q e => ?_, fun τ q e => ?_, h.inj, fun τ q e => ?_, by omega, ⟨by have := h.size; omega, by have := h.size; omega, hlo.2.2⟩, h.loS, fun k e => ⟨Nat.lt_of_lt_of_le (h.out k e).1 hg.size, by have := (h.out k e).1; omega, by have := (h.out k e).1; omega, (h.out k e).2.2.2⟩, h.outS⟩, ?_⟩
  · exact (hg.block _ (heap_lt (h.st τ q e)) (by intro e2; injection e2 with e2; exact (h.loS τ q e).2.2 e2)).trans (h.st τ q e)
  · obtain ⟨kn, h4⟩ := h.mv τ q e
    exact ⟨kn, h4.kept hg (by intro e2; injection e2 with e2; exact mab τ q e e2)⟩
  · have := mlt τ q e
    constructor <;> omega
  · exact ⟨hg.os, hg.tape, hg.output, hg.size, fun j hj => hg.block j (by have := h.size; omega) (by intro e; injection e with e; omega)⟩
end Go.Proofs.YtejbififfceamaaGreatDoor
namespace Go.Proofs.YtejbififfceamaaGreatDoor
set_option linter.unusedSimpArgs false
set_option linter.unusedVariables false
set_option maxRecDepth 100000
open Go.RowKit Go.Shelf
theorem le_alloc {a : Nat} {w : World} {o : Obj} (h : a ≤ w.heap.size) : a ≤ (w.alloc o).heap.size := by rw [World.size_alloc]; omega
/-- The key is not there: it may be stored. -/
def Free (w : World) (kt mt : TypeId) (M k : Nat) (key : Value) (kl : Lit) (ok : Lit → Nat → Prop) : Prop :=
  k < maxLen → ∀ (w0 : World) (b : Nat) (ok' : Lit → Nat → Prop), w0.heap[M]? = w.heap[M]? → (∀ l c, ok l c → ok' l c) → ok' kl b → ∃ w', (Instr.mapUpdate mt (.map (some M)) key (.pointer (some ⟨b, 0, none⟩))).run Tryz.prog w0 = .ok () w' ∧ Km w' kt M (k + 1) ok' ∧ w0.grownBy w' (some M)
theorem Free.same {w w' : World} {kt mt : TypeId} {M k : Nat} {key : Value} {kl : Lit} {ok : Lit → Nat → Prop} (h : Free w kt mt M k key kl ok) (e : w'.heap[M]? = w.heap[M]?) : Free w' kt mt M k key kl ok := fun hk w0 b ok' h0 => h hk w0 b ok' (h0.trans e)
theorem Km.look2 {w : World} {kt mt : TypeId} {M k : Nat} {ok : Lit → Nat → Prop} (h : Km w kt M k ok) (K : Maps.Keyed Tryz.prog kt) (hu : Tryz.prog.underlying mt = some (.map kt 201)) {key : Value} {kl : Lit} (hkey : keyOf Tryz.prog kt key = some kl) :
    (∃ b, ok kl b ∧ ∀ w' : World, w'.heap[M]? = w.heap[M]? → (Instr.lookup mt (.map (some M)) key false).run Tryz.prog w' = .ok (.pointer (some ⟨b, 0, none⟩)) w') ∨
    ((∀ w' : World, w'.heap[M]? = w.heap[M]? → (Instr.lookup mt (.map (some M)) key false).run Tryz.prog w' = .ok (.pointer none) w') ∧ Free w kt mt M k key kl ok) := h.look K hu hkey
set_option maxHeartbeats 4000000 in
theorem keep_any (c : Ax) (hc : c.Good) (g : Nat → Option (Nat → Bool)) (m : Nat → Nat) (K Mb k : Nat) (w : World) (h : AuI c g m K Mb k w) (hT : Tab w) (p : Nat → Bool) (hp : Sub c.ss p) :
    Calls Tryz.prog 125 #[c.u, stV p] w (AuP c g w p) := by
  obtain ⟨W0, hW0⟩ : ∃ W0, w.alloc (.cells #[.int .u64 (wd p 0), .int .u64 (wd p 1), .int .u64 (wd p 2), .int .u64 (wd p 3)] 207) = W0 := ⟨_, rfl⟩
  have hb0 : Below w.heap.size w W0 := by rw [← hW0]; exact (Below.refl _ _).alloc (Nat.le_refl _) _
  have hq0 : Hq W0 w.heap.size p := by rw [← hW0]; exact Hq.new w p _ rfl
  have h0 := h.below hb0
  have hBB : Below c.B w W0 := hb0.mono (by have := h.size; omega)
  have hT0 := hT.below hb0 (Nat.le_refl _)
  have a1 := Lib.cell_of_heap h0.au 1
  simp only [auC, List.getElem?_toArray, List.getElem?_cons_zero, List.getElem?_cons_succ] at a1
  obtain ⟨q0, q1, q2, q3⟩ := hq0.all
  rcases h0.kn.look2 steps_keyed Tryz.underlying163 (steps_key p) with ⟨σ, ⟨p', hpl, hg⟩, hlook⟩ | ⟨hlook, hfree⟩
  · -- it is known
    obtain rfl : p = p' := sub_ext (stepsF_zero hc.fault).1 hp (h0.sub σ p' hg) hpl
    have hl1 := fun n => hlook (W0.drewN n) rfl
    have HR : Hid (∀ w', Below W0.heap.size W0 w' → AuP c g w p (.returned (.pointer (some ⟨σ, 0, none⟩))) w') := fun w' hb => ⟨g, m, K, Mb, k, σ, rfl, h0.below hb, Gle.refl g, hg, hBB.trans (hb.mono (by have := h0.size; omega)), (Kc.below hb0).trans (Kc.below hb)⟩
    unfold stV at hl1 ⊢
    clear hlook h h0 hT hT0 hq0 hb0 hBB hp hg hpl
    go_enter Tryz.func125, Tryz.ntmps125
    go_wp2_with fail
    go_big_quiet (fail)
    go_wp2
    go_ret
    exact HR.out _ (below_drewN' W0 nq)
  · -- it is new
    have hl1 := fun n => hlook (W0.drewN n) rfl
    have HC := hid hc
    have HP := hid hp
    have H0 := hid h0
    have HQ0 := hid hq0
    have HF := hid hfree
    have HBB := hid hBB
    have HK0 : Hid (Kc c w W0) := Kc.below hb0
    have HT0 := hid hT0
    clear hlook h hT hb0 hc hp h0 hq0 hfree hBB hT0
    unfold stV at hl1 ⊢
    go_enter Tryz.func125, Tryz.ntmps125
    go_wp2_with fail
    go_big_quiet (fail)
    have hbn := below_drewN' W0 nq
    have H1 := hid (H0.out.below hbn)
    have HQ1 := hid (HQ0.out.below hbn HQ0.out.lt)
    have HT1 := hid (HT0.out.below hbn (Nat.le_refl _))
    have HB1 := hid (HBB.out.trans (hbn.mono (by have := H0.out.size; omega)))
    have HF1 := hid (HF.out.same (w' := W0.drewN nq) rfl)
    have HK1 := hid (HK0.out.trans (Kc.below hbn))
    clear H0 HQ0 HT0 HBB HF HK0 hl1 q0 q1 q2 q3 a1 hW0 hbn
    generalize W0.drewN nq = W1 at *
    have a1 := Lib.cell_of_heap H1.out.au 1
    simp only [auC, List.getElem?_toArray, List.getElem?_cons_zero, List.getElem?_cons_succ] at a1
    have hln := fun ty => H1.out.kn.len Tryz.underlying163 ty W1 rfl
    have hk100 := H1.out.k100
    have hk1 : ((k : Int) == 100) = decide (k = 100) := by
      by_cases h : k = 100
      · subst h; rfl
      · rw [decide_eq_false h, beq_eq_false_iff_ne]; omega
    go_upto_if 21 with fail
    go_cut [] from 16 to 40 (fun wc => ∃ K' Mb' k', AuI c g m K' Mb' k' wc ∧ k' < 100 ∧ Free wc 207 163 K' k' (stV p) (stepsL p) (okK g) ∧ Hq wc w.heap.size p ∧ Below c.B w wc ∧ Kc c w wc ∧ Tab wc)
    case first =>
      by_cases hk : k = 100
      · rw [decide_eq_true hk] at hk1
        have CF := hid (forget_raw c.ab _ _ _ W1 H1.out.au)
        go_wp2_with fail
        refine Calls.mono CF.out ?_
        rintro e W2 ⟨⟨v, rfl⟩, e1, e2, e3, hg2⟩
        obtain ⟨h2, hB2⟩ := H1.out.forget HC.out e1 e2 e3 hg2
        have hfr2 : Free W2 207 163 W1.heap.size 0 (stV p) (stepsL p) (okK g) := by
          rcases (Km.empty 207 e2).look2 steps_keyed Tryz.underlying163 (steps_key p) with ⟨b, hb, _⟩ | ⟨_, hfr⟩
          · exact hb.elim
          · intro hk w0 b ok' h0 hm hb
            exact hfr hk w0 b ok' h0 (fun _ _ h => h.elim) hb
        have HR : Hid (∃ K' Mb' k', AuI c g m K' Mb' k' W2 ∧ k' < 100 ∧ Free W2 207 163 K' k' (stV p) (stepsL p) (okK g) ∧ Hq W2 w.heap.size p ∧ Below c.B w W2 ∧ Kc c w W2 ∧ Tab W2) := ⟨_, _, 0, h2, by omega, hfr2, HQ1.out.grown hg2 (by
          intro e; injection e with e
          have := HQ1.out
          unfold Hq at this
          rw [e, H1.out.au] at this
          cases this), HB1.out.trans hB2, HK1.out.trans (Kc.own hg2 H1.out.outs.2.2), HT1.out.grown hg2 (by
          intro e; injection e with e
          have := HC.out.tab
          have := H1.out.lo
          omega)⟩
        clear e1 e2 e3 hg2 h2 hB2 hfr2 CF
        go_wp2_with fail
        go_meet
        case rel => exact HR.out
      · rw [decide_eq_false hk] at hk1
        go_wp2_with fail
        go_meet
        case rel => exact ⟨K, Mb, k, H1.out, by omega, HF1.out, HQ1.out, HB1.out, HK1.out, HT1.out⟩
    case rest =>
      obtain ⟨K', Mb', k', h2, hk2, hfr2, hq2, hB2, hK2, hT2⟩ := hcut
      have a0 := Lib.cell_of_heap h2.au 0
      simp only [auC, List.getElem?_toArray, List.getElem?_cons_zero, List.getElem?_cons_succ] at a0
      obtain ⟨q0, q1, q2, q3⟩ := hq2.all
      have S5 : ∀ w', Below wc.heap.size wc w' → w'.cell? ⟨c.ab, 0, none⟩ = some (.slice (some ⟨c.b, 0, none⟩) c.ss.length c.cap) ∧ w'.cell? ⟨w.heap.size, 0, none⟩ = some (.int .u64 (wd p 0)) ∧ w'.cell? ⟨w.heap.size, 1, none⟩ = some (.int .u64 (wd p 1)) ∧ w'.cell? ⟨w.heap.size, 2, none⟩ = some (.int .u64 (wd p 2)) ∧ w'.cell? ⟨w.heap.size, 3, none⟩ = some (.int .u64 (wd p 3)) := fun w' hb => by
        have h3 := h2.below hb
        have a0 := Lib.cell_of_heap h3.au 0
        simp only [auC, List.getElem?_toArray, List.getElem?_cons_zero, List.getElem?_cons_succ] at a0
        exact ⟨a0, (hq2.below hb hq2.lt).all⟩
      have HS5 := hid S5
      have CD := hid (fun w' (hb : Below wc.heap.size wc w') => sdone_any c.ss (stepsF_zero HC.out.fault).1 c.b 0 c.cap p HP.out w' (hT2.below hb (Nat.le_refl _)) (Nat.lt_of_lt_of_le h2.blt hb.size) (h2.steps.below hb h2.blt))
      unfold stV at CD
      have H2 := hid h2
      have HF2 := hid hfr2
      have HQ2 := hid hq2
      have HB2 := hid hB2
      have HK2 := hid hK2
      have hmm := @run_makeMap Tryz.prog
      clear h2 hfr2 hq2 hB2 hK2 hT2 S5 H1 HQ1 HT1 HB1 HF1 HK1 hln hk100 hk1 a1
      go_upto_region 24 with fail
      go_cut [6] from 24 to 40 (fun s6 wx => ∃ σ M, s6 = .pointer (some ⟨σ, 0, none⟩) ∧ Below wc.heap.size wc wx ∧ wc.heap.size ≤ σ ∧ wc.heap.size ≤ M ∧ wx.heap[σ]? = some (stC c.ss p M) ∧ wx.heap[M]? = some (.map #[] 0))
      case first =>
        go_region_held3 (fun w' => w'.cell? ⟨c.ab, 0, none⟩ = some (.slice (some ⟨c.b, 0, none⟩) c.ss.length c.cap) ∧ w'.cell? ⟨w.heap.size, 0, none⟩ = some (.int .u64 (wd p 0)) ∧ w'.cell? ⟨w.heap.size, 1, none⟩ = some (.int .u64 (wd p 1)) ∧ w'.cell? ⟨w.heap.size, 2, none⟩ = some (.int .u64 (wd p 2)) ∧ w'.cell? ⟨w.heap.size, 3, none⟩ = some (.int .u64 (wd p 3))) (first | with_reducible exact HS5.out _ (Below.refl _ _).drew | with_reducible exact HS5.out _ ((Below.refl _ _).alloc (Nat.le_refl _) _).drew | with_reducible exact HS5.out _ hbw | with_reducible exact HS5.out _ (hbw.alloc hszw _) | with_reducible exact HS5.out _ ((hbw.alloc hszw _).alloc (le_alloc hszw) _) | (trace_state; fail)) (first
          | (go_at_call 137; refine (CD.out _ ?_).mono ?_; (first | with_reducible exact (Below.refl _ _).drew | with_reducible exact ((Below.refl _ _).alloc (Nat.le_refl _) _).drew); rintro e w5 ⟨rfl, hb5⟩; (first | (have hbw : Below wc.heap.size wc w5 := bel_d hb5; have hszw := hbw.size) | (obtain ⟨hbw, hmap⟩ : Below wc.heap.size wc w5 ∧ w5.heap[wc.heap.size]? = some (.map #[] 0) := bel_da hb5; have hszw := hbw.size))))
        all_goals go_wp2_with fail
        all_goals go_meet
        case rel =>
          refine ⟨_, w5.heap.size, rfl, (hbw.alloc hszw _).alloc (le_alloc hszw) _, by omega, hszw, ?_, ?_⟩
          · have := World.alloc_heap_new (w5.alloc (.map #[] 0)) (stC c.ss p w5.heap.size)
            rwa [World.size_alloc] at this
          · exact (Below.heap_alloc _ _ _ (by simp)).trans (World.alloc_heap_new w5 _)
        exact ⟨_, wc.heap.size, rfl, hbw.alloc hszw _, hszw, Nat.le_refl _, World.alloc_heap_new w5 _, (Below.heap_alloc _ _ _ (heap_lt hmap)).trans hmap⟩
      case rest =>
        obtain ⟨σ, M, rfl, hbx, hσ, hM, es, em⟩ := hcut
        have hgl := gle_put H2.out σ p hσ
        have h3 := (H2.out.grow trivial hbx σ M hσ hM p HP.out es em (Km.empty _ em)).below (Below.refl _ wc).drew
        have hgs : gPut g σ p σ = some p := by unfold gPut; rw [if_pos rfl]
        obtain ⟨w9, hrun, hkm, hg9⟩ := HF2.out (by unfold maxLen; omega) wc.drew σ (okK (gPut g σ p)) (hbx.block K' H2.out.kn.lt) (okK.le hgl) ⟨p, rfl, hgs⟩
        have HR : Hid (AuP c g w p (.returned (.pointer (some ⟨σ, 0, none⟩))) w9) := by
          refine ⟨_, _, _, _, _, σ, rfl, h3.putK HC.out hg9 hkm (by omega), hgl, hgs, ?_, ?_⟩
          rotate_left
          · obtain ⟨es', cl', hM'⟩ := h3.kn.heap
            exact (HK2.out.trans ((Kc.below hbx).trans (Kc.below (Below.refl _ wc).drew))).trans (Kc.map hM' hg9 h3.outs.1)
          have hb : Below c.B w wc.drew := (HB2.out.trans (hbx.mono (by have := H2.out.size; omega))).drew
          exact hb.grown hg9 (by have := h3.size; omega) (fun k e => by injection e with e; have := h3.lo; omega)
        have a2 := Lib.cell_of_heap h3.au 1
        simp only [auC, List.getElem?_toArray, List.getElem?_cons_zero, List.getElem?_cons_succ] at a2
        obtain ⟨y0, y1, y2, y3⟩ := (HQ2.out.below hbx HQ2.out.lt).all
        replace a2 : wc.cell? ⟨c.ab, 1, none⟩ = some (.map (some K')) := a2
        unfold stV at hrun
        clear es em hgs h3 hkm hg9 hgl hbx
        go_wp2_with fail
        go_region
        go_wp2
        go_ret
        exact HR.out
end Go.Proofs.YtejbififfceamaaGreatDoor
namespace Go.Proofs.YtejbififfceamaaGreatDoor
set_option linter.unusedSimpArgs false
set_option linter.unusedVariables false
set_option maxRecDepth 100000
open Go.RowKit Go.Shelf
/-- What is stored, at a key that may be there. -/
theorem Km.store {w : World} {kt mt : TypeId} {M k : Nat} {ok : Lit → Nat → Prop} (h : Km w kt M k ok) (K : Maps.Keyed Tryz.prog kt) (hu : Tryz.prog.underlying mt = some (.map kt 201)) {key : Value} {kl : Lit} (hkey : keyOf Tryz.prog kt key = some kl) (hlt : k < maxLen) (b : Nat) (hb : ok kl b) :
    ∃ w' k', (Instr.mapUpdate mt (.map (some M)) key (.pointer (some ⟨b, 0, none⟩))).run Tryz.prog w = .ok () w' ∧ Km w' kt M k' ok ∧ w.grownBy w' (some M) := by
  obtain ⟨D, h0, hs, hk⟩ := h
  have hkl := K.key hkey
  obtain ⟨w', hrun, hown', hg⟩ := h0.update K hu (by omega) hkey (val := .pointer (some ⟨b, 0, none⟩)) (d := .held (.pointer (some ⟨b, 0, none⟩))) (ps := []) rfl
  refine ⟨w', Maps.size (D.put kl (.held (.pointer (some ⟨b, 0, none⟩)))), hrun, ⟨D.put kl (.held (.pointer (some ⟨b, 0, none⟩))), ?_, rfl, fun kl' hh' => ?_⟩, hg⟩
  · obtain ⟨es, clock, hb', F, _, e⟩ := hown'
    refine ⟨es, clock, hb', F, ?_, e⟩
    rw [e]
    simp [Maps.size, length_sorted]
  · by_cases e : kl' = kl
    · subst e
      exact ⟨b, hb, fun z => Maps.atKey_put_same h0.isMap hkl _ _⟩
    · rw [Maps.has_put_other e] at hh'
      obtain ⟨c, h4, h5⟩ := hk kl' hh'
      exact ⟨c, h4, fun z => by rw [Maps.atKey_put_other e]; exact h5 z⟩
theorem okB_small {w : World} {Mb k : Nat} {ss : List St} {g : Nat → Option (Nat → Bool)} (h : Km w 204 Mb k (okB ss g)) : k ≤ 4 := by
  refine h.small place_keyed 4 (fun n => placeL (decide (n % 2 = 1)) (decide (n / 2 = 1))) (fun kl b ⟨fi, la, e, _⟩ => ?_)
  cases fi <;> cases la
  · exact ⟨0, by omega, by rw [e]; rfl⟩
  · exact ⟨2, by omega, by rw [e]; rfl⟩
  · exact ⟨1, by omega, by rw [e]; rfl⟩
  · exact ⟨3, by omega, by rw [e]; rfl⟩
set_option maxHeartbeats 4000000 in
theorem begin_any (c : Ax) (hc : c.Good) (g : Nat → Option (Nat → Bool)) (m : Nat → Nat) (K Mb k : Nat) (w : World) (h : AuI c g m K Mb k w) (hT : Tab w) (fi la : Bool) :
    Calls Tryz.prog 103 #[c.u, pcV fi la] w (AuP c g w (begS c.ss fi la)) := by
  obtain ⟨W0, hW0⟩ : ∃ W0, w.alloc (.cells #[.bool fi, .bool la] 204) = W0 := ⟨_, rfl⟩
  have hb0 : Below w.heap.size w W0 := by rw [← hW0]; exact (Below.refl _ _).alloc (Nat.le_refl _) _
  have hq0 : W0.heap[w.heap.size]? = some (.cells #[.bool fi, .bool la] 204 (0, 0)) := by rw [← hW0]; exact World.alloc_heap_new w _
  have h0 := h.below hb0
  have hzab : w.heap.size ≠ c.ab := by have := heap_lt h.au; omega
  have hBB : Below c.B w W0 := hb0.mono (by have := h.size; omega)
  have hT0 := hT.below hb0 (Nat.le_refl _)
  have a2 := Lib.cell_of_heap h0.au 2
  have p0 := Lib.cell_of_heap hq0 0
  have p1 := Lib.cell_of_heap hq0 1
  simp only [auC, List.getElem?_toArray, List.getElem?_cons_zero, List.getElem?_cons_succ] at a2 p0 p1
  obtain ⟨kb, hbg⟩ := h0.bg
  rcases hbg.look2 place_keyed Tryz.underlying164 (place_key fi la) with ⟨σ, ⟨fi', la', hpl, hg⟩, hlook⟩ | ⟨hlook, _⟩
  · -- it is known
    obtain ⟨rfl, rfl⟩ := place_inj hpl
    have hl1 := fun n => hlook (W0.drewN n) rfl
    have HR : Hid (∀ w', Below W0.heap.size W0 w' → AuP c g w (begS c.ss fi la) (.returned (.pointer (some ⟨σ, 0, none⟩))) w') := fun w' hb => ⟨g, m, K, Mb, k, σ, rfl, h0.below hb, Gle.refl g, hg, hBB.trans (hb.mono (by have := h0.size; omega)), (Kc.below hb0).trans (Kc.below hb)⟩
    clear hlook h h0 hT hT0 hq0 hb0 hBB hg hpl hbg
    go_enter Tryz.func103, Tryz.ntmps103
    go_wp2_with fail
    go_big_quiet (fail)
    go_wp2
    go_ret
    exact HR.out _ (below_drewN' W0 nq)
  · -- it is not
    have hl1 := fun n => hlook (W0.drewN n) rfl
    have HC := hid hc
    have H0 := hid h0
    have HQ0 := hid hq0
    have HBB := hid hBB
    have HT0 := hid hT0
    have HK0 : Hid (Kc c w W0) := Kc.below hb0
    clear hlook h hT hb0 hc h0 hq0 hBB hT0 hbg
    go_enter Tryz.func103, Tryz.ntmps103
    go_wp2_with fail
    go_big_quiet (fail)
    have hbn := below_drewN' W0 nq
    have H1 := hid (H0.out.below hbn)
    have HQ1 : Hid ((W0.drewN nq).heap[w.heap.size]? = some (.cells #[.bool fi, .bool la] 204 (0, 0))) := HQ0.out
    have HT1 := hid (HT0.out.below hbn (Nat.le_refl _))
    have HB1 := hid (HBB.out.trans (hbn.mono (by have := H0.out.size; omega)))
    have HK1 := hid (HK0.out.trans (Kc.below hbn))
    clear H0 HQ0 HT0 HBB HK0 hl1 a2 p0 p1 hW0 hbn
    generalize W0.drewN nq = W1 at *
    have HS : Hid (∀ w', Kc c W1 w' → (∃ K Mb, w'.heap[c.ab]? = some (auC c K Mb)) → w'.cell? ⟨c.ab, 0, none⟩ = some (.slice (some ⟨c.b, 0, none⟩) c.ss.length c.cap) ∧ w'.cell? ⟨w.heap.size, 0, none⟩ = some (.bool fi) ∧ w'.cell? ⟨w.heap.size, 1, none⟩ = some (.bool la)) := fun w' hk ⟨K, Mb, ha⟩ => by
      have hq := hk.same _ _ HQ1.out rfl hzab
      have a0 := Lib.cell_of_heap ha 0
      have p0 := Lib.cell_of_heap hq 0
      have p1 := Lib.cell_of_heap hq 1
      simp only [auC, List.getElem?_toArray, List.getElem?_cons_zero, List.getElem?_cons_succ] at a0 p0 p1
      exact ⟨a0, p0, p1⟩
    have hS0 := HS.out W1.drew (Kc.below (Below.refl _ _).drew) ⟨K, Mb, H1.out.au⟩
    have CB := hid (sbegin_any c.ss HC.out.fault c.b 0 c.cap fi la W1.drew (HT1.out.below (Below.refl _ _).drew (Nat.le_refl _)) H1.out.blt H1.out.steps)
    have CK := hid (fun w' (hb : Below W1.drew.heap.size W1.drew w') => keep_any c HC.out g m K Mb k w' ((H1.out.below (Below.refl _ _).drew).below hb) ((HT1.out.below (Below.refl _ _).drew (Nat.le_refl _)).below hb (Nat.le_refl _)) (begS c.ss fi la) (beg_sub (leads_of HC.out.fault) (stepsF_zero HC.out.fault).2.1 fi la))
    unfold stV at CB CK
    go_upto_region 14 with fail
    go_region_held3 (fun w' => w'.cell? ⟨c.ab, 0, none⟩ = some (.slice (some ⟨c.b, 0, none⟩) c.ss.length c.cap) ∧ w'.cell? ⟨w.heap.size, 0, none⟩ = some (.bool fi) ∧ w'.cell? ⟨w.heap.size, 1, none⟩ = some (.bool la)) (first | with_reducible exact hS0 | with_reducible exact hS5 | with_reducible exact hS6 | (trace_state; fail)) (first
      | (go_at_call 126; refine CB.out.mono ?_; rintro e w5 ⟨rfl, hb5⟩; have hS5 := HS.out w5 ((Kc.below (Below.refl _ _).drew).trans (Kc.below hb5)) ⟨K, Mb, (H1.out.below ((Below.refl _ _).drew.trans hb5)).au⟩)
      | (go_at_call 125; refine (CK.out w5 hb5).mono ?_; rintro e w6 ⟨g2, m2, K2, Mb2, k2, σ, rfl, h2, hgl, hgs, hB2, hK2⟩; have hS6 := HS.out w6 (((Kc.below (Below.refl _ _).drew).trans (Kc.below hb5)).trans hK2) ⟨K2, Mb2, h2.au⟩))
    obtain ⟨kb2, hbg2⟩ := (h2.below (Below.refl _ w6).drew).bg
    obtain ⟨w9, k9, hrun, hkm, hg9⟩ := hbg2.store place_keyed Tryz.underlying164 (place_key fi la) (by have := okB_small hbg2; unfold maxLen; omega) σ ⟨fi, la, rfl, hgs⟩
    have HR : Hid (AuP c g w (begS c.ss fi la) (.returned (.pointer (some ⟨σ, 0, none⟩))) w9) := by
      have h3 := (h2.below (Below.refl _ w6).drew)
      refine ⟨g2, m2, K2, Mb2, k2, σ, rfl, h3.putB HC.out hg9 hkm, hgl, hgs, ?_, ?_⟩
      · have hb : Below c.B w w6.drew := ((HB1.out.trans ((Below.refl _ _).drew.trans (hb5.mono (by have := H1.out.size; show c.B ≤ W1.heap.size; omega)))).trans hB2).drew
        exact hb.grown hg9 (by have := h3.size; omega) (fun k e => by injection e with e; have := h3.lo; omega)
      · obtain ⟨es', cl', hM'⟩ := hbg2.heap
        exact (((HK1.out.trans ((Kc.below (Below.refl _ _).drew).trans (Kc.below hb5))).trans hK2).trans (Kc.below (Below.refl _ w6).drew)).trans (Kc.map hM' hg9 h3.outs.2.1)
    have a2 := Lib.cell_of_heap h2.au 2
    simp only [auC, List.getElem?_toArray, List.getElem?_cons_zero, List.getElem?_cons_succ] at a2
    obtain ⟨_, y0, y1⟩ := hS6
    clear h2 hkm hg9 hgl hgs hB2 hK2 hb5 hbg2
    go_wp2_with fail
    go_region
    go_wp2
    go_ret
    exact HR.out
end Go.Proofs.YtejbififfceamaaGreatDoor
namespace Go.Proofs.YtejbififfceamaaGreatDoor
set_option linter.unusedSimpArgs false
set_option linter.unusedVariables false
set_option maxRecDepth 100000
open Go.RowKit Go.Shelf
theorem okM_small {w : World} {M k : Nat} {ss : List St} {g : Nat → Option (Nat → Bool)} {p : Nat → Bool} (h : Km w 213 M k (okM ss g p)) : k ≤ 1024 := by
  refine h.small move_keyed 1024 (fun n => moveL (UInt8.ofNat (n / 4)) (decide (n % 2 = 1)) (decide (n / 2 % 2 = 1))) (fun kl b ⟨x, fi, la, e, _⟩ => ?_)
  have hx := x.toNat_lt
  have hu : ∀ r, r < 4 → UInt8.ofNat ((4 * x.toNat + r) / 4) = x := fun r hr => by
    rw [show (4 * x.toNat + r) / 4 = x.toNat by omega]
    simp
  cases fi <;> cases la
  · refine ⟨4 * x.toNat + 0, by omega, ?_⟩
    rw [e, hu 0 (by omega), decide_eq_false (by omega), decide_eq_false (by omega)]
  · refine ⟨4 * x.toNat + 2, by omega, ?_⟩
    rw [e, hu 2 (by omega), decide_eq_false (by omega), decide_eq_true (by omega)]
  · refine ⟨4 * x.toNat + 1, by omega, ?_⟩
    rw [e, hu 1 (by omega), decide_eq_true (by omega), decide_eq_false (by omega)]
  · refine ⟨4 * x.toNat + 3, by omega, ?_⟩
    rw [e, hu 3 (by omega), decide_eq_true (by omega), decide_eq_true (by omega)]
set_option maxHeartbeats 4000000 in
theorem next_any (c : Ax) (hc : c.Good) (g : Nat → Option (Nat → Bool)) (m : Nat → Nat) (K Mb k : Nat) (w : World) (h : AuI c g m K Mb k w) (hT : Tab w) (ρ : Nat) (q : Nat → Bool) (hρ : g ρ = some q) (x : UInt8) (fi la : Bool) :
    Calls Tryz.prog 106 #[c.u, .pointer (some ⟨ρ, 0, none⟩), mvV x fi la] w (AuP c g w (nxtS c.ss q x.toNat fi la)) := by
  obtain ⟨W0, hW0⟩ : ∃ W0, w.alloc (.cells #[.int .u8 (x.toNat : Int), .bool fi, .bool la] 213) = W0 := ⟨_, rfl⟩
  have hb0 : Below w.heap.size w W0 := by rw [← hW0]; exact (Below.refl _ _).alloc (Nat.le_refl _) _
  have hq0 : W0.heap[w.heap.size]? = some (.cells #[.int .u8 (x.toNat : Int), .bool fi, .bool la] 213 (0, 0)) := by rw [← hW0]; exact World.alloc_heap_new w _
  have h0 := h.below hb0
  have hzab : w.heap.size ≠ c.ab := by have := heap_lt h.au; omega
  have hBB : Below c.B w W0 := hb0.mono (by have := h.size; omega)
  have hT0 := hT.below hb0 (Nat.le_refl _)
  have hst0 := h0.st ρ q hρ
  have hρab := (h0.loS ρ q hρ).2.2
  have a2 := Lib.cell_of_heap hst0 5
  have p0 := Lib.cell_of_heap hq0 0
  have p1 := Lib.cell_of_heap hq0 1
  have p2 := Lib.cell_of_heap hq0 2
  simp only [stC, List.getElem?_toArray, List.getElem?_cons_zero, List.getElem?_cons_succ] at a2 p0 p1 p2
  obtain ⟨kb, hbg⟩ := h0.mv ρ q hρ
  rcases hbg.look2 move_keyed Tryz.underlying208 (move_key x fi la) with ⟨σ, ⟨x', fi', la', hpl, hg⟩, hlook⟩ | ⟨hlook, _⟩
  · -- it is known
    obtain ⟨rfl, rfl, rfl⟩ := move_inj hpl
    have hl1 := fun n => hlook (W0.drewN n) rfl
    have HR : Hid (∀ w', Below W0.heap.size W0 w' → AuP c g w (nxtS c.ss q x.toNat fi la) (.returned (.pointer (some ⟨σ, 0, none⟩))) w') := fun w' hb => ⟨g, m, K, Mb, k, σ, rfl, h0.below hb, Gle.refl g, hg, hBB.trans (hb.mono (by have := h0.size; omega)), (Kc.below hb0).trans (Kc.below hb)⟩
    unfold mvV at hl1 ⊢
    clear hlook h h0 hT hT0 hq0 hb0 hBB hg hpl hbg hst0
    go_enter Tryz.func106, Tryz.ntmps106
    go_wp2_with fail
    go_big_quiet (fail)
    go_wp2
    go_ret
    exact HR.out _ (below_drewN' W0 nq)
  · -- it is not
    have hl1 := fun n => hlook (W0.drewN n) rfl
    have HC := hid hc
    have H0 := hid h0
    have HQ0 := hid hq0
    have HBB := hid hBB
    have HT0 := hid hT0
    have HK0 : Hid (Kc c w W0) := Kc.below hb0
    have HST0 := hid hst0
    unfold mvV at hl1 ⊢
    clear hlook h hT hb0 hc h0 hq0 hBB hT0 hbg hst0
    go_enter Tryz.func106, Tryz.ntmps106
    go_wp2_with fail
    go_big_quiet (fail)
    have hbn := below_drewN' W0 nq
    have H1 := hid (H0.out.below hbn)
    have HQ1 : Hid ((W0.drewN nq).heap[w.heap.size]? = some (.cells #[.int .u8 (x.toNat : Int), .bool fi, .bool la] 213 (0, 0))) := HQ0.out
    have HST1 : Hid ((W0.drewN nq).heap[ρ]? = some (stC c.ss q (m ρ))) := HST0.out
    have HT1 := hid (HT0.out.below hbn (Nat.le_refl _))
    have HB1 := hid (HBB.out.trans (hbn.mono (by have := H0.out.size; omega)))
    have HK1 := hid (HK0.out.trans (Kc.below hbn))
    clear H0 HQ0 HT0 HBB HK0 HST0 hl1 a2 p0 p1 p2 hW0 hbn
    generalize W0.drewN nq = W1 at *
    have HS : Hid (∀ w', Kc c W1 w' → (∃ K Mb, w'.heap[c.ab]? = some (auC c K Mb)) → w'.cell? ⟨c.ab, 0, none⟩ = some (.slice (some ⟨c.b, 0, none⟩) c.ss.length c.cap) ∧ w'.cell? ⟨w.heap.size, 0, none⟩ = some (.int .u8 (x.toNat : Int)) ∧ w'.cell? ⟨w.heap.size, 1, none⟩ = some (.bool fi) ∧ w'.cell? ⟨w.heap.size, 2, none⟩ = some (.bool la) ∧ w'.cell? ⟨ρ, 0, none⟩ = some (.int .u64 (wd q 0)) ∧ w'.cell? ⟨ρ, 1, none⟩ = some (.int .u64 (wd q 1)) ∧ w'.cell? ⟨ρ, 2, none⟩ = some (.int .u64 (wd q 2)) ∧ w'.cell? ⟨ρ, 3, none⟩ = some (.int .u64 (wd q 3))) := fun w' hk ⟨K, Mb, ha⟩ => by
      have hq := hk.same _ _ HQ1.out rfl hzab
      have hs := hk.same _ _ HST1.out rfl hρab
      have a0 := Lib.cell_of_heap ha 0
      have p0 := Lib.cell_of_heap hq 0
      have p1 := Lib.cell_of_heap hq 1
      have p2 := Lib.cell_of_heap hq 2
      have s0 := Lib.cell_of_heap hs 0
      have s1 := Lib.cell_of_heap hs 1
      have s2 := Lib.cell_of_heap hs 2
      have s3 := Lib.cell_of_heap hs 3
      simp only [auC, stC, List.getElem?_toArray, List.getElem?_cons_zero, List.getElem?_cons_succ] at a0 p0 p1 p2 s0 s1 s2 s3
      exact ⟨a0, p0, p1, p2, s0, s1, s2, s3⟩
    have hS0 := HS.out W1.drew (Kc.below (Below.refl _ _).drew) ⟨K, Mb, H1.out.au⟩
    have CB := hid (snext_any c.ss HC.out.fault HC.out.ok c.b 0 c.cap q (H1.out.sub ρ q hρ) x fi la W1.drew (HT1.out.below (Below.refl _ _).drew (Nat.le_refl _)) H1.out.blt H1.out.steps)
    have CK := hid (fun w' (hb : Below W1.drew.heap.size W1.drew w') => keep_any c HC.out g m K Mb k w' ((H1.out.below (Below.refl _ _).drew).below hb) ((HT1.out.below (Below.refl _ _).drew (Nat.le_refl _)).below hb (Nat.le_refl _)) (nxtS c.ss q x.toNat fi la) (nxt_sub (leads_of HC.out.fault) q x.toNat fi la))
    unfold stV at CB CK
    go_upto_region 16 with fail
    go_region_held3 (fun w' => w'.cell? ⟨c.ab, 0, none⟩ = some (.slice (some ⟨c.b, 0, none⟩) c.ss.length c.cap) ∧ w'.cell? ⟨w.heap.size, 0, none⟩ = some (.int .u8 (x.toNat : Int)) ∧ w'.cell? ⟨w.heap.size, 1, none⟩ = some (.bool fi) ∧ w'.cell? ⟨w.heap.size, 2, none⟩ = some (.bool la) ∧ w'.cell? ⟨ρ, 0, none⟩ = some (.int .u64 (wd q 0)) ∧ w'.cell? ⟨ρ, 1, none⟩ = some (.int .u64 (wd q 1)) ∧ w'.cell? ⟨ρ, 2, none⟩ = some (.int .u64 (wd q 2)) ∧ w'.cell? ⟨ρ, 3, none⟩ = some (.int .u64 (wd q 3))) (first | with_reducible exact hS0 | with_reducible exact hS5 | with_reducible exact hS6 | (trace_state; fail)) (first
      | (go_at_call 127; refine CB.out.mono ?_; rintro e w5 ⟨rfl, hb5⟩; have hS5 := HS.out w5 ((Kc.below (Below.refl _ _).drew).trans (Kc.below hb5)) ⟨K, Mb, (H1.out.below ((Below.refl _ _).drew.trans hb5)).au⟩)
      | (go_at_call 125; refine (CK.out w5 hb5).mono ?_; rintro e w6 ⟨g2, m2, K2, Mb2, k2, σ, rfl, h2, hgl, hgs, hB2, hK2⟩; have hS6 := HS.out w6 (((Kc.below (Below.refl _ _).drew).trans (Kc.below hb5)).trans hK2) ⟨K2, Mb2, h2.au⟩))
    obtain ⟨kb2, hbg2⟩ := (h2.below (Below.refl _ w6).drew).mv ρ q (hgl ρ q hρ)
    obtain ⟨w9, k9, hrun, hkm, hg9⟩ := hbg2.store move_keyed Tryz.underlying208 (move_key x fi la) (by have := okM_small hbg2; unfold maxLen; omega) σ ⟨x, fi, la, rfl, hgs⟩
    have HR : Hid (AuP c g w (nxtS c.ss q x.toNat fi la) (.returned (.pointer (some ⟨σ, 0, none⟩))) w9) := by
      have h3 := (h2.below (Below.refl _ w6).drew)
      refine ⟨g2, m2, K2, Mb2, k2, σ, rfl, h3.putM HC.out (hgl ρ q hρ) hg9 hkm, hgl, hgs, ?_, ?_⟩
      · have hb : Below c.B w w6.drew := ((HB1.out.trans ((Below.refl _ _).drew.trans (hb5.mono (by have := H1.out.size; show c.B ≤ W1.heap.size; omega)))).trans hB2).drew
        exact hb.grown hg9 (by have := h3.size; omega) (fun k e => by injection e with e; have := h3.loS ρ q (hgl ρ q hρ); omega)
      · obtain ⟨es', cl', hM'⟩ := hbg2.heap
        exact (((HK1.out.trans ((Kc.below (Below.refl _ _).drew).trans (Kc.below hb5))).trans hK2).trans (Kc.below (Below.refl _ w6).drew)).trans (Kc.map hM' hg9 (h3.outS ρ q (hgl ρ q hρ)))
    unfold mvV at hrun
    have a2 := Lib.cell_of_heap (h2.st ρ q (hgl ρ q hρ)) 5
    simp only [stC, List.getElem?_toArray, List.getElem?_cons_zero, List.getElem?_cons_succ] at a2
    obtain ⟨_, y0, y1, y2, _⟩ := hS6
    clear h2 hkm hg9 hgl hgs hB2 hK2 hb5 hbg2
    go_wp2_with fail
    go_region
    go_wp2
    go_ret
    exact HR.out
end Go.Proofs.YtejbififfceamaaGreatDoor
namespace Go.Proofs.YtejbififfceamaaGreatDoor
set_option linter.unusedSimpArgs false
set_option linter.unusedVariables false
set_option maxRecDepth 100000
open Go.RowKit Go.Shelf
/-- Between two rounds: σ is the state of what is come to at place a. -/
def LpI (c : Ax) (s : ByteArray) (i a σ : Nat) (w wr : World) : Prop := ∃ g m K Mb k, AuI c g m K Mb k wr ∧ g σ = some (curS c.ss s.data.toList i a) ∧ Below c.B w wr ∧ Kc c w wr
theorem lastI_no {l : List Nat} (a : Nat) (h : ¬ a ∈ l) : lastI (ahead l (a + 1)) = lastI (ahead l a) := by rw [ahead_no a h]
theorem lastI_yes {l : List Nat} (hl : l.Pairwise (· < ·)) (a : Nat) (h : a ∈ l) : lastI (ahead l (a + 1)) = (a : Int) := by rw [ahead_yes hl a h, lastI_snoc]
set_option maxHeartbeats 8000000 in
theorem along_any (c : Ax) (hc : c.Good) (g : Nat → Option (Nat → Bool)) (m : Nat → Nat) (K Mb k : Nat) (w : World) (h : AuI c g m K Mb k w) (hT : Tab w) (s : ByteArray) (hs : s.size ≤ 400) (i : Nat) (hi : i ≤ s.size) (l : List Nat) (hl : RunR c.ss s.data.toList i l) :
    Calls Tryz.prog 74 #[c.u, .string s, .int .i64 (i : Int)] w fun e w' => e = .returned (.tuple #[.int .i64 (lastI l), .nilIface]) ∧ (∃ g m K Mb k, AuI c g m K Mb k w') ∧ Below c.B w w' ∧ Kc c w w' := by
  have hpl : plE s.size (i : Int) = 0 := by unfold plE; rw [if_neg (by omega), if_pos ⟨by omega, by omega⟩]
  have HCP := hid (checkPlace_any s (i : Int) w (by unfold maxLen; omega))
  rw [hpl, show errV 0 = .nilIface from rfl] at HCP
  have hlen : s.data.toList.length = s.size := by simp
  obtain ⟨h200, hpos, _⟩ := stepsF_zero hc.fault
  have HPL := hid (fun w' => placeOf_any s i w')
  have HBG := hid (fun w' (hb : Below w.heap.size w w') => begin_any c hc g m K Mb k w' (h.below hb) (hT.below hb (Nat.le_refl _)) (decide (i = 0)) (decide (i = s.data.toList.length)))
  have HTB : Hid (∀ w', Below c.B w w' → Tab w') := fun w' hb j hj => by
    have e := hT j hj
    exact (hb.cell (p := ⟨2, j, none⟩) hc.tab).trans e
  have HSZ := hid h.size
  have HC := hid hc
  have HL := hid hl
  rw [← cur_beg c.ss s.data.toList i (by omega)] at HBG
  clear hpl h hT hc hl
  go_enter Tryz.func74, Tryz.ntmps74
  go_wp2_with fail
  refine Calls.mono HCP.out ?_
  rintro e w1 ⟨rfl, hb1⟩
  go_wp2_with fail
  refine Calls.mono (HPL.out w1) ?_
  rintro e w2 ⟨rfl, hb2⟩
  have hb12 := hb1.trans (hb2.mono hb1.size)
  go_wp2_with fail
  refine Calls.mono (HBG.out w2 hb12) ?_
  rintro e w3 ⟨g3, m3, K3, Mb3, k3, σ, rfl, h3, _, hg3, hB3, hK3⟩
  have HR0 : Hid (∃ a σ' : Nat, i ≤ a ∧ a ≤ s.size ∧ (i : Int) = (a : Int) ∧ σ = σ' ∧ (-1 : Int) = lastI (ahead l a) ∧ LpI c s i a σ' w w3) := by
    refine ⟨i, σ, Nat.le_refl _, hi, rfl, rfl, ?_, g3, m3, K3, Mb3, k3, h3, hg3, (hb12.mono (Nat.le_of_lt HSZ.out)).trans hB3, (Kc.below hb12).trans hK3⟩
    rw [cur_begin (by omega) HL.out]
    rfl
  clear h3 hg3 hB3 hK3 hb12 hb2 hb1 HBG HPL HCP
  go_wp2_with fail
  go_loopw [9, 10, 11] (fun lo no av wr => ∃ a σ : Nat, i ≤ a ∧ a ≤ s.size ∧ av = .int .i64 (a : Int) ∧ no = .pointer (some ⟨σ, 0, none⟩) ∧ lo = .int .i64 (lastI (ahead l a)) ∧ Hid (LpI c s i a σ w wr)) (fun _ _ av _ => s.size + 1 - (intOf av).toNat)
  case atStart =>
    obtain ⟨a, σ', h1, h2, h3, h4, h5, h6⟩ := HR0.out
    exact ⟨a, σ', h1, h2, by rw [h3], by rw [h4], by rw [h5], h6⟩
  case round =>
    clear HR0
    obtain ⟨a, ρ, hia, has, rfl, rfl, rfl, HR⟩ := hrel
    obtain ⟨g4, m4, K4, Mb4, k4, h4, hg4, hB4, hK4⟩ := HR.out
    have HK4 := hid hK4
    have hst := h4.st ρ _ hg4
    have c0 := Lib.cell_of_heap hst 0
    have c1 := Lib.cell_of_heap hst 1
    have c2 := Lib.cell_of_heap hst 2
    have c3 := Lib.cell_of_heap hst 3
    simp only [stC, List.getElem?_toArray, List.getElem?_cons_zero, List.getElem?_cons_succ] at c0 c1 c2 c3
    have CE := hid (sempty_any h200 (curS c.ss s.data.toList i a) (h4.sub ρ _ hg4) wr)
    have HEND : Hid (curS c.ss s.data.toList i a = noP → ahead l a = l) := fun h => cur_all (by omega) hia HL.out h
    have H4 := hid h4
    have HB4 := hid hB4
    unfold stV at CE
    clear h4 hB4 hK4 hst HR
    go_wp2_with fail
    refine Calls.mono CE.out ?_
    rintro e w5 ⟨y, rfl, hy, hb5⟩
    have H5 := hid (H4.out.below hb5)
    have HB5 := hid (HB4.out.trans (hb5.mono (Nat.le_of_lt H4.out.size)))
    have HK5 := hid (HK4.out.trans (Kc.below hb5))
    clear hb5 H4 HB4 HK4 CE c0 c1 c2 c3
    cases y with
    | true =>
      have HE : Hid (ahead l a = l) := HEND.out (hy.1 rfl)
      clear hy HEND
      go_wp2
      go_ret2
      exact ⟨by rw [HE.out]; rfl, ⟨_, _, _, _, _, H5.out⟩, HB5.out, HK5.out⟩
    | false =>
      have c4 := Lib.cell_of_heap (H5.out.st ρ _ hg4) 4
      simp only [stC, List.getElem?_toArray, List.getElem?_cons_zero, List.getElem?_cons_succ] at c4
      clear hy HEND
      have HDN := hid (cur_done (ss := c.ss) (s := s.data.toList) (i := i) (show i ≤ s.data.toList.length by omega) HL.out a)
      cases hd : donF c.ss (curS c.ss s.data.toList i a)
      case' false =>
        rw [hd] at c4
        have HV : Hid (lastI (ahead l (a + 1)) = lastI (ahead l a)) := lastI_no a (fun h => by
          have := HDN.out.2 h
          rw [hd] at this
          cases this)
      case' true =>
        rw [hd] at c4
        have HV : Hid (lastI (ahead l (a + 1)) = (a : Int)) := lastI_yes HL.out.1 a (HDN.out.1 hd)
      all_goals
        clear HDN hd
        by_cases hae : a = s.size
        · have he : ((a : Int) == (s.size : Int)) = true := by rw [hae]; simp
          have HE : Hid (ahead l (a + 1) = l) := by
            show _ = _
            rw [hae, ← hlen]
            exact cur_last (by omega) HL.out
          rw [HE.out] at HV
          clear hae
          go_wp2
          go_ret2
          exact ⟨by rw [HV.out]; rfl, ⟨_, _, _, _, _, H5.out⟩, HB5.out, HK5.out⟩
        · have he : ((a : Int) == (s.size : Int)) = false := by rw [beq_eq_false_iff_ne]; omega
          have hal : a < s.size := by omega
          have g0 : (0 : Int) ≤ (a : Int) := by omega
          have g1 : (a : Int) < (s.size : Int) := by omega
          have hsa : s.data.toList[a]? = some s[a] := by
            rw [List.getElem?_eq_getElem (by simpa using hal)]; rfl
          have HNX : Hid (nxtS c.ss (curS c.ss s.data.toList i a) s[a].toNat false (decide (a + 1 = s.size)) = curS c.ss s.data.toList i (a + 1)) := by
            show _ = _
            rw [cur_next c.ss s.data.toList i a hia s[a] hsa, hlen]
          have CP := hid (fun w' => placeOf_any s (a + 1) w')
          have e1 : ((a + 1 : Nat) : Int) = (a : Int) + 1 := by omega
          rw [e1, show decide (a + 1 = 0) = false by simp, hlen] at CP
          have hw1 : IntKind.i64.wrap ((a : Int) + 1) = (a : Int) + 1 := by rw [IntKind.wrap_i64]; omega
          have CN := hid (fun w' (hb : Below w5.heap.size w5 w') => next_any c HC.out g4 m4 K4 Mb4 k4 w' (H5.out.below hb) (HTB.out _ (HB5.out.trans (hb.mono (Nat.le_of_lt H5.out.size)))) ρ _ hg4 s[a] false (decide (a + 1 = s.size)))
          rw [HNX.out] at CN
          unfold mvV at CN
          have HG4 := hid hg4
          clear e1 hsa hg4
          go_wp2_with fail
          go_region_with (first
            | (go_at_call 104; refine (CP.out _).mono ?_; rintro e w6 ⟨rfl, hb6⟩; have hbw : Below w5.heap.size w5 w6 := bel_d hb6)
            | (go_at_call 106; refine (CN.out w6 hbw).mono ?_; rintro e w7 ⟨g7, m7, K7, Mb7, k7, τ, rfl, h7, hgl7, hg7, hB7, hK7⟩))
          all_goals trace_state
          all_goals
            have HR : Hid (LpI c s i (a + 1) τ w w7) := ⟨g7, m7, K7, Mb7, k7, h7, hg7, (HB5.out.trans (hbw.mono (Nat.le_of_lt H5.out.size))).trans hB7, (HK5.out.trans (Kc.below hbw)).trans hK7⟩
            clear h7 hgl7 hg7 hB7 hK7 hb6 hbw
            go_wp2
            exact ⟨⟨a + 1, τ, by omega, by omega, by go_num, rfl, by rw [HV.out], HR⟩, by simp [intOf]; omega⟩
end Go.Proofs.YtejbififfceamaaGreatDoor
