/- What the document's own reader does: bracketed. How great what is read is; lists of nodes joined. Plain mathematics. -/
import Derived.Test.YtmdfdlljeggbbaaGreatDoorY07
import Derived.Test.YtmdfdlljeggbbaaGreatDoorY05
import Derived.Test.YtmdfdlljeggbbaaGreatDoorY08
import Derived.Handy
import Derived.Test.YtmdfdlljeggbbaaGreatDoorY04
namespace Go.Proofs.YtmdfdlljeggbbaaGreatDoor
set_option linter.unusedSimpArgs false
set_option linter.unusedVariables false
set_option maxRecDepth 100000
open Go.RowKit

/-- The world in bracketed: its result's block, its class. -/
structure BrS (w : World) (g : Nat) (c : C4) (wr : World) : Prop where
  gr : w.grownBy wr (some g)
  res : Hb wr w.heap.size z4
  cls : Hb wr (w.heap.size + 1) c
  gl : g < w.heap.size
theorem BrS.grown {w wr w' : World} {g : Nat} {c : C4} (h : BrS w g c wr) (hg : wr.grownBy w' (some g)) : BrS w g c w' := by
  have hl := h.gl
  refine ⟨h.gr.trans hg, ?_, ?_, hl⟩
  · exact (hg.block _ h.res.lt (by intro e; injection e with e; omega)).trans h.res
  · exact (hg.block _ h.cls.lt (by intro e; injection e with e; omega)).trans h.cls
theorem BrS.below {w wr w' : World} {g : Nat} {c : C4} (h : BrS w g c wr) (hb : Below wr.heap.size wr w') : BrS w g c w' := h.grown (below_grown hb _)
theorem grown_put4 {w wr : World} {g b : Nat} (h : w.grownBy wr (some g)) (hb : w.heap.size ≤ b) (u : C4) : w.grownBy (put4 wr b u) (some g) := by
  have hB : Below w.heap.size wr (put4 wr b u) := below_put4 (Below.refl _ _) hb u
  refine ⟨hB.os.trans h.os, hB.tape.trans h.tape, hB.output.trans h.output, Nat.le_trans h.size hB.size, fun k hk hne => ?_⟩
  exact (hB.block k hk).trans (h.block k hk hne)
theorem BrS.put {w wr : World} {g : Nat} {c : C4} (h : BrS w g c wr) (u : C4) : BrS w g u (put4 wr (w.heap.size + 1) u) :=
  ⟨grown_put4 h.gr (by omega) u, h.res.other4 u (by omega), h.cls.put4 u, h.gl⟩
theorem RdB.put {w : World} {g : Nat} {s : ByteArray} {a bd : Int} (h : RdB w g s a bd) (b : Nat) (u : C4) (hb : g ≠ b) : RdB (put4 w b u) g s a bd := by
  have hB : Below b w (put4 w b u) := below_put4 (Below.refl _ _) (Nat.le_refl _) u
  have e : (put4 w b u).heap[g]? = w.heap[g]? := by
    show ((((w.setCell _ _).setCell _ _).setCell _ _).setCell _ _).heap[g]? = _
    rw [Below.heap_setCell _ _ _ _ hb, Below.heap_setCell _ _ _ _ hb, Below.heap_setCell _ _ _ _ hb, Below.heap_setCell _ _ _ _ hb]
  exact e.trans h
theorem At.put {w : World} {g : Nat} {s : ByteArray} {l : List UInt8} (h : At w g s l) (b : Nat) (u : C4) (hb : g ≠ b) : At (put4 w b u) g s l := by
  obtain ⟨a, h1, h2, h3⟩ := h
  exact ⟨a, h1, h2, h3.put b u hb⟩
theorem At.step {w : World} {g : Nat} {s : ByteArray} {c : UInt8} {l : List UInt8} (h : At w g s (c :: l)) : ∃ a : Nat, RdB w g s a (-1) ∧ a < s.size ∧ At (w.setCell ⟨g, 1, none⟩ (.int .i64 ((a : Int) + 1))) g s l := by
  obtain ⟨a, h1, h2, h3⟩ := h
  simp at h1
  exact ⟨a, h3, by omega, a + 1, by omega, (drop_cons _ _ _ _ h2).2.1, h3.setAt _⟩
theorem Bad.put {w : World} {g : Nat} {s : ByteArray} {k m : Nat} (h : Bad w g s k m) (b : Nat) (u : C4) (hb : g ≠ b) : Bad (put4 w b u) g s k m := by
  obtain ⟨a, bd, h1, h2, h3⟩ := h
  exact ⟨a, bd, h1, h2, h3.put b u hb⟩
/-- How much is left. -/
def rdMeas (w : World) (g n : Nat) : Nat :=
  match w.cell? ⟨g, 2, none⟩ with
  | some (.int _ b) => if b < 0 then (match w.cell? ⟨g, 1, none⟩ with | some (.int _ a) => n + 1 - a.toNat | _ => 0) else 0
  | _ => 0
theorem At.meas {w : World} {g : Nat} {s : ByteArray} {l : List UInt8} (h : At w g s l) : rdMeas w g s.size = l.length + 1 := by
  obtain ⟨a, h1, h2, h3⟩ := h
  obtain ⟨_, c1, c2, _⟩ := h3.all
  unfold rdMeas
  rw [c2, c1]
  simp
  omega
theorem Bad.meas {w : World} {g : Nat} {s : ByteArray} {k m : Nat} (h : Bad w g s k m) : rdMeas w g s.size = 0 := by
  obtain ⟨a, bd, h1, h2, h3⟩ := h
  obtain ⟨_, c1, c2, _⟩ := h3.all
  unfold rdMeas
  rw [c2]
  simp only
  rw [if_neg (by omega)]
/-- What holds at the loop's head. -/
def BrInv (w : World) (g : Nat) (s : ByteArray) (tgt : Except Nat (C4 × List UInt8)) (wr : World) : Prop :=
  ∃ c : C4, c.ok ∧ BrS w g c wr ∧ ((∃ l f, At wr g s l ∧ l.length < f ∧ items f c l = tgt) ∨ (∃ q, tgt = .error q ∧ Bad wr g s q 0))
theorem sees_at (g : Nat) (s : ByteArray) (l : List UInt8) (b : UInt8) (z : Int) (hz : z = (b.toNat : Int)) (hs : s.size ≤ 1000) (w : World) (h : At w g s l) :
    Calls Tryz.prog 36 #[.pointer (some ⟨g, 0, none⟩), .int .u8 z] w fun e w' => e = .returned (.bool (decide (l.head? = some b))) ∧ Below w.heap.size w w' := by
  obtain ⟨a, h1, h2, h3⟩ := h
  exact sees_ok g s a l h2 b z hz w h3 (by omega)
theorem sees_no (g : Nat) (s : ByteArray) (k m : Nat) (z : Int) (w : World) (h : Bad w g s k m) :
    Calls Tryz.prog 36 #[.pointer (some ⟨g, 0, none⟩), .int .u8 z] w fun e w' => e = .returned (.bool false) ∧ Below w.heap.size w w' := by
  obtain ⟨a, bd, h1, h2, h3⟩ := h
  exact sees_bad g s a bd z w h3 (by omega)
set_option maxHeartbeats 8000000 in
theorem bracketed_not (g : Nat) (s : ByteArray) (l : List UInt8) (w : World) (h : At w g s l) (hs : s.size ≤ 1000) (hn :  l.head? = some 94) :
    Calls Tryz.prog 54 #[.pointer (some ⟨g, 0, none⟩)] w fun e w' => w.grownBy w' (some g) ∧ ∃ k : C4, k.ok ∧ e = .returned k.v ∧ ((∃ r, bracket l = .ok (k, r) ∧ At w' g s r) ∨ (∃ q, bracket l = .error q ∧ Bad w' g s q 0)) := by
  have hgl := h.lt
  have HS : Hid (BrS w g z4 ((w.alloc (.cells z4.cells 39)).alloc (.cells z4.cells 39))) :=
    ⟨(World.grownBy_alloc _ _ _).trans (World.grownBy_alloc _ _ _), (Hb.new w z4 _ rfl).alloc _, Hb.new _ z4 _ (by simp), hgl⟩
  have HA : Hid (At ((w.alloc (.cells z4.cells 39)).alloc (.cells z4.cells 39)) g s l) := h.below (((Below.refl _ _).alloc (Nat.le_refl _) _).alloc (by simp) _)
  clear h
  have C0 : Hid _ := sees_at g s l 94 94 rfl hs _ HA.out
  rw [decide_eq_true hn] at C0
  go_enter Tryz.func54, Tryz.ntmps54
  go_wp2_with fail
  refine Calls.mono C0.out ?_
  rintro e w1 ⟨rfl, hb1⟩
  obtain ⟨el, hl1⟩ := tail_len l _ hn
  have hA1 := HA.out.below hb1
  rw [el] at hA1
  obtain ⟨a, hR, ha, hA2⟩ := hA1.step
  obtain ⟨c0, c1, c2, f1, f2⟩ := hR.all
  have HI : Hid (BrInv w g s (items l.length z4 l.tail) (w1.setCell ⟨g, 1, none⟩ (.int .i64 ((a : Int) + 1)))) :=
    ⟨z4, z4_ok, (HS.out.below hb1).grown (grown_at _ _ _ _), Or.inl ⟨l.tail, l.length, hA2, by omega, rfl⟩⟩
  clear hb1 hA1 hR hA2 C0 HA HS
  go_wp2_with fail
  go_loopw [] (fun wr => Hid (BrInv w g s (items l.length z4 l.tail) wr)) (fun wr => rdMeas wr g s.size)
  case atStart => exact HI
  case round =>
    obtain ⟨c, hc, hB, ⟨m, f, hA, hf, hit⟩ | ⟨q, hq, hBd⟩⟩ := hrel.out
    · clear hrel HI c0 c1 c2 f1 f2
      have hA0 := hA
      obtain ⟨a1, ha1, hd1, hR1⟩ := hA
      obtain ⟨c0, c1, c2, f1, f2⟩ := hR1.all
      obtain ⟨f, rfl⟩ : ∃ f', f = f' + 1 := ⟨f - 1, by omega⟩
      rw [items] at hit
      have MS : Hid (rdMeas wr g s.size = m.length + 1) := hA0.meas
      by_cases h93 : m.head? = some 93
      · rw [if_pos h93] at hit
        have C1 : Hid _ := sees_at g s m 93 93 rfl hs wr hA0
        rw [decide_eq_true h93] at C1
        go_wp2_with fail
        refine Calls.mono C1.out ?_
        rintro e w2 ⟨rfl, hb2⟩
        have hA2 := hA0.below hb2
        have hB2 := hB.below hb2
        clear hb2 C1 c0 c1 c2 f1 f2 hR1 hd1
        obtain ⟨em, hml⟩ := tail_len m _ h93
        rw [em] at hA2
        obtain ⟨a4, hR4, ha4, hA5⟩ := hA2.step
        obtain ⟨c0, c1, c2, f1, f2⟩ := hR4.all
        have hBE := hB2.grown (grown_at w2 g 1 (.int .i64 ((a4 : Int) + 1)))
        clear hA2 hB2 hR4
        obtain ⟨d0, d1, d2, d3, e0, e1, e2, e3⟩ := hBE.cls.all
        have HO : Hid _ := others_any c hc
        clear d0
        obtain ⟨d0, _⟩ := hBE.cls.all
        go_wp2_with fail
        refine Calls.mono (HO.out _) ?_
        rintro e w9 ⟨rfl, hb9⟩
        have hBF := hBE.below hb9
        have hST := hA5.below hb9
        clear d0 d1 d2 d3 e0 e1 e2 e3 hb9
        obtain ⟨d0, d1, d2, d3, e0, e1, e2, e3⟩ := hBF.res.all
        have hq := hBF.res.put4 c.not
        have HG : Hid _ := grown_put4 hBF.gr (Nat.le_refl _) c.not
        have HT : Hid _ := hST.put w.heap.size c.not (by have := hBF.gl; omega)
        go_wp2
        refine bodyPost_ret (v := c.not.v) (by simp [results, Tryz.results54, go_sem, hq.c0, hq.c1, hq.c2, hq.c3]) rfl ?_
        exact ⟨HG.out, c.not, C4.not_ok hc, rfl, Or.inl ⟨m.tail, by unfold bracket; rw [if_pos hn, ← hit], HT.out⟩⟩
      · rw [if_neg h93] at hit
        have C1 : Hid _ := sees_at g s m 93 93 rfl hs wr hA0
        rw [decide_eq_false h93] at C1
        go_wp2_with fail
        refine Calls.mono C1.out ?_
        rintro e w2 ⟨rfl, hb2⟩
        have hA2 := hA0.below hb2
        have hB2 := hB.below hb2
        clear hb2 C1 c0 c1 c2 f1 f2 hR1 hd1
        obtain ⟨a2, ha2, hd2, hR2⟩ := hA2
        have hA2 : At w2 g s m := ⟨a2, ha2, hd2, hR2⟩
        obtain ⟨c0, c1, c2, f1, f2⟩ := hR2.all
        cases h1 : rd1 m with
        | error k =>
          rw [h1] at hit
          have O1 : Hid _ := one_bad g s m w2 hA2 hs k h1
          go_wp2_with fail
          refine Calls.mono O1.out ?_
          rintro e w3 ⟨v, hv, rfl, hBd, hg3⟩
          have hB3 := hB2.grown hg3
          have C2 : Hid _ := sees_no g s k 0 45 w3 hBd
          go_wp2_with fail
          refine Calls.mono C2.out ?_
          rintro e w4 ⟨rfl, hb4⟩
          have hB4 := hB3.below hb4
          have hBd4 := hBd.below hb4
          clear hb4 C2 hBd hg3 O1 c0 c1 c2 f1 f2 hR2 hd2
          have HBE : Hid (BrInv w g s (items l.length z4 l.tail) w4) := ⟨c, hc, hB4, Or.inr ⟨k, hit.symm, hBd4⟩⟩
          have MSE : Hid (rdMeas w4 g s.size = 0) := hBd4.meas
          obtain ⟨a4, bd4, ha4, hbd4, hR4⟩ := hBd4
          obtain ⟨c0, c1, c2, f1, f2⟩ := hR4.all
          clear hR4
          go_wp2_with fail
          go_loop [10] (fun u => u = .int .i64 (v : Int)) (fun _ => 0)
          case atStart => rfl
          case round =>
            subst hrel
            go_wp2
            exact ⟨HBE, by rw [MSE.out, MS.out]; omega⟩
        | ok p =>
          obtain ⟨lo, l1⟩ := p
          rw [h1] at hit
          simp only at hit
          obtain ⟨hl1, hlo⟩ := rd1_len _ _ _ h1
          have O1 : Hid _ := one_ok g s m w2 hA2 hs lo l1 h1
          go_wp2_with fail
          refine Calls.mono O1.out ?_
          rintro e w3 ⟨rfl, hA3, hg3⟩
          have hB3 := hB2.grown hg3
          clear O1 hg3 c0 c1 c2 f1 f2 hR2 hd2 hA2 hB2 h1
          by_cases h45 : l1.head? = some 45
          · rw [if_pos h45] at hit
            have C2 : Hid _ := sees_at g s l1 45 45 rfl hs w3 hA3
            rw [decide_eq_true h45] at C2
            go_wp2_with fail
            refine Calls.mono C2.out ?_
            rintro e w4 ⟨rfl, hb4⟩
            have hA4 := hA3.below hb4
            have hB4 := hB3.below hb4
            clear C2 hb4 hA3 hB3
            obtain ⟨el1, hll1⟩ := tail_len l1 _ h45
            rw [el1] at hA4
            obtain ⟨a4, hR4, ha4, hA5⟩ := hA4.step
            obtain ⟨c0, c1, c2, f1, f2⟩ := hR4.all
            have hB5 := hB4.grown (grown_at w4 g 1 (.int .i64 ((a4 : Int) + 1)))
            clear hA4 hB4 hR4
            cases h2 : rd1 l1.tail with
            | error k =>
              rw [h2] at hit
              have O2 : Hid _ := one_bad g s l1.tail _ hA5 hs k h2
              go_wp2_with fail
              refine Calls.mono O2.out ?_
              rintro e w6 ⟨v, hv, rfl, hBd, hg6⟩
              have hB6 := hB5.grown hg6
              clear O2 hg6 hA5 hB5 c0 c1 c2 f1 f2
              have HBE : Hid (BrInv w g s (items l.length z4 l.tail) w6) := ⟨c, hc, hB6, Or.inr ⟨k, hit.symm, hBd⟩⟩
              have MSE : Hid (rdMeas w6 g s.size = 0) := hBd.meas
              obtain ⟨a6, bd6, ha6, hbd6, hR6⟩ := hBd
              obtain ⟨c0, c1, c2, f1, f2⟩ := hR6.all
              clear hR6
              by_cases hlv : lo ≤ v
              · go_wp2_with fail
                go_loop [10] (fun u => u = .int .i64 (lo : Int)) (fun _ => 0)
                case atStart => rfl
                case round =>
                  subst hrel
                  go_wp2
                  exact ⟨HBE, by rw [MSE.out, MS.out]; omega⟩
              · go_wp2_with fail
                go_loop [10] (fun u => u = .int .i64 (lo : Int)) (fun _ => 0)
                case atStart => rfl
                case round =>
                  subst hrel
                  go_wp2
                  exact ⟨HBE, by rw [MSE.out, MS.out]; omega⟩
            | ok p2 =>
              obtain ⟨hi, l2⟩ := p2
              rw [h2] at hit
              simp only at hit
              obtain ⟨hl2, hhi⟩ := rd1_len _ _ _ h2
              have O2 : Hid _ := one_ok g s l1.tail _ hA5 hs hi l2 h2
              go_wp2_with fail
              refine Calls.mono O2.out ?_
              rintro e w6 ⟨rfl, hA6, hg6⟩
              have hB6 := hB5.grown hg6
              clear O2 hg6 hA5 hB5 c0 c1 c2 f1 f2 h2
              by_cases hlh : hi < lo
              · rw [if_pos hlh] at hit
                obtain ⟨a6, ha6, hd6, hR6⟩ := hA6
                obtain ⟨c0, c1, c2, f1, f2⟩ := hR6.all
                have O3 : Hid _ := fail_first g s a6 (-1) (a2 : Int) w6 hR6 (by omega)
                clear hd6 hR6
                go_wp2_with fail
                refine Calls.mono O3.out ?_
                rintro e w7 ⟨rfl, hR7, hg7⟩
                have hB7 := hB6.grown hg7
                have hBd : Bad w7 g s m.length 0 := ⟨a6, a2, by omega, by omega, hR7⟩
                have HBE : Hid (BrInv w g s (items l.length z4 l.tail) w7) := ⟨c, hc, hB7, Or.inr ⟨m.length, hit.symm, hBd⟩⟩
                have MSE : Hid (rdMeas w7 g s.size = 0) := hBd.meas
                clear c0 c1 c2 f1 f2
                obtain ⟨c0, c1, c2, f1, f2⟩ := hR7.all
                clear hR7 hBd hB7 hg7 O3
                go_wp2_with fail
                go_loop [10] (fun u => u = .int .i64 (lo : Int)) (fun _ => 0)
                case atStart => rfl
                case round =>
                  subst hrel
                  go_wp2
                  exact ⟨HBE, by rw [MSE.out, MS.out]; omega⟩
              · rw [if_neg hlh] at hit
                have HIT : Hid _ := hit
                have HBX : Hid _ := hB6
                have HAX : Hid _ := hA6
                obtain ⟨a6, ha6, hd6, hR6⟩ := hA6
                obtain ⟨c0, c1, c2, f1, f2⟩ := hR6.all
                clear hd6 hR6 hB6 hit
                go_wp2_with fail
                clear c0 c1 c2 f1 f2
                go_loopw [10] (fun u wx => ∃ j : Nat, j ≤ hi + 1 - lo ∧ u = .int .i64 ((lo + j : Nat) : Int) ∧ Hid (BrS w g (addTo c lo j) wx) ∧ Hid (At wx g s l2)) (fun u _ => hi + 1 - (intOf u).toNat)
                case atStart => exact ⟨0, by omega, rfl, HBX, HAX⟩
                case round =>
                  rename_i wr0 _ _ _
                  obtain ⟨j, hj, rfl, HBj, HAj⟩ := hrel
                  clear HBX HAX
                  have hAj := HAj.out
                  obtain ⟨aj, haj, hdj, hRj⟩ := HAj.out
                  obtain ⟨c0, c1, c2, f1, f2⟩ := hRj.all
                  by_cases hjl : j < hi + 1 - lo
                  · have hC := HBj.out.cls
                    obtain ⟨d0, d1, d2, d3, e0, e1, e2, e3⟩ := hC.all
                    have hle : ((lo + j : Nat) : Int) ≤ (hi : Int) := by omega
                    have hlb : lo + j < 256 := by omega
                    have HW : Hid (∀ w, Calls Tryz.prog 41 #[(addTo c lo j).v, .int .i64 ((lo : Int) + (j : Int))] w fun e w' => e = .returned (addTo c lo (j + 1)).v ∧ Below w.heap.size w w') := fun w => by
                      have := withR_any (addTo c lo j) (addTo_ok hc lo j) (lo + j) hlb w
                      rw [show ((lo + j : Nat) : Int) = (lo : Int) + (j : Int) from by omega] at this
                      rw [addTo, show ((lo + j : Nat) : Int) = (lo : Int) + (j : Int) from by omega]
                      exact this
                    clear hdj hRj
                    go_wp2_with fail
                    refine Calls.mono (HW.out _) ?_
                    rintro e w8 ⟨rfl, hb8⟩
                    have hB8 := HBj.out.below hb8
                    have hA8 := hAj.below hb8
                    clear d0 d1 d2 d3 e0 e1 e2 e3 c0 c1 c2 f1 f2 hC hb8
                    obtain ⟨d0, d1, d2, d3, e0, e1, e2, e3⟩ := hB8.cls.all
                    have HB9 : Hid _ := hB8.put (addTo c lo (j + 1))
                    have HA9 : Hid _ := hA8.put (w.heap.size + 1) (addTo c lo (j + 1)) (by have := hB8.gl; omega)
                    clear hB8 hA8 hAj HBj HAj
                    go_wp2
                    exact ⟨⟨j + 1, by omega, by go_num, HB9, HA9⟩, by simp [intOf]; omega⟩
                  · have hjn : j = hi + 1 - lo := by omega
                    have hle : ¬ ((lo + j : Nat) : Int) ≤ (hi : Int) := by omega
                    have HBE : Hid (BrInv w g s (items l.length z4 l.tail) wr) := ⟨addTo c lo j, addTo_ok hc lo j, HBj.out, Or.inl ⟨l2, f, HAj.out, by omega, by rw [hjn]; exact HIT.out⟩⟩
                    have MSE : Hid (rdMeas wr g s.size = l2.length + 1) := HAj.out.meas
                    clear hdj hRj
                    go_wp2
                    exact ⟨HBE, by rw [MSE.out, MS.out]; omega⟩
          · rw [if_neg h45] at hit
            have C2 : Hid _ := sees_at g s l1 45 45 rfl hs w3 hA3
            rw [decide_eq_false h45] at C2
            go_wp2_with fail
            refine Calls.mono C2.out ?_
            rintro e w4 ⟨rfl, hb4⟩
            have hA4 := hA3.below hb4
            have hB4 := hB3.below hb4
            clear C2 hb4 hA3 hB3
            have HIT : Hid (items f (addTo c lo (lo + 1 - lo)) l1 = (items l.length z4 l.tail)) := by
              show _ = _
              rw [show lo + 1 - lo = 1 from by omega]
              exact hit
            obtain ⟨hi, hhi2⟩ : ∃ hi : Nat, hi = lo := ⟨lo, rfl⟩
            obtain ⟨l2, hl22⟩ : ∃ l2 : List UInt8, l2 = l1 := ⟨l1, rfl⟩
            have HBX : Hid _ := hB4
            have HAX : Hid (At w4 g s l2) := by rw [hl22]; exact hA4
            obtain ⟨a6, ha6, hd6, hR6⟩ := hA4
            obtain ⟨c0, c1, c2, f1, f2⟩ := hR6.all
            rw [← hl22] at HIT hl1
            clear hd6 hR6 hB4 hit
            go_wp2_with fail
            clear c0 c1 c2 f1 f2
            go_loopw [10] (fun u wx => ∃ j : Nat, j ≤ hi + 1 - lo ∧ u = .int .i64 ((lo + j : Nat) : Int) ∧ Hid (BrS w g (addTo c lo j) wx) ∧ Hid (At wx g s l2)) (fun u _ => hi + 1 - (intOf u).toNat)
            case atStart => exact ⟨0, by omega, rfl, HBX, HAX⟩
            case round =>
              rename_i wr0 _ _ _
              obtain ⟨j, hj, rfl, HBj, HAj⟩ := hrel
              clear HBX HAX
              have hAj := HAj.out
              obtain ⟨aj, haj, hdj, hRj⟩ := HAj.out
              obtain ⟨c0, c1, c2, f1, f2⟩ := hRj.all
              by_cases hjl : j < hi + 1 - lo
              · have hC := HBj.out.cls
                obtain ⟨d0, d1, d2, d3, e0, e1, e2, e3⟩ := hC.all
                have hle : ((lo + j : Nat) : Int) ≤ (hi : Int) := by omega
                have hlb : lo + j < 256 := by omega
                have HW : Hid (∀ w, Calls Tryz.prog 41 #[(addTo c lo j).v, .int .i64 ((lo : Int) + (j : Int))] w fun e w' => e = .returned (addTo c lo (j + 1)).v ∧ Below w.heap.size w w') := fun w => by
                  have := withR_any (addTo c lo j) (addTo_ok hc lo j) (lo + j) hlb w
                  rw [show ((lo + j : Nat) : Int) = (lo : Int) + (j : Int) from by omega] at this
                  rw [addTo, show ((lo + j : Nat) : Int) = (lo : Int) + (j : Int) from by omega]
                  exact this
                clear hdj hRj
                go_wp2_with fail
                refine Calls.mono (HW.out _) ?_
                rintro e w8 ⟨rfl, hb8⟩
                have hB8 := HBj.out.below hb8
                have hA8 := hAj.below hb8
                clear d0 d1 d2 d3 e0 e1 e2 e3 c0 c1 c2 f1 f2 hC hb8
                obtain ⟨d0, d1, d2, d3, e0, e1, e2, e3⟩ := hB8.cls.all
                have HB9 : Hid _ := hB8.put (addTo c lo (j + 1))
                have HA9 : Hid _ := hA8.put (w.heap.size + 1) (addTo c lo (j + 1)) (by have := hB8.gl; omega)
                clear hB8 hA8 hAj HBj HAj
                go_wp2
                exact ⟨⟨j + 1, by omega, by go_num, HB9, HA9⟩, by simp [intOf]; omega⟩
              · have hjn : j = hi + 1 - lo := by omega
                have hle : ¬ ((lo + j : Nat) : Int) ≤ (hi : Int) := by omega
                have HBE : Hid (BrInv w g s (items l.length z4 l.tail) wr) := ⟨addTo c lo j, addTo_ok hc lo j, HBj.out, Or.inl ⟨l2, f, HAj.out, by omega, by rw [hjn, hhi2]; exact HIT.out⟩⟩
                have MSE : Hid (rdMeas wr g s.size = l2.length + 1) := HAj.out.meas
                clear hdj hRj
                go_wp2
                exact ⟨HBE, by rw [MSE.out, MS.out]; omega⟩
    · clear hrel HI c0 c1 c2 f1 f2
      have hq0 := hq
      have hBE := hB
      have hBd0 := hBd
      obtain ⟨a1, bd1, ha1, hbd1, hR1⟩ := hBd
      obtain ⟨c0, c1, c2, f1, f2⟩ := hR1.all
      clear hR1 hq
      obtain ⟨d0, d1, d2, d3, e0, e1, e2, e3⟩ := hBE.cls.all
      have HO : Hid _ := others_any c hc
      go_wp2_with fail
      refine Calls.mono (HO.out _) ?_
      rintro e w9 ⟨rfl, hb9⟩
      have hBF := hBE.below hb9
      have hST := hBd0.below hb9
      clear d0 d1 d2 d3 e0 e1 e2 e3 hb9
      obtain ⟨d0, d1, d2, d3, e0, e1, e2, e3⟩ := hBF.res.all
      have hq := hBF.res.put4 c.not
      have HG : Hid _ := grown_put4 hBF.gr (Nat.le_refl _) c.not
      have HT : Hid _ := hST.put w.heap.size c.not (by have := hBF.gl; omega)
      go_wp2
      refine bodyPost_ret (v := c.not.v) (by simp [results, Tryz.results54, go_sem, hq.c0, hq.c1, hq.c2, hq.c3]) rfl ?_
      exact ⟨HG.out, c.not, C4.not_ok hc, rfl, Or.inr ⟨q, by unfold bracket; rw [if_pos hn, hq0], HT.out⟩⟩
set_option maxHeartbeats 8000000 in
theorem bracketed_plain (g : Nat) (s : ByteArray) (l : List UInt8) (w : World) (h : At w g s l) (hs : s.size ≤ 1000) (hn : ¬ l.head? = some 94) :
    Calls Tryz.prog 54 #[.pointer (some ⟨g, 0, none⟩)] w fun e w' => w.grownBy w' (some g) ∧ ∃ k : C4, k.ok ∧ e = .returned k.v ∧ ((∃ r, bracket l = .ok (k, r) ∧ At w' g s r) ∨ (∃ q, bracket l = .error q ∧ Bad w' g s q 0)) := by
  have hgl := h.lt
  have HS : Hid (BrS w g z4 ((w.alloc (.cells z4.cells 39)).alloc (.cells z4.cells 39))) :=
    ⟨(World.grownBy_alloc _ _ _).trans (World.grownBy_alloc _ _ _), (Hb.new w z4 _ rfl).alloc _, Hb.new _ z4 _ (by simp), hgl⟩
  have HA : Hid (At ((w.alloc (.cells z4.cells 39)).alloc (.cells z4.cells 39)) g s l) := h.below (((Below.refl _ _).alloc (Nat.le_refl _) _).alloc (by simp) _)
  clear h
  have C0 : Hid _ := sees_at g s l 94 94 rfl hs _ HA.out
  rw [decide_eq_false hn] at C0
  go_enter Tryz.func54, Tryz.ntmps54
  go_wp2_with fail
  refine Calls.mono C0.out ?_
  rintro e w1 ⟨rfl, hb1⟩
  have hA1 := HA.out.below hb1
  have HI : Hid (BrInv w g s (items (l.length + 1) z4 l) w1) := ⟨z4, z4_ok, HS.out.below hb1, Or.inl ⟨l, l.length + 1, hA1, by omega, rfl⟩⟩
  obtain ⟨a, ha, hd, hR⟩ := hA1
  obtain ⟨c0, c1, c2, f1, f2⟩ := hR.all
  clear hb1 hR hd C0 HA HS
  go_wp2_with fail
  go_loopw [] (fun wr => Hid (BrInv w g s (items (l.length + 1) z4 l) wr)) (fun wr => rdMeas wr g s.size)
  case atStart => exact HI
  case round =>
    obtain ⟨c, hc, hB, ⟨m, f, hA, hf, hit⟩ | ⟨q, hq, hBd⟩⟩ := hrel.out
    · clear hrel HI c0 c1 c2 f1 f2
      have hA0 := hA
      obtain ⟨a1, ha1, hd1, hR1⟩ := hA
      obtain ⟨c0, c1, c2, f1, f2⟩ := hR1.all
      obtain ⟨f, rfl⟩ : ∃ f', f = f' + 1 := ⟨f - 1, by omega⟩
      rw [items] at hit
      have MS : Hid (rdMeas wr g s.size = m.length + 1) := hA0.meas
      by_cases h93 : m.head? = some 93
      · rw [if_pos h93] at hit
        have C1 : Hid _ := sees_at g s m 93 93 rfl hs wr hA0
        rw [decide_eq_true h93] at C1
        go_wp2_with fail
        refine Calls.mono C1.out ?_
        rintro e w2 ⟨rfl, hb2⟩
        have hA2 := hA0.below hb2
        have hB2 := hB.below hb2
        clear hb2 C1 c0 c1 c2 f1 f2 hR1 hd1
        obtain ⟨em, hml⟩ := tail_len m _ h93
        rw [em] at hA2
        obtain ⟨a4, hR4, ha4, hA5⟩ := hA2.step
        obtain ⟨c0, c1, c2, f1, f2⟩ := hR4.all
        have hBE := hB2.grown (grown_at w2 g 1 (.int .i64 ((a4 : Int) + 1)))
        clear hA2 hB2 hR4
        obtain ⟨d0, d1, d2, d3, e0, e1, e2, e3⟩ := hBE.cls.all
        obtain ⟨k0, k1, k2, k3, g0, g1, g2, g3⟩ := hBE.res.all
        have hST := hA5
        have hq := hBE.res.put4 c
        have HG : Hid _ := grown_put4 hBE.gr (Nat.le_refl _) c
        have HT : Hid _ := hST.put w.heap.size c (by have := hBE.gl; omega)
        go_wp2
        refine bodyPost_ret (v := c.v) (by simp [results, Tryz.results54, go_sem, hq.c0, hq.c1, hq.c2, hq.c3]) rfl ?_
        exact ⟨HG.out, c, hc, rfl, Or.inl ⟨m.tail, by unfold bracket; rw [if_neg hn, ← hit], HT.out⟩⟩
      · rw [if_neg h93] at hit
        have C1 : Hid _ := sees_at g s m 93 93 rfl hs wr hA0
        rw [decide_eq_false h93] at C1
        go_wp2_with fail
        refine Calls.mono C1.out ?_
        rintro e w2 ⟨rfl, hb2⟩
        have hA2 := hA0.below hb2
        have hB2 := hB.below hb2
        clear hb2 C1 c0 c1 c2 f1 f2 hR1 hd1
        obtain ⟨a2, ha2, hd2, hR2⟩ := hA2
        have hA2 : At w2 g s m := ⟨a2, ha2, hd2, hR2⟩
        obtain ⟨c0, c1, c2, f1, f2⟩ := hR2.all
        cases h1 : rd1 m with
        | error k =>
          rw [h1] at hit
          have O1 : Hid _ := one_bad g s m w2 hA2 hs k h1
          go_wp2_with fail
          refine Calls.mono O1.out ?_
          rintro e w3 ⟨v, hv, rfl, hBd, hg3⟩
          have hB3 := hB2.grown hg3
          have C2 : Hid _ := sees_no g s k 0 45 w3 hBd
          go_wp2_with fail
          refine Calls.mono C2.out ?_
          rintro e w4 ⟨rfl, hb4⟩
          have hB4 := hB3.below hb4
          have hBd4 := hBd.below hb4
          clear hb4 C2 hBd hg3 O1 c0 c1 c2 f1 f2 hR2 hd2
          have HBE : Hid (BrInv w g s (items (l.length + 1) z4 l) w4) := ⟨c, hc, hB4, Or.inr ⟨k, hit.symm, hBd4⟩⟩
          have MSE : Hid (rdMeas w4 g s.size = 0) := hBd4.meas
          obtain ⟨a4, bd4, ha4, hbd4, hR4⟩ := hBd4
          obtain ⟨c0, c1, c2, f1, f2⟩ := hR4.all
          clear hR4
          go_wp2_with fail
          go_loop [10] (fun u => u = .int .i64 (v : Int)) (fun _ => 0)
          case atStart => rfl
          case round =>
            subst hrel
            go_wp2
            exact ⟨HBE, by rw [MSE.out, MS.out]; omega⟩
        | ok p =>
          obtain ⟨lo, l1⟩ := p
          rw [h1] at hit
          simp only at hit
          obtain ⟨hl1, hlo⟩ := rd1_len _ _ _ h1
          have O1 : Hid _ := one_ok g s m w2 hA2 hs lo l1 h1
          go_wp2_with fail
          refine Calls.mono O1.out ?_
          rintro e w3 ⟨rfl, hA3, hg3⟩
          have hB3 := hB2.grown hg3
          clear O1 hg3 c0 c1 c2 f1 f2 hR2 hd2 hA2 hB2 h1
          by_cases h45 : l1.head? = some 45
          · rw [if_pos h45] at hit
            have C2 : Hid _ := sees_at g s l1 45 45 rfl hs w3 hA3
            rw [decide_eq_true h45] at C2
            go_wp2_with fail
            refine Calls.mono C2.out ?_
            rintro e w4 ⟨rfl, hb4⟩
            have hA4 := hA3.below hb4
            have hB4 := hB3.below hb4
            clear C2 hb4 hA3 hB3
            obtain ⟨el1, hll1⟩ := tail_len l1 _ h45
            rw [el1] at hA4
            obtain ⟨a4, hR4, ha4, hA5⟩ := hA4.step
            obtain ⟨c0, c1, c2, f1, f2⟩ := hR4.all
            have hB5 := hB4.grown (grown_at w4 g 1 (.int .i64 ((a4 : Int) + 1)))
            clear hA4 hB4 hR4
            cases h2 : rd1 l1.tail with
            | error k =>
              rw [h2] at hit
              have O2 : Hid _ := one_bad g s l1.tail _ hA5 hs k h2
              go_wp2_with fail
              refine Calls.mono O2.out ?_
              rintro e w6 ⟨v, hv, rfl, hBd, hg6⟩
              have hB6 := hB5.grown hg6
              clear O2 hg6 hA5 hB5 c0 c1 c2 f1 f2
              have HBE : Hid (BrInv w g s (items (l.length + 1) z4 l) w6) := ⟨c, hc, hB6, Or.inr ⟨k, hit.symm, hBd⟩⟩
              have MSE : Hid (rdMeas w6 g s.size = 0) := hBd.meas
              obtain ⟨a6, bd6, ha6, hbd6, hR6⟩ := hBd
              obtain ⟨c0, c1, c2, f1, f2⟩ := hR6.all
              clear hR6
              by_cases hlv : lo ≤ v
              · go_wp2_with fail
                go_loop [10] (fun u => u = .int .i64 (lo : Int)) (fun _ => 0)
                case atStart => rfl
                case round =>
                  subst hrel
                  go_wp2
                  exact ⟨HBE, by rw [MSE.out, MS.out]; omega⟩
              · go_wp2_with fail
                go_loop [10] (fun u => u = .int .i64 (lo : Int)) (fun _ => 0)
                case atStart => rfl
                case round =>
                  subst hrel
                  go_wp2
                  exact ⟨HBE, by rw [MSE.out, MS.out]; omega⟩
            | ok p2 =>
              obtain ⟨hi, l2⟩ := p2
              rw [h2] at hit
              simp only at hit
              obtain ⟨hl2, hhi⟩ := rd1_len _ _ _ h2
              have O2 : Hid _ := one_ok g s l1.tail _ hA5 hs hi l2 h2
              go_wp2_with fail
              refine Calls.mono O2.out ?_
              rintro e w6 ⟨rfl, hA6, hg6⟩
              have hB6 := hB5.grown hg6
              clear O2 hg6 hA5 hB5 c0 c1 c2 f1 f2 h2
              by_cases hlh : hi < lo
              · rw [if_pos hlh] at hit
                obtain ⟨a6, ha6, hd6, hR6⟩ := hA6
                obtain ⟨c0, c1, c2, f1, f2⟩ := hR6.all
                have O3 : Hid _ := fail_first g s a6 (-1) (a2 : Int) w6 hR6 (by omega)
                clear hd6 hR6
                go_wp2_with fail
                refine Calls.mono O3.out ?_
                rintro e w7 ⟨rfl, hR7, hg7⟩
                have hB7 := hB6.grown hg7
                have hBd : Bad w7 g s m.length 0 := ⟨a6, a2, by omega, by omega, hR7⟩
                have HBE : Hid (BrInv w g s (items (l.length + 1) z4 l) w7) := ⟨c, hc, hB7, Or.inr ⟨m.length, hit.symm, hBd⟩⟩
                have MSE : Hid (rdMeas w7 g s.size = 0) := hBd.meas
                clear c0 c1 c2 f1 f2
                obtain ⟨c0, c1, c2, f1, f2⟩ := hR7.all
                clear hR7 hBd hB7 hg7 O3
                go_wp2_with fail
                go_loop [10] (fun u => u = .int .i64 (lo : Int)) (fun _ => 0)
                case atStart => rfl
                case round =>
                  subst hrel
                  go_wp2
                  exact ⟨HBE, by rw [MSE.out, MS.out]; omega⟩
              · rw [if_neg hlh] at hit
                have HIT : Hid _ := hit
                have HBX : Hid _ := hB6
                have HAX : Hid _ := hA6
                obtain ⟨a6, ha6, hd6, hR6⟩ := hA6
                obtain ⟨c0, c1, c2, f1, f2⟩ := hR6.all
                clear hd6 hR6 hB6 hit
                go_wp2_with fail
                clear c0 c1 c2 f1 f2
                go_loopw [10] (fun u wx => ∃ j : Nat, j ≤ hi + 1 - lo ∧ u = .int .i64 ((lo + j : Nat) : Int) ∧ Hid (BrS w g (addTo c lo j) wx) ∧ Hid (At wx g s l2)) (fun u _ => hi + 1 - (intOf u).toNat)
                case atStart => exact ⟨0, by omega, rfl, HBX, HAX⟩
                case round =>
                  rename_i wr0 _ _ _
                  obtain ⟨j, hj, rfl, HBj, HAj⟩ := hrel
                  clear HBX HAX
                  have hAj := HAj.out
                  obtain ⟨aj, haj, hdj, hRj⟩ := HAj.out
                  obtain ⟨c0, c1, c2, f1, f2⟩ := hRj.all
                  by_cases hjl : j < hi + 1 - lo
                  · have hC := HBj.out.cls
                    obtain ⟨d0, d1, d2, d3, e0, e1, e2, e3⟩ := hC.all
                    have hle : ((lo + j : Nat) : Int) ≤ (hi : Int) := by omega
                    have hlb : lo + j < 256 := by omega
                    have HW : Hid (∀ w, Calls Tryz.prog 41 #[(addTo c lo j).v, .int .i64 ((lo : Int) + (j : Int))] w fun e w' => e = .returned (addTo c lo (j + 1)).v ∧ Below w.heap.size w w') := fun w => by
                      have := withR_any (addTo c lo j) (addTo_ok hc lo j) (lo + j) hlb w
                      rw [show ((lo + j : Nat) : Int) = (lo : Int) + (j : Int) from by omega] at this
                      rw [addTo, show ((lo + j : Nat) : Int) = (lo : Int) + (j : Int) from by omega]
                      exact this
                    clear hdj hRj
                    go_wp2_with fail
                    refine Calls.mono (HW.out _) ?_
                    rintro e w8 ⟨rfl, hb8⟩
                    have hB8 := HBj.out.below hb8
                    have hA8 := hAj.below hb8
                    clear d0 d1 d2 d3 e0 e1 e2 e3 c0 c1 c2 f1 f2 hC hb8
                    obtain ⟨d0, d1, d2, d3, e0, e1, e2, e3⟩ := hB8.cls.all
                    have HB9 : Hid _ := hB8.put (addTo c lo (j + 1))
                    have HA9 : Hid _ := hA8.put (w.heap.size + 1) (addTo c lo (j + 1)) (by have := hB8.gl; omega)
                    clear hB8 hA8 hAj HBj HAj
                    go_wp2
                    exact ⟨⟨j + 1, by omega, by go_num, HB9, HA9⟩, by simp [intOf]; omega⟩
                  · have hjn : j = hi + 1 - lo := by omega
                    have hle : ¬ ((lo + j : Nat) : Int) ≤ (hi : Int) := by omega
                    have HBE : Hid (BrInv w g s (items (l.length + 1) z4 l) wr) := ⟨addTo c lo j, addTo_ok hc lo j, HBj.out, Or.inl ⟨l2, f, HAj.out, by omega, by rw [hjn]; exact HIT.out⟩⟩
                    have MSE : Hid (rdMeas wr g s.size = l2.length + 1) := HAj.out.meas
                    clear hdj hRj
                    go_wp2
                    exact ⟨HBE, by rw [MSE.out, MS.out]; omega⟩
          · rw [if_neg h45] at hit
            have C2 : Hid _ := sees_at g s l1 45 45 rfl hs w3 hA3
            rw [decide_eq_false h45] at C2
            go_wp2_with fail
            refine Calls.mono C2.out ?_
            rintro e w4 ⟨rfl, hb4⟩
            have hA4 := hA3.below hb4
            have hB4 := hB3.below hb4
            clear C2 hb4 hA3 hB3
            have HIT : Hid (items f (addTo c lo (lo + 1 - lo)) l1 = (items (l.length + 1) z4 l)) := by
              show _ = _
              rw [show lo + 1 - lo = 1 from by omega]
              exact hit
            obtain ⟨hi, hhi2⟩ : ∃ hi : Nat, hi = lo := ⟨lo, rfl⟩
            obtain ⟨l2, hl22⟩ : ∃ l2 : List UInt8, l2 = l1 := ⟨l1, rfl⟩
            have HBX : Hid _ := hB4
            have HAX : Hid (At w4 g s l2) := by rw [hl22]; exact hA4
            obtain ⟨a6, ha6, hd6, hR6⟩ := hA4
            obtain ⟨c0, c1, c2, f1, f2⟩ := hR6.all
            rw [← hl22] at HIT hl1
            clear hd6 hR6 hB4 hit
            go_wp2_with fail
            clear c0 c1 c2 f1 f2
            go_loopw [10] (fun u wx => ∃ j : Nat, j ≤ hi + 1 - lo ∧ u = .int .i64 ((lo + j : Nat) : Int) ∧ Hid (BrS w g (addTo c lo j) wx) ∧ Hid (At wx g s l2)) (fun u _ => hi + 1 - (intOf u).toNat)
            case atStart => exact ⟨0, by omega, rfl, HBX, HAX⟩
            case round =>
              rename_i wr0 _ _ _
              obtain ⟨j, hj, rfl, HBj, HAj⟩ := hrel
              clear HBX HAX
              have hAj := HAj.out
              obtain ⟨aj, haj, hdj, hRj⟩ := HAj.out
              obtain ⟨c0, c1, c2, f1, f2⟩ := hRj.all
              by_cases hjl : j < hi + 1 - lo
              · have hC := HBj.out.cls
                obtain ⟨d0, d1, d2, d3, e0, e1, e2, e3⟩ := hC.all
                have hle : ((lo + j : Nat) : Int) ≤ (hi : Int) := by omega
                have hlb : lo + j < 256 := by omega
                have HW : Hid (∀ w, Calls Tryz.prog 41 #[(addTo c lo j).v, .int .i64 ((lo : Int) + (j : Int))] w fun e w' => e = .returned (addTo c lo (j + 1)).v ∧ Below w.heap.size w w') := fun w => by
                  have := withR_any (addTo c lo j) (addTo_ok hc lo j) (lo + j) hlb w
                  rw [show ((lo + j : Nat) : Int) = (lo : Int) + (j : Int) from by omega] at this
                  rw [addTo, show ((lo + j : Nat) : Int) = (lo : Int) + (j : Int) from by omega]
                  exact this
                clear hdj hRj
                go_wp2_with fail
                refine Calls.mono (HW.out _) ?_
                rintro e w8 ⟨rfl, hb8⟩
                have hB8 := HBj.out.below hb8
                have hA8 := hAj.below hb8
                clear d0 d1 d2 d3 e0 e1 e2 e3 c0 c1 c2 f1 f2 hC hb8
                obtain ⟨d0, d1, d2, d3, e0, e1, e2, e3⟩ := hB8.cls.all
                have HB9 : Hid _ := hB8.put (addTo c lo (j + 1))
                have HA9 : Hid _ := hA8.put (w.heap.size + 1) (addTo c lo (j + 1)) (by have := hB8.gl; omega)
                clear hB8 hA8 hAj HBj HAj
                go_wp2
                exact ⟨⟨j + 1, by omega, by go_num, HB9, HA9⟩, by simp [intOf]; omega⟩
              · have hjn : j = hi + 1 - lo := by omega
                have hle : ¬ ((lo + j : Nat) : Int) ≤ (hi : Int) := by omega
                have HBE : Hid (BrInv w g s (items (l.length + 1) z4 l) wr) := ⟨addTo c lo j, addTo_ok hc lo j, HBj.out, Or.inl ⟨l2, f, HAj.out, by omega, by rw [hjn, hhi2]; exact HIT.out⟩⟩
                have MSE : Hid (rdMeas wr g s.size = l2.length + 1) := HAj.out.meas
                clear hdj hRj
                go_wp2
                exact ⟨HBE, by rw [MSE.out, MS.out]; omega⟩
    · clear hrel HI c0 c1 c2 f1 f2
      have hq0 := hq
      have hBE := hB
      have hBd0 := hBd
      obtain ⟨a1, bd1, ha1, hbd1, hR1⟩ := hBd
      obtain ⟨c0, c1, c2, f1, f2⟩ := hR1.all
      clear hR1 hq
      obtain ⟨d0, d1, d2, d3, e0, e1, e2, e3⟩ := hBE.cls.all
      obtain ⟨k0, k1, k2, k3, g0, g1, g2, g3⟩ := hBE.res.all
      have hST := hBd0
      have hq := hBE.res.put4 c
      have HG : Hid _ := grown_put4 hBE.gr (Nat.le_refl _) c
      have HT : Hid _ := hST.put w.heap.size c (by have := hBE.gl; omega)
      go_wp2
      refine bodyPost_ret (v := c.v) (by simp [results, Tryz.results54, go_sem, hq.c0, hq.c1, hq.c2, hq.c3]) rfl ?_
      exact ⟨HG.out, c, hc, rfl, Or.inr ⟨q, by unfold bracket; rw [if_neg hn, hq0], HT.out⟩⟩
theorem bracketed_any (g : Nat) (s : ByteArray) (l : List UInt8) (w : World) (h : At w g s l) (hs : s.size ≤ 1000) :
    Calls Tryz.prog 54 #[.pointer (some ⟨g, 0, none⟩)] w fun e w' => w.grownBy w' (some g) ∧ ∃ k : C4, k.ok ∧ e = .returned k.v ∧ ((∃ r, bracket l = .ok (k, r) ∧ At w' g s r) ∨ (∃ q, bracket l = .error q ∧ Bad w' g s q 0)) := by
  by_cases hn : l.head? = some 94
  · exact bracketed_not g s l w h hs hn
  · exact bracketed_plain g s l w h hs hn
end Go.Proofs.YtmdfdlljeggbbaaGreatDoor
namespace Go.Proofs.YtmdfdlljeggbbaaGreatDoor
set_option linter.unusedSimpArgs false
set_option linter.unusedVariables false
set_option maxRecDepth 100000
open Go.RowKit

/-- Lists of nodes joined, one behind the other. -/
def catL : List (List Nd) → List Nd
  | [] => [⟨2, z4⟩]
  | [x] => x
  | x :: y :: r => ⟨3, z4⟩ :: (x ++ catL (y :: r))
def orL : List (List Nd) → List Nd
  | [] => []
  | [x] => x
  | x :: y :: r => ⟨4, z4⟩ :: (x ++ orL (y :: r))
theorem cats_flat : ∀ xs : List Rx, (cats xs).flat = catL (xs.map Rx.flat)
  | [] => rfl
  | [x] => rfl
  | x :: y :: r => by
    have := cats_flat (y :: r)
    simp only [List.map_cons] at this ⊢
    rw [cats, Rx.flat, this, catL]
theorem ors_flat : ∀ ss : List Rx, ss ≠ [] → (ors ss).flat = orL (ss.map Rx.flat)
  | [], h => absurd rfl h
  | [x], _ => rfl
  | x :: y :: r, _ => by
    have := ors_flat (y :: r) (by simp)
    simp only [List.map_cons] at this ⊢
    rw [ors, Rx.flat, this, orL]
/-- All nodes of some lists. -/
def szL : List (List Nd) → Nat
  | [] => 0
  | x :: r => x.length + szL r
theorem szL_app : ∀ (x y : List (List Nd)), szL (x ++ y) = szL x + szL y
  | [], y => by simp [szL]
  | a :: r, y => by simp [szL, szL_app r y]; omega
theorem catL_len : ∀ xs : List (List Nd), (catL xs).length ≤ szL xs + xs.length + 1
  | [] => by simp [catL, szL]
  | [x] => by simp [catL, szL]; omega
  | x :: y :: r => by
    have := catL_len (y :: r)
    simp [catL, szL] at this ⊢; omega
theorem catL_len1 : ∀ xs : List (List Nd), xs ≠ [] → (catL xs).length + 1 ≤ szL xs + xs.length
  | [], h => absurd rfl h
  | [x], _ => by simp [catL, szL]
  | x :: y :: r, _ => by
    have := catL_len1 (y :: r) (by simp)
    simp [catL, szL] at this ⊢; omega
theorem orL_len : ∀ xs : List (List Nd), (orL xs).length ≤ szL xs + xs.length
  | [] => by simp [orL, szL]
  | [x] => by simp [orL, szL]
  | x :: y :: r => by
    have := orL_len (y :: r)
    simp [orL, szL] at this ⊢; omega
theorem szL_drop : ∀ (xs : List (List Nd)) (i : Nat), szL (xs.drop i) ≤ szL xs
  | xs, 0 => by simp
  | [], i + 1 => by simp
  | x :: r, i + 1 => by
    have := szL_drop r i
    simp [szL]; omega
theorem posts_size : ∀ (l : List UInt8) (t : Rx), (posts t l).1.flat.length + (posts t l).2.length = t.flat.length + l.length
  | [], t => by simp [posts]
  | c :: r, t => by
    rw [posts]
    split
    · have := posts_size r (.one ⟨5, z4⟩ t); simp [Rx.flat] at this ⊢; omega
    · split
      · have := posts_size r (.one ⟨6, z4⟩ t); simp [Rx.flat] at this ⊢; omega
      · split
        · have := posts_size r (.one ⟨7, z4⟩ t); simp [Rx.flat] at this ⊢; omega
        · simp
theorem alt_ne (l : List UInt8) (ss : List Rx) (l1 : List UInt8) (h : Alt l (.ok (ss, l1))) : ss ≠ [] := by
  cases h with
  | last => simp
  | more => simp
theorem sizes : ∀ (n : Nat) (l : List UInt8), l.length ≤ n → (∀ x l1, Atom l (.ok (x, l1)) → x.flat.length + 1 + 2 * l1.length ≤ 2 * l.length) ∧ (∀ xs l1, Seq l (.ok (xs, l1)) → szL (xs.map Rx.flat) + xs.length + 2 * l1.length ≤ 2 * l.length) ∧ (∀ ss l1, Alt l (.ok (ss, l1)) → szL (ss.map Rx.flat) + ss.length + 2 * l1.length ≤ 2 * l.length + 2)
  | n, l, hn => by
    have hA : ∀ x l1, Atom l (.ok (x, l1)) → x.flat.length + 1 + 2 * l1.length ≤ 2 * l.length := by
      intro x l1 h
      generalize hr : (Except.ok (x, l1) : Except Nat (Rx × List UInt8)) = r at h
      cases h with
      | bad => cases hr
      | ok _ m l2 h1 h2 =>
        have g := base_len _ _ _ h2
        have p := posts_size l2 (.leaf m)
        have q := posts_len l2 (.leaf m)
        injection hr with hr
        rw [← hr] at p q
        simp [Rx.flat] at p q ⊢
        omega
      | inBad => cases hr
      | inOpen => cases hr
      | inOk l0 ss l2 h1 =>
        cases n with
        | zero => simp at hn
        | succ n =>
          have g := (sizes n l0 (by simp at hn; omega)).2.2 ss _ h1
          have p := posts_size l2 (ors ss)
          have q := posts_len l2 (ors ss)
          have hne := alt_ne _ _ _ h1
          have o := ors_flat ss hne
          have ol := orL_len (ss.map Rx.flat)
          injection hr with hr
          rw [← hr] at p q
          rw [o] at p
          simp at p q g ol ⊢
          omega
    have hS : ∀ xs l1, Seq l (.ok (xs, l1)) → szL (xs.map Rx.flat) + xs.length + 2 * l1.length ≤ 2 * l.length := by
      intro xs l1 h
      cases h with
      | stop => simp [szL]
      | more _ x l2 xs _ h1 h2 h3 =>
        have g := hA x l2 h2
        have fp := x.flat_pos
        cases n with
        | zero => omega
        | succ n =>
          have g2 := (sizes n l2 (by omega)).2.1 xs l1 h3
          simp [szL] at g2 ⊢
          omega
    refine ⟨hA, hS, ?_⟩
    intro ss l1 h
    cases h with
    | last _ xs _ h1 h2 =>
      have g := hS xs l1 h1
      have c := catL_len (xs.map Rx.flat)
      simp [szL, cats_flat] at g c ⊢
      omega
    | more _ xs l2 ss _ h1 h2 =>
      have g := hS xs _ h1
      have c := catL_len (xs.map Rx.flat)
      simp at g
      cases n with
      | zero => omega
      | succ n =>
        have g2 := (sizes n l2 (by omega)).2.2 ss l1 h2
        simp [szL, cats_flat] at g g2 c ⊢
        omega
end Go.Proofs.YtmdfdlljeggbbaaGreatDoor
