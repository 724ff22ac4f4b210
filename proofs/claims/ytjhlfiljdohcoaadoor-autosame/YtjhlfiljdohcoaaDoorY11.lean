/- Package sim: Next. A loop over a closure that keeps memory of its own from round to round: the body turns its own frame alone, the closure what is not of it. -/
import Derived.Test.YtjhlfiljdohcoaaDoorY10
import Derived.Test.YtjhlfiljdohcoaaDoorY08
import Derived.RangeFuncNested
namespace Go.Proofs.YtjhlfiljdohcoaaDoor
set_option linter.unusedSimpArgs false
set_option linter.unusedVariables false
set_option maxRecDepth 100000
open Go.RowKit Go.Shelf
attribute [local go_sem] Oper.semAt_some
theorem leads_of {ss : List St} (hf : stepsF ss = 0) : Leads ss := fun k n hn => by
  have := ((stepsF_zero hf).2.2 n (List.mem_of_getElem? hn)).1
  unfold stRange at this
  omega
/-- Between two rounds. -/
structure NxI (ss : List St) (b off cap : Nat) (c : UInt8) (fi la : Bool) (w : World) (pre : List Nat) (W : World) : Prop where
  h0 : Boxed W w.heap.size 66 (.slice (some ⟨b, off, none⟩) ss.length cap)
  h2 : Boxed W (w.heap.size + 1 + 1) 5 (.int .u8 (c.toNat : Int))
  h3 : W.heap[w.heap.size + 1 + 1 + 1]? = some (.cells #[.bool fi, .bool la] 96 (0, 0))
  h4 : Hq W (w.heap.size + 1 + 1 + 1 + 1) noP
  h5 : Hq W (w.heap.size + 1 + 1 + 1 + 1 + 1) (takL ss c.toNat pre)
  bel : Below w.heap.size w W
theorem nxI_own (ss : List St) (b off cap : Nat) (c : UInt8) (fi la : Bool) (w : World) (B : Nat) (hB : w.heap.size ≤ B) : OwnFrom B (NxI ss b off cap c fi la w) := fun pre X Y row hs hg hr => by
  have hr2 := fun r e => (hr r e).2
  exact ⟨cells_keep hg hr2 hs.h0 rfl, cells_keep hg hr2 hs.h2 rfl, cells_keep hg hr2 hs.h3 rfl, hs.h4.keep hg hr2, hs.h5.keep hg hr2, hs.bel.grown hg hs.bel.size (fun k e => Nat.le_trans hB (hr k e).1)⟩
theorem NxI.no {ss : List St} {b off cap : Nat} {c : UInt8} {fi la : Bool} {w : World} {pre : List Nat} {x : Nat} {n : St} {W W' : World} (h : NxI ss b off cap c fi la w pre W) (hb : Below W.heap.size W W') (hn : ss[x]? = some n) (hno : ¬ (n.op = 1 ∧ n.c.has c.toNat = true)) (B : Nat) : KeepsFrom B W W' ∧ NxI ss b off cap c fi la w (pre ++ [x]) W' := by
  refine ⟨KeepsFrom.of_grownBy (gr_below hb none) (fun j e => by cases e), ?_⟩
  exact ⟨(hb.block _ (heap_lt h.h0)).trans h.h0, (hb.block _ (heap_lt h.h2)).trans h.h2, (hb.block _ (heap_lt h.h3)).trans h.h3, h.h4.below hb h.h4.lt, by rw [takL_no hn hno]; exact h.h5.below hb h.h5.lt, h.bel.trans (hb.mono h.bel.size)⟩
theorem NxI.yes {ss : List St} {b off cap : Nat} {c : UInt8} {fi la : Bool} {w : World} {pre : List Nat} {x y : Nat} {n : St} {W W' : World} (h : NxI ss b off cap c fi la w pre W) (hb : Below W.heap.size W W') (hn : ss[x]? = some n) (h1 : n.op = 1) (hc : n.c.has c.toNat = true) (hy : n.x.toNat = y) (B : Nat) (hB : w.heap.size + 6 ≤ B) : KeepsFrom B W (putS W' (w.heap.size + 1 + 1 + 1 + 1 + 1) (withP (takL ss c.toNat pre) y)) ∧ NxI ss b off cap c fi la w (pre ++ [x]) (putS W' (w.heap.size + 1 + 1 + 1 + 1 + 1) (withP (takL ss c.toNat pre) y)) := by
  have hg := grown_putS W' (w.heap.size + 1 + 1 + 1 + 1 + 1) (withP (takL ss c.toNat pre) y)
  have key : ∀ k o, k ≠ w.heap.size + 1 + 1 + 1 + 1 + 1 → W.heap[k]? = some o → (putS W' (w.heap.size + 1 + 1 + 1 + 1 + 1) (withP (takL ss c.toNat pre) y)).heap[k]? = some o := fun k o hk ho =>
    (hg.block k (Nat.lt_of_lt_of_le (heap_lt ho) hb.size) (by intro e; injection e with e; exact hk e)).trans ((hb.block k (heap_lt ho)).trans ho)
  refine ⟨(KeepsFrom.of_grownBy (gr_below hb none) (fun j e => by cases e)).trans (KeepsFrom.of_grownBy hg (fun j e => by cases e; omega)), ?_⟩
  refine ⟨key _ _ (by omega) h.h0, key _ _ (by omega) h.h2, key _ _ (by omega) h.h3, key _ _ (by omega) h.h4, ?_, below_putS (h.bel.trans (hb.mono h.bel.size)) (by omega) _⟩
  rw [takL_yes hn h1 hc, hy]
  exact (h.h5.below hb h.h5.lt).putS _
set_option maxHeartbeats 4000000 in
theorem snext_in (ss : List St) (hf : stepsF ss = 0) (hok : SsOk ss) (b off cap : Nat) (p : Nat → Bool) (hp : Sub ss p) (c : UInt8) (fi la : Bool) (w : World) (hT : Tab w) (hlt : b < w.heap.size) (hN : SsAt w b off ss) :
    CallsIn Fence.wide 3 Tryd.prog 54 #[wyV b off ss.length cap, stV p, .int .u8 (c.toNat : Int), pcV fi la] w fun e w' => e = .returned (stV (nxtS ss p c.toNat fi la)) ∧ Below w.heap.size w w' := by
  have h200 := (stepsF_zero hf).1
  obtain ⟨W0, hW0⟩ : ∃ W0, W0 = (((((w.alloc (.cells #[.slice (some ⟨b, off, none⟩) ss.length cap] 66)).alloc (.cells #[.int .u64 (wd p 0), .int .u64 (wd p 1), .int .u64 (wd p 2), .int .u64 (wd p 3)] 99)).alloc (.cells #[.int .u8 (c.toNat : Int)] 5)).alloc (.cells #[.bool fi, .bool la] 96)).alloc (.cells #[.int .u64 0, .int .u64 0, .int .u64 0, .int .u64 0] 99)).alloc (.cells #[.int .u64 0, .int .u64 0, .int .u64 0, .int .u64 0] 99) := ⟨_, rfl⟩
  obtain ⟨k0, k1, k2, k3, k4, k5, hB0, hs0⟩ := heap_at6 w _ _ _ _ _ _ W0 hW0
  have hZ : ∀ b, W0.heap[b]? = some (.cells #[.int .u64 0, .int .u64 0, .int .u64 0, .int .u64 0] 99 (0, 0)) → Hq W0 b noP := fun b h => by
    unfold Hq
    rw [wd_no, wd_no, wd_no, wd_no]
    exact h
  have HI0 : Hid (NxI ss b off cap c fi la w [] W0) := ⟨k0, k2, k3, hZ _ k4, by rw [takL_nil]; exact hZ _ k5, hB0⟩
  have m1 : Hq W0 (w.heap.size + 1) p := k1
  obtain ⟨j0, j1, j2, j3⟩ := m1.all
  replace hW0 := hW0.symm
  have hc256 : (c.toNat : Int) < 256 := by have := c.toNat_lt; omega
  have HCR := hid (fun q (hq : Sub ss q) w' hT hlt hN => sreached_any ss hf b off cap q hq fi la w' hT hlt hN)
  have HOK := hid hok
  have HL := hid (leads_of hf)
  clear k0 k1 k2 k3 k4 k5 hZ m1 hB0 hok
  refine callsIn_of_wp_marks Tryd.func54 rfl trivial ?_ rfl
  simp only [Tryd.ntmps54, List.size_toArray, List.length_cons, List.length_nil, Nat.reduceAdd, Nat.reduceSub, Array.replicate_succ, Array.replicate_zero, List.push_toArray, List.append_toArray, List.nil_append, List.cons_append]
  unfold stV
  gi_wp2_with fail
  refine wpIn_runsTo rfl (by omega) 68 #[stV p] rfl trivial enters_srising (fun x : Nat => Value.int .i64 (x : Int)) Tab (el p 256) (srises (3 - 1) (by omega) p) rfl
    (NxI ss b off cap c fi la w) (fun _ _ => False)
    (nxI_own _ _ _ _ _ _ _ _ _ (by omega)) (ownFrom_pure _ (fun _ => False))
    (fun pre W h => hT.below h.bel (Nat.le_refl _))
    HI0.out
    (fun x => { tmps := #[wyV b off ss.length cap, stV p, .int .u8 (c.toNat : Int), pcV fi la, .pointer (some ⟨w.heap.size, 0, none⟩), .pointer (some ⟨w.heap.size + 1, 0, none⟩), .pointer (some ⟨w.heap.size + 1 + 1, 0, none⟩), .pointer (some ⟨w.heap.size + 1 + 1 + 1, 0, none⟩), .pointer (some ⟨w.heap.size + 1 + 1 + 1 + 1, 0, none⟩), .pointer (some ⟨w.heap.size + 1 + 1 + 1 + 1 + 1, 0, none⟩), .int .i64 (x : Int), undef, stV p, .func (.func 68) #[stV p] #[], .int .i64 (x : Int), undef, undef, undef, undef, undef, undef, undef, undef, undef, undef, undef, undef, undef, undef, undef, undef, undef, undef, undef, undef, undef, undef], defers := [] }) ?assign ?body ?done ?stop
  case assign =>
    intro l x W K hK
    gi_wp2
    exact hK
  case body =>
    rintro l pre x rest W hx hI
    obtain ⟨hpx, hxl⟩ := el_one hp hx
    obtain ⟨n, hn⟩ : ∃ n, ss[x]? = some n := ⟨ss[x], List.getElem?_eq_getElem hxl⟩
    have r0 := hI.h0.cell
    have r2 := hI.h2.cell
    obtain ⟨d0, d1, d2, d3, d4, d5, d6⟩ := (hN.below hI.bel hlt) x n hn
    have g0 : (0 : Int) ≤ (x : Int) := by omega
    have g1 : (x : Int) < (ss.length : Int) := by omega
    obtain ⟨W5, hW5⟩ : ∃ W5, W.alloc (.cells #[.int .i64 n.op, .int .u64 n.c.a, .int .u64 n.c.b, .int .u64 n.c.c, .int .u64 n.c.d, .int .i64 n.x, .int .i64 n.y] 52) = W5 := ⟨_, rfl⟩
    have hh5 : W5.heap[W.heap.size]? = some (.cells #[.int .i64 n.op, .int .u64 n.c.a, .int .u64 n.c.b, .int .u64 n.c.c, .int .u64 n.c.d, .int .i64 n.x, .int .i64 n.y] 52 (0, 0)) := by rw [← hW5]; exact heap_alloc_new W _
    have hb5 : Below W.heap.size W W5 := by rw [← hW5]; exact (Below.refl _ _).alloc (Nat.le_refl _) _
    have HNO : Hid (¬ (n.op = 1 ∧ n.c.has c.toNat = true) → ∀ w', Below W.heap.size W w' → KeepsFrom W0.heap.size W w' ∧ NxI ss b off cap c fi la w (pre ++ [x]) w') := fun hno w' hb => hI.no hb hn hno _
    have HYES : Hid (n.op = 1 → n.c.has c.toNat = true → ∀ y, n.x.toNat = y → ∀ w', Below W.heap.size W w' → KeepsFrom W0.heap.size W (putS w' (w.heap.size + 1 + 1 + 1 + 1 + 1) (withP (takL ss c.toNat pre) y)) ∧ NxI ss b off cap c fi la w (pre ++ [x]) (putS w' (w.heap.size + 1 + 1 + 1 + 1 + 1) (withP (takL ss c.toNat pre) y))) := fun h1 h2 y hy w' hb => hI.yes hb hn h1 h2 hy _ (by omega)
    have e0 := Lib.cell_of_heap hh5 0
    have e1 := Lib.cell_of_heap hh5 1
    have e2 := Lib.cell_of_heap hh5 2
    have e3 := Lib.cell_of_heap hh5 3
    have e4 := Lib.cell_of_heap hh5 4
    simp only [List.getElem?_toArray, List.getElem?_cons_zero, List.getElem?_cons_succ] at e0 e1 e2 e3 e4
    have s2 := (hb5.cell (p := ⟨w.heap.size + 1 + 1, 0, none⟩) (cell_lt r2)).trans r2
    have HCH := hid (has_any n.c (c.toNat : Int) W5 (by omega) hc256)
    rw [C4.hasI_eq n.c (HOK.out n (List.mem_of_getElem? hn))] at HCH
    have HX : Hid (n.op = 1 → 0 ≤ n.x ∧ n.x.toNat < ss.length) := fun h1 => by
      have := ((stepsF_zero hf).2.2 n (List.mem_of_getElem? hn)).1
      unfold stRange at this
      omega
    have HH5 := hid hh5
    have HB5 := hid hb5
    have H5 := hid (fun w' (hb : Below W.heap.size W w') => hI.h5.below hb hI.h5.lt)
    clear hI hn hh5 hb5 HI0 hW0 j0 j1 j2 j3 hN hx
    by_cases h1 : n.op = 1
    · obtain ⟨hx0, hxl2⟩ := HX.out h1
      obtain ⟨y, hy, hyn⟩ : ∃ y : Nat, n.x = (y : Int) ∧ n.x.toNat = y := ⟨n.x.toNat, by omega, rfl⟩
      have H1 := hid h1
      rw [h1] at d0 hW5 e0
      rw [hy] at d5 hW5
      have HY := hid hy
      clear h1 hy
      gi_wp2_with fail
      refine ⟨trivial, (callsIn_wide.2 HCH.out).mono ?_⟩
      rintro e w6 ⟨rfl, hb6⟩
      have HB6 := hid (HB5.out.trans (hb6.mono HB5.out.size))
      cases hc : n.c.has c.toNat with
      | false =>
        have HP := hid (HNO.out (by rw [hc]; simp) w6 HB6.out)
        gi_wp2
        exact HP.out
      | true =>
        have q5 := H5.out w6 HB6.out
        obtain ⟨q0, q1, q2, q3⟩ := q5.all
        have t5 := (Lib.cell_of_heap ((hb6.block _ (heap_lt HH5.out)).trans HH5.out) 5)
        simp only [List.getElem?_toArray, List.getElem?_cons_zero, List.getElem?_cons_succ] at t5
        rw [HY.out] at t5
        have HSW := hid (swith_any (takL ss c.toNat pre) y (by omega) w6)
        have HP := hid (HYES.out H1.out hc y hyn)
        unfold stV at HSW
        have HQ5 := hid q5
        clear HX HNO HYES HCH HCR hc hyn q5
        gi_wp2_with fail
        refine ⟨trivial, (callsIn_wide.2 HSW.out).mono ?_⟩
        rintro e w7 ⟨rfl, hb7⟩
        have q7 := HQ5.out.below hb7 HQ5.out.lt
        obtain ⟨z0, z1, z2, z3⟩ := q7.frz
        obtain ⟨y0, y1, y2, y3⟩ := q7.all
        have HB7 := hid (HB6.out.trans (hb7.mono HB6.out.size))
        clear q7
        unfold stV
        gi_wp2
        exact HP.out w7 HB7.out
    · have h1' : (n.op == 1) = false := by rw [beq_eq_false_iff_ne]; exact h1
      have HP := hid (HNO.out (fun h => h1 h.1) W5 HB5.out)
      gi_wp2
      refine ⟨trivial, ?_⟩
      gi_wp2
      exact HP.out
  case done =>
    rintro D W hD hI hK
    have r0 := hI.h0.cell
    have b0 := (Lib.cell_of_heap hI.h3 0).trans rfl
    have b1 := (Lib.cell_of_heap hI.h3 1).trans rfl
    simp only [List.getElem?_toArray, List.getElem?_cons_zero, List.getElem?_cons_succ] at b0 b1
    obtain ⟨q0, q1, q2, q3⟩ := hI.h5.all
    have HC := hid (HCR.out (takL ss c.toNat (el p 256)) (takL_sub HL.out) W (hT.below hI.bel (Nat.le_refl _)) (Nat.lt_of_lt_of_le hlt hI.bel.size) (hN.below hI.bel hlt))
    rw [tak_list h200 hp] at HC q0 q1 q2 q3
    have HB := hid hI.bel
    have H4 := hid (fun w' (hb : Below W.heap.size W w') => hI.h4.below hb hI.h4.lt)
    have hDW := heap_lt hK
    unfold stV at HC
    clear hI HI0 HCR j0 j1 j2 j3 hW0
    gi_wp2_with fail
    refine ⟨trivial, (callsIn_wide.2 HC.out).mono ?_⟩
    rintro e w1 ⟨rfl, hb1⟩
    have hZ := H4.out w1 hb1
    have hK1 := (hb1.block D hDW).trans hK
    obtain ⟨f0, f1, f2, f3⟩ := hZ.frz
    have HZ := hid hZ
    have HK1 := hid hK1
    obtain ⟨y0, y1, y2, y3⟩ := hZ.all
    clear hZ hK1 q0 q1 q2 q3 r0 b0 b1 HC
    gi_wp2
    have hKD := hq_def HZ.out (cloF ss fi la (takF ss c.toNat p)) HK1.out
    have hq2 := (HZ.out.putS (cloF ss fi la (takF ss c.toNat p))).putK hKD (.deferred none)
    obtain ⟨e0, e1, e2, e3⟩ := hq2.all
    refine ⟨by simp, .inl ⟨_, _, rfl, run_takeDeferred hKD, ?_⟩⟩
    refine ⟨stV (cloF ss fi la (takF ss c.toNat p)), by simp [results, Tryd.results54, go_sem, stV, e0, e1, e2, e3], rfl, ?_⟩
    exact (below_putS (HB.out.trans (hb1.mono HB.out.size)) (by omega) _).trans (belowK_b (w := w) (Nat.le_refl _) _ D _ _ (by omega) hKD rfl rfl)
  case stop =>
    intro D pre W _ h
    exact h.elim
theorem snext_any (ss : List St) (hf : stepsF ss = 0) (hok : SsOk ss) (b off cap : Nat) (p : Nat → Bool) (hp : Sub ss p) (c : UInt8) (fi la : Bool) (w : World) (hT : Tab w) (hlt : b < w.heap.size) (hN : SsAt w b off ss) :
    Calls Tryd.prog 54 #[wyV b off ss.length cap, stV p, .int .u8 (c.toNat : Int), pcV fi la] w fun e w' => e = .returned (stV (nxtS ss p c.toNat fi la)) ∧ Below w.heap.size w w' := callsIn_wide.1 (snext_in ss hf hok b off cap p hp c fi la w hT hlt hN)
end Go.Proofs.YtjhlfiljdohcoaaDoor
namespace Go.Proofs.YtjhlfiljdohcoaaDoor
set_option linter.unusedSimpArgs false
set_option linter.unusedVariables false
open Go.RowKit

variable {F : Fence} {n : Nat} {P : Program}

/-- J lasts while new memory is made, and while a block from B on is written that is not of the frame. -/
def AbN {β : Type} (B : Nat) (Fr : World → Nat → Prop) (J : β → World → Prop) : Prop :=
  ∀ s W W' row, J s W → W.grownBy W' row → (∀ r, row = some r → B ≤ r ∧ (∃ o : Obj, W.heap[r]? = some o ∧ o.isCells = true) ∧ ¬ Fr W r) → J s W'
/-- The same of what the loop's body keeps between two rounds; the loop's own objects besides. -/
def OwnN {β : Type} (B : Nat) (Fr : World → Nat → Prop) (I : β → World → Prop) : Prop :=
  ∀ s W W' row, I s W → W.grownBy W' row → (∀ r, row = some r → B ≤ r ∧ ∃ o : Obj, W.heap[r]? = some o ∧ (o.isCells = false ∨ ¬ Fr W r)) → I s W'
/-- What the closure does: one by one it hands on xs. -/
def SeqN {α : Type} (F : Fence) (n : Nat) (P : Program) (g : Nat) (lb : Array Value) (enc : α → Value) (Kp : World → World → Prop) (Fr : World → Nat → Prop) (xs : List α) (w₀ : World) : Prop :=
  ∀ (l : Nat) (J : List α → World → Prop) (W : World), Below w₀.heap.size w₀ W → AbN W.heap.size Fr J →
    (∀ pre x rest W1, xs = pre ++ x :: rest → J pre W1 → YieldAt F (n - 1) P l #[enc x] W1 fun e W' => e = .returned (.bool true) ∧ J (pre ++ [x]) W' ∧ Kp W1 W') →
    J [] W → CallsIn F n P g (#[.func (.yield l) #[] #[]] ++ lb) W fun e W' => (∃ v, e = .returned v) ∧ J xs W'
/-- The body goes on. -/
def nPost {α : Type} (B : Nat) (Kp : World → World → Prop) (I : List α → World → Prop) (xs : List α) (W : World) : Exit → Act → World → Prop
  | .normal, _, W' => KeepsFrom B W W' ∧ Kp W W' ∧ I xs W'
  | _, _, _ => False
theorem wpIn_seqN {α : Type} {g : Operand} {ps : Array Tmp} {assign body : Code} {Q : Exit → Act → World → Prop} {a : Act} {w : World}
    (hro : F.round = none) (h1 : 1 ≤ n) (gf : Nat) (lb : Array Value) (hg : a.eval g = .func (.func gf) #[] lb) (hFg : F.fn gf) (eg : ∀ args w, (callFunc gf args).run P w = .ok (.enter gf args) w)
    (enc : α → Value) (Kp : World → World → Prop) (hKt : ∀ {A B C : World}, Kp A B → Kp B C → Kp A C)
    (hKb : ∀ (W : World) (l : Nat) (o o' : Obj), w.heap.size ≤ l → W.heap[l]? = some o → o.isCells = false → o.isWalk = false → Kp W (W.putObj l o'))
    (Fr : World → Nat → Prop) (xs : List α) (w0 : World) (hseq : SeqN F (n - 1) P gf lb enc Kp Fr xs w0) (hb0 : Below w0.heap.size w0 w) (hps : ps.size = 1)
    (I : List α → World → Prop) (hI : OwnN w.heap.size Fr I) (h0 : I [] w) (a₁ : α → Act)
    (hassign : ∀ (l : Nat) (x : α) (W : World) (K : Act → World → Prop), K (a₁ x) W →
      assign.wpIn (F.inRound l) (n - 1 - 1) P (Exit.then K (fun _ _ _ => False)) { tmps := (ps.zip #[enc x]).foldl (fun t (p, v) => t.setIfInBounds p v) a.tmps, defers := [] } W)
    (hbody : ∀ (l : Nat) (pre : List α) (x : α) (rest : List α) (W : World), xs = pre ++ x :: rest → I pre W → body.wpIn (F.inRound l) (n - 1 - 1) P (nPost w.heap.size Kp I (pre ++ [x]) W) (a₁ x) W)
    (hdone : ∀ (D : Nat) (W : World), w.heap.size ≤ D → I xs W → W.heap[D]? = some (.deferred (some [])) → Q .normal { a with defers := { target := .collected D, args := #[] } :: a.defers } W) :
    (Code.rangeFunc g ps assign body).wpIn F n P Q a w := by
  refine wpIn_rangeFunc fun fn hfn => ?_
  rw [hro]
  let D := w.heap.size
  let L := w.heap.size + 1
  let rec0 : LoopState → Option Code → Loop := fun st pe => { state := st, pending := pe, fn := fn, tmps := a.tmps, params := ps, assign := assign, body := body, defers := D }
  let V := (w.alloc (.deferred (some []))).alloc (.loop (rec0 .ready none))
  have hVL : V.heap[L]? = some (.loop (rec0 .ready none)) := by
    have := World.alloc_heap_new (w.alloc (.deferred (some []))) (.loop (rec0 .ready none))
    rwa [World.size_alloc] at this
  have hVD : V.heap[D]? = some (.deferred (some [])) := (Below.heap_alloc _ _ _ (by simp [D])).trans (World.alloc_heap_new w _)
  have hIa : ∀ (W : World) (o : Obj), I [] W → I [] (W.alloc o) := fun W o h => hI _ _ _ none h (World.grownBy_alloc _ _ _) (fun r e => by cases e)
  have hVI : I [] V := hIa _ _ (hIa _ _ h0)
  have hVb : Below w0.heap.size w0 V := hb0.trans ((((Below.refl _ w).alloc (Nat.le_refl _) _).alloc (by simp) _).mono hb0.size)
  have hput : ∀ (s : List α) (W : World) (l : Nat) (o o' : Obj), I s W → w.heap.size ≤ l → W.heap[l]? = some o → o.isCells = false → I s (W.putObj l o') := fun s W l o o' h hl ho hc =>
    hI _ _ _ (some l) h (grownBy_putObj' W l o') (fun r e => by cases e; exact ⟨hl, o, ho, Or.inl hc⟩)
  refine ⟨L, [{ target := .collected D, args := #[] }], V, { target := .fn (.func gf) lb, args := #[.func (.yield L) #[] #[]] }, V, gf, #[.func (.yield L) #[] #[]] ++ lb, V, run_enterLoop_outer _ _ _ _ _, ?_, ?_, ?_, fun _ => h1, ?_⟩
  · simp only [resolve, hg]
    simp [go_sem]
  · intro f' hf'
    simp [Target.leads] at hf'
    subst hf'
    exact hFg
  · simp [invoke, go_sem, eg]
  · have hkeep : ∀ {A B : World} {row : Option Nat} {k : Nat} {o : Obj}, A.grownBy B row → (∀ r, row = some r → V.heap.size ≤ r ∧ (∃ o : Obj, A.heap[r]? = some o ∧ o.isCells = true) ∧ ¬ Fr A r) → A.heap[k]? = some o → o.isCells = false → B.heap[k]? = some o := fun {A B row k o} hg hr hk ho => by
      refine (hg.block k (Array.getElem?_eq_some_iff.1 hk).1 (fun e => ?_)).trans hk
      obtain ⟨_, ⟨o', h', hc⟩, _⟩ := hr k e.symm
      rw [hk] at h'
      obtain rfl := Option.some.inj h'
      rw [ho] at hc
      cases hc
    have hV2 : w.heap.size + 2 = V.heap.size := by simp [V]
    have key := hseq L (fun pre W => I pre W ∧ W.heap[L]? = some (.loop (rec0 .ready none)) ∧ W.heap[D]? = some (.deferred (some []))) V hVb
      (fun s A B row hs hgr hr => ⟨hI s A B row hs.1 hgr (fun r e => by
        obtain ⟨h2, ⟨o, ho, _⟩, h3⟩ := hr r e
        exact ⟨by omega, o, ho, Or.inr h3⟩), hkeep hgr hr hs.2.1 rfl, hkeep hgr hr hs.2.2 rfl⟩)
      (fun pre x rest W hx h => by
        obtain ⟨hi, hl, hd⟩ := h
        have hlt : L < W.heap.size := (Array.getElem?_eq_some_iff.1 hl).1
        have hy := run_yield (P := P) (args := #[enc x]) hl (by simp [rec0, hps])
        let Wb := W.putObj L (.loop { rec0 .ready none with state := .busy })
        have hbL : Wb.heap[L]? = some (.loop { rec0 .ready none with state := .busy }) := World.putObj_heap_same hlt
        have hbD : Wb.heap[D]? = some (.deferred (some [])) := (World.putObj_heap_other (by simp [D, L])).trans hd
        have hk0 : Kp W Wb := hKb _ _ _ _ (by simp [L]) hl rfl rfl
        refine ⟨fn, _, assign, body, hy, roundIn_of_wpIn hfn (hassign L x W _ ⟨Wb, run_beginRound hl rfl, ?_⟩)⟩
        refine wpIn_mono (hbody L pre x rest Wb hx (hput _ _ _ _ _ hi (by simp [L]) hl rfl)) ?_
        intro e a3 W3 hp
        cases e with
        | normal =>
          obtain ⟨hk3, hkp3, hi3⟩ := hp
          have hl3 := hk3.same L _ (by simp [L]) hbL rfl
          have hd3 := hk3.same D _ (Nat.le_refl _) hbD rfl
          have hk4 : Kp W3 (W3.putObj L (.loop (rec0 .ready none))) := hKb _ _ _ _ (by simp [L]) hl3 rfl rfl
          exact ⟨_, _, run_endRound none hl3, rfl, ⟨hput _ _ _ _ _ hi3 (by simp [L]) hl3 rfl, World.putObj_heap_same (Array.getElem?_eq_some_iff.1 hl3).1, (World.putObj_heap_other (by simp [D, L])).trans hd3⟩, hKt (hKt hk0 hkp3) hk4⟩
        | _ => exact hp.elim)
      ⟨hVI, hVL, hVD⟩
    refine key.mono ?_
    rintro e W2 ⟨⟨v, rfl⟩, hi, hl, hd⟩
    exact ⟨none, _, run_endLoop hl (by simp [rec0]), hdone D _ (Nat.le_refl _) (hput _ _ _ _ _ hi (by simp [L]) hl rfl) ((World.putObj_heap_other (by simp [D, L])).trans hd)⟩
end Go.Proofs.YtjhlfiljdohcoaaDoor
