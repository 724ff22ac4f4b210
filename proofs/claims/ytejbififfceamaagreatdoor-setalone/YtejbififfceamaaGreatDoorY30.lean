/- The landed prog: Of. The program of a pattern as a value that may be: plain mathematics. class.Of at one letter. The program of a pattern as a value that may be; the program of one letter: plain mathematics. Package find: the auto that a finder keeps; its making. Package find: the first span that a finder finds. errors.Is at the errors of package api. Sets of places in memory: rows of bools. A text's bytes. make of a row of bools. What the document's own functions answer: joined. -/
import Derived.Test.YtejbififfceamaaGreatDoorY29
import Derived.Test.YtejbififfceamaaGreatDoorY22
import Derived.Test.YtejbififfceamaaGreatDoorY26
import Derived.Test.YtejbififfceamaaGreatDoorY02
import Derived.Test.YtejbififfceamaaGreatDoorY10
import Derived.Test.YtejbififfceamaaGreatDoorY20
import Derived.Test.YtejbififfceamaaGreatDoorY03
import Derived.WalkKit
import Derived.LaidEql
import Derived.WalkSpells
import Derived.WalkLawsBesides
import Derived.Deep.QuietTactic
import Derived.BigQuiet
import Derived.Stop.Asserts
import Derived.Test.YtejbififfceamaaGreatDoorY01
import Derived.OwnWalk
import Derived.KernelRfl
namespace Go.Proofs.YtejbififfceamaaGreatDoor
set_option linter.unusedSimpArgs false
set_option linter.unusedVariables false
set_option maxRecDepth 100000
open Go.RowKit
theorem pof_bad (ns : List Nd) (v : Value) (w : World) (h : NsIn w v ns) (hf : ¬ faultL ns = 0) :
    Calls Tryz.prog 49 #[v] w fun e w' => ∃ a cap, e = .returned (.tuple #[.slice a 0 cap, errV (faultL ns)]) ∧ Below w.heap.size w w' := by
  have HC := hid (rcheck_any ns v w h)
  have e0 : errV (faultL ns) = .iface 32 (.int .i64 (faultL ns)) := by unfold errV; rw [if_neg hf]
  rw [e0] at HC
  have HE := hid e0
  clear h e0
  go_enter Tryz.func49, Tryz.ntmps49
  go_wp2_with fail
  refine Calls.mono HC.out ?_
  rintro e w1 ⟨rfl, hb1⟩
  have HB := hid hb1
  clear hb1 HC
  go_wp2
  go_ret2
  exact ⟨none, 0, by rw [HE.out]; rfl, HB.out⟩
set_option maxHeartbeats 2000000 in
theorem pof_tree (t : Rx) (ht : t.Ok) (v : Value) (w : World) (h : NsIn w v t.flat) (hf : faultL t.flat = 0) :
    Calls Tryz.prog 49 #[v] w fun e w' => ∃ u, e = .returned (.tuple #[u, .nilIface]) ∧ SsIn w' u t.prog ∧ Below w.heap.size w w' := by
  have HC := hid (rcheck_any t.flat v w h)
  rw [hf] at HC
  have e0 : errV 0 = .nilIface := rfl
  rw [e0] at HC
  clear e0
  obtain ⟨hl, hop, -⟩ := (faultL_zero t.flat).1 hf
  have hpos := t.flat_pos
  obtain ⟨a, cap, rfl, hm, h | ⟨b, off, rfl, hlt, hN⟩⟩ := h
  · rw [h] at hpos; simp at hpos
  have hcl := t.cod_len 0
  have HP := hid (bpart_tree b off cap t ht [] [] (fun n hn => (hop n hn).1) (by simpa using hl))
  rw [show ([] : List Nd) ++ t.flat ++ [] = t.flat from by simp] at HP
  have HN := hid hN
  clear hN hop hf hm
  go_enter Tryz.func49, Tryz.ntmps49
  go_wp2_with fail
  refine Calls.mono HC.out ?_
  rintro e w1 ⟨rfl, hb1⟩
  have HB1 := hid hb1
  clear hb1 HC
  go_wp2_with fail
  obtain ⟨o, ho⟩ : ∃ o : Obj, o = .cells #[.slice (some ⟨b, off, none⟩) t.flat.length cap, .slice none 0 0] 155 := ⟨_, rfl⟩
  have hBB : BB (w1.alloc o) w1.heap.size (.slice (some ⟨b, off, none⟩) t.flat.length cap) [] := by
    refine ⟨.slice none 0 0, ?_, ⟨rfl, Or.inl ⟨rfl, rfl⟩⟩⟩
    show (w1.alloc o).heap[w1.heap.size]? = _
    rw [ho]
    exact heap_alloc_new w1 _
  have hb1 : b < w1.heap.size := Nat.lt_of_lt_of_le hlt HB1.out.size
  have hN1 : NsAt (w1.alloc o) b off t.flat := (HN.out.below HB1.out hlt).below ((Below.refl _ _).alloc (Nat.le_refl _) _) hb1
  have HP1 := hid (HP.out w1.heap.size [] (w1.alloc o) hBB hb1 hN1 (by simp; omega))
  rw [← ho]
  clear hBB hN1 ho HN HP
  refine Calls.mono HP1.out ?_
  rintro e w2 ⟨rfl, h2, hb2⟩
  have HA := hid (add_any _ _ _ stD w2 h2 (by simp; omega))
  have HB2 : Hid (Below w1.heap.size w1 w2) := ((Below.refl _ _).alloc (Nat.le_refl _) o).trans hb2
  clear h2 hb2 HP1
  go_wp2_with fail
  refine Calls.mono HA.out ?_
  rintro e w3 ⟨rfl, h3, hb3⟩
  have HB3 : Hid (Below w.heap.size w w3) := HB1.out.trans ((HB2.out.trans hb3).mono HB1.out.size)
  obtain ⟨sv, hbl, hso⟩ := h3.of
  obtain ⟨c0, c1, f1⟩ := hbl.all
  have HI : Hid (SsIn w3 sv t.prog) := by
    show SsIn w3 sv t.prog
    have := hso.isIn (by unfold maxLen; simp; omega)
    simpa [Rx.prog] using this
  obtain ⟨a3, cap3, hsv⟩ := hso.len
  rw [show (([] : List St) ++ t.cod ([] : List St).length ++ [stD]).length = (t.cod 0).length + 1 from by simp] at hsv
  subst hsv
  clear h3 hb3 hbl hso HB2 HB1 HA
  go_wp2
  go_ret2
  exact ⟨_, rfl, HI.out, HB3.out⟩
theorem pof_any (ns : List Nd) (v : Value) (w : World) (h : NsIn w v ns) (hf : faultL ns = 0) :
    Calls Tryz.prog 49 #[v] w fun e w' => ∃ a len cap, e = .returned (.tuple #[.slice a len cap, .nilIface]) ∧ Below w.heap.size w w' := by
  obtain ⟨t, ht, rfl⟩ := tree_of ns ((faultL_zero ns).1 hf).2.2
  refine (pof_tree t ht v w h hf).mono ?_
  rintro e w' ⟨u, rfl, hu, hb⟩
  obtain ⟨a, cap, rfl, _⟩ := ssIn_form hu
  exact ⟨a, _, cap, rfl, hb⟩
end Go.Proofs.YtejbififfceamaaGreatDoor
namespace Go.Proofs.YtejbififfceamaaGreatDoor
set_option linter.unusedSimpArgs false
set_option linter.unusedVariables false
set_option maxRecDepth 100000
open Go.RowKit
theorem cod_cls : ∀ (t : Rx) (p : Nat), ∀ m ∈ t.cod p, m.c = z4 ∨ ∃ n ∈ t.flat, m.c = n.c
  | .leaf n, p => by
    intro m hm
    simp only [Rx.cod] at hm
    split at hm
    · simp at hm; subst hm; exact Or.inr ⟨n, by simp [Rx.flat], rfl⟩
    · split at hm
      · simp at hm; subst hm; exact Or.inl rfl
      · split at hm
        · simp at hm; subst hm; exact Or.inl rfl
        · cases hm
  | .one n a, p => by
    intro m hm
    have h : ∀ q, m ∈ a.cod q → m.c = z4 ∨ ∃ n' ∈ (Rx.one n a).flat, m.c = n'.c := fun q hq => by
      rcases cod_cls a q m hq with h | ⟨n', h1, h2⟩
      · exact Or.inl h
      · exact Or.inr ⟨n', by simp [Rx.flat, h1], h2⟩
    simp only [Rx.cod] at hm
    split at hm
    · simp only [List.mem_cons, List.mem_append, List.not_mem_nil, or_false] at hm
      rcases hm with rfl | hm | rfl
      · exact Or.inl rfl
      · exact h _ hm
      · exact Or.inl rfl
    · split at hm
      · simp only [List.mem_cons, List.mem_append, List.not_mem_nil, or_false] at hm
        rcases hm with hm | rfl
        · exact h _ hm
        · exact Or.inl rfl
      · simp only [List.mem_cons] at hm
        rcases hm with rfl | hm
        · exact Or.inl rfl
        · exact h _ hm
  | .two n a b, p => by
    intro m hm
    have ha : ∀ q, m ∈ a.cod q → m.c = z4 ∨ ∃ n' ∈ (Rx.two n a b).flat, m.c = n'.c := fun q hq => by
      rcases cod_cls a q m hq with h | ⟨n', h1, h2⟩
      · exact Or.inl h
      · exact Or.inr ⟨n', by simp [Rx.flat, h1], h2⟩
    have hb : ∀ q, m ∈ b.cod q → m.c = z4 ∨ ∃ n' ∈ (Rx.two n a b).flat, m.c = n'.c := fun q hq => by
      rcases cod_cls b q m hq with h | ⟨n', h1, h2⟩
      · exact Or.inl h
      · exact Or.inr ⟨n', by simp [Rx.flat, h1], h2⟩
    simp only [Rx.cod] at hm
    split at hm
    · rcases List.mem_append.1 hm with hm | hm
      · exact ha _ hm
      · exact hb _ hm
    · simp only [List.mem_cons, List.mem_append] at hm
      rcases hm with rfl | hm | rfl | hm
      · exact Or.inl rfl
      · exact ha _ hm
      · exact Or.inl rfl
      · exact hb _ hm
theorem z4_wf : z4.wf := ⟨by decide, by decide, by decide, by decide⟩
theorem int_wf {z : Int} (h0 : -9223372036854775808 ≤ z) (h1 : z ≤ 9223372036854775807) : (Lit.int .i64 z).wf = true := by
  have e1 : IntKind.i64.min = -9223372036854775808 := by decide
  have e2 : IntKind.i64.max = 9223372036854775807 := by decide
  simp only [Lit.wf, e1, e2, h0, h1, decide_true, Bool.and_self]
theorem prog_wf (t : Rx) (hl : t.flat.length ≤ 60) (hw : ∀ n ∈ t.flat, n.wf) : ∀ m ∈ t.prog, m.wf := by
  intro m hm
  have hc := t.cod_len 0
  unfold Rx.prog at hm
  rcases List.mem_append.1 hm with hm | hm
  · obtain ⟨h1, h2, h3, _, _⟩ := cod_ok t 0 m hm
    refine ⟨int_wf (by omega) (by omega), ?_, int_wf (by omega) (by omega), int_wf (by omega) (by omega)⟩
    rcases cod_cls t 0 m hm with h | ⟨n, hn, h⟩
    · rw [h]; exact z4_wf
    · rw [h]; exact (hw n hn).2
  · rw [List.mem_singleton] at hm
    subst hm
    exact ⟨by decide, z4_wf, by decide, by decide⟩
end Go.Proofs.YtejbififfceamaaGreatDoor
namespace Go.Proofs.YtejbififfceamaaGreatDoor
set_option linter.unusedSimpArgs false
set_option linter.unusedVariables false
open Go.RowKit
def kA : C4 := C4.ofL [97]
def kB : C4 := C4.ofL [98]
theorem ofA : ∀ w, Calls Tryz.prog 110 #[.string ⟨#[97]⟩] w fun e w' => e = .returned kA.v ∧ Below w.heap.size w w' := fun w => of_any ⟨#[97]⟩ w (by decide)
theorem ofB : ∀ w, Calls Tryz.prog 110 #[.string ⟨#[98]⟩] w fun e w' => e = .returned kB.v ∧ Below w.heap.size w w' := fun w => of_any ⟨#[98]⟩ w (by decide)
theorem kA_ok : kA.ok ∧ kA.has 97 = true := ⟨ofL_ok _, by unfold kA; rw [ofL_has _ _ (by decide)]; decide⟩
theorem kB_ok : kB.ok ∧ kB.has 98 = true := ⟨ofL_ok _, by unfold kB; rw [ofL_has _ _ (by decide)]; decide⟩
theorem kA_not : kA.ok ∧ kA.has 97 = true ∧ kA.has 98 = false := ⟨ofL_ok _, kA_ok.2, by unfold kA; rw [ofL_has _ _ (by decide)]; decide⟩
end Go.Proofs.YtejbififfceamaaGreatDoor
namespace Go.Proofs.YtejbififfceamaaGreatDoor
set_option linter.unusedSimpArgs false
set_option linter.unusedVariables false
set_option maxRecDepth 100000
open Go.RowKit
/-- The pattern that is the letter a. -/
abbrev tA : Rx := .leaf ⟨1, kA⟩
theorem tA_ok : tA.Ok := rfl
theorem kA_wf : kA.wf := ⟨by decide, by decide, by decide, by decide⟩
theorem tA_wf : ∀ n ∈ tA.flat, n.wf := by
  intro n hn
  simp [Rx.flat] at hn
  subst hn
  exact ⟨by decide, kA_wf⟩
theorem tA_fault : faultL tA.flat = 0 := by
  rw [faultL_zero]
  refine ⟨by simp [Rx.flat], ?_, ?_⟩
  · intro n hn
    simp [Rx.flat] at hn
    subst hn
    exact ⟨by simp, Or.inl rfl⟩
  · have := endF_flat tA tA_ok [] [] (tA.flat.length + 1) (by omega)
    simpa [endE] using this
theorem tA_ab : EndsR [97, 98] tA 0 [1] := by
  refine ⟨by simp, fun j => ?_⟩
  simp only [Fit, if_true, List.mem_singleton]
  constructor
  · rintro rfl
    exact ⟨97, rfl, kA_ok.2, rfl⟩
  · rintro ⟨c, _, _, h⟩
    omega
theorem tA_a : EndsR [97] tA 0 [1] := by
  refine ⟨by simp, fun j => ?_⟩
  simp only [Fit, if_true, List.mem_singleton]
  constructor
  · rintro rfl
    exact ⟨97, rfl, kA_ok.2, rfl⟩
  · rintro ⟨c, _, _, h⟩
    omega
end Go.Proofs.YtejbififfceamaaGreatDoor
namespace Go.Proofs.YtejbififfceamaaGreatDoor
set_option linter.unusedSimpArgs false
set_option linter.unusedVariables false
set_option maxRecDepth 100000
open Go.RowKit
/-- An auto lies in memory, whatever it knows. -/
def AuN (c : Ax) (w : World) : Prop := ∃ g m K Mb k, AuI c g m K Mb k w
theorem AuN.below {c : Ax} {w w' : World} (h : AuN c w) (hb : Below w.heap.size w w') : AuN c w' := by
  obtain ⟨g, m, K, Mb, k, h⟩ := h
  exact ⟨g, m, K, Mb, k, h.below hb⟩
theorem AuN.size {c : Ax} {w : World} (h : AuN c w) : c.B < w.heap.size ∧ c.ab < w.heap.size ∧ c.b < w.heap.size ∧ c.B ≤ c.ab ∧ c.B ≤ c.b := by
  obtain ⟨g, m, K, Mb, k, h⟩ := h
  exact ⟨h.size, heap_lt h.au, h.blt, h.lo.2.2.1, h.lo.2.2.2⟩
theorem growF_cell (w : World) (a : Addr) (u : Value) : w.grownBy (w.setCell a u) (some a.block) :=
  ⟨rfl, rfl, rfl, by simp, fun k _ hk => heap_setCell_other w a k u (fun e => hk (by rw [e]))⟩
/-- All cells but those of one block lie as they lay. -/
structure Kd (ab : Nat) (w w' : World) : Prop where
  size : w.heap.size ≤ w'.heap.size
  same : ∀ k o, w.heap[k]? = some o → o.isCells = true → k ≠ ab → w'.heap[k]? = some o
theorem Kc.kd {c : Ax} {w w' : World} (h : Kc c w w') : Kd c.ab w w' := ⟨h.size, h.same⟩
/-- A box that is none of its own is turned. -/
theorem AuN.box {c : Ax} {w w' : World} (h : AuN c w) {x : Nat} {cs : Array Value} {T : TypeId} {o : Nat × Nat} (hx : w.heap[x]? = some (.cells cs T o)) (h1 : T ≠ 210) (h2 : T ≠ 166) (h3 : x ≠ c.b) (hg : w.grownBy w' (some x)) : AuN c w' := by
  obtain ⟨g, m, K, Mb, k, h⟩ := h
  have km : ∀ {kt M n ok}, Km w kt M n ok → Km w' kt M n ok := fun {kt M n ok} hk => hk.kept hg (by
    intro e
    injection e with e
    obtain ⟨es, cl, hh⟩ := hk.heap
    rw [e, hx] at hh
    cases hh)
  have hab : c.ab ≠ x := fun e => by
    have := h.au
    rw [e, hx] at this
    injection this with this
    injection this with _ q _
    exact h2 q
  refine ⟨g, m, K, Mb, k, ?_⟩
  exact {
    au := (hg.block _ (heap_lt h.au) (by intro e; injection e with e; exact hab e)).trans h.au
    steps := h.steps.grown hg h.blt (by intro e; injection e with e; exact h3 e.symm)
    blt := Nat.lt_of_lt_of_le h.blt hg.size
    kn := km h.kn
    k100 := h.k100
    bg := by obtain ⟨kb, h1⟩ := h.bg; exact ⟨kb, km h1⟩
    sub := h.sub
    st := fun σ p e => (hg.block _ (heap_lt (h.st σ p e)) (by
      intro e'
      injection e' with e'
      have := h.st σ p e
      rw [e', hx] at this
      injection this with this
      injection this with _ q _
      exact h1 q)).trans (h.st σ p e)
    mv := fun σ p e => by obtain ⟨kn, h1⟩ := h.mv σ p e; exact ⟨kn, km h1⟩
    inj := h.inj
    mK := h.mK
    KM := h.KM
    lo := h.lo
    loS := h.loS
    out := fun k e => ⟨Nat.lt_of_lt_of_le (h.out k e).1 hg.size, (h.out k e).2⟩
    outS := h.outS }
set_option maxHeartbeats 1000000 in
theorem finderOf_bad (ns : List Nd) (v : Value) (w : World) (h : NsIn w v ns) (hf : ¬ faultL ns = 0) :
    Calls Tryz.prog 35 #[v] w fun e w' => e = .returned (.tuple #[.agg #[.pointer none], errV (faultL ns)]) ∧ Below w.heap.size w w' := by
  have HC : Hid (∀ w', Below w.heap.size w w' → _) := fun w' hb => pof_bad ns v w' (h.below hb) hf
  rw [show errV (faultL ns) = .iface 32 (.int .i64 (faultL ns)) by unfold errV; rw [if_neg hf]] at HC ⊢
  have HB0 : Hid (∀ o, Below w.heap.size w (w.alloc o)) := fun o => (Below.refl _ _).alloc (Nat.le_refl _) o
  obtain ⟨va, vc, rfl, vm⟩ := nsIn_form h
  clear h hf
  go_enter Tryz.func35, Tryz.ntmps35
  go_wp2_with fail
  refine Calls.mono (HC.out _ (HB0.out _)) ?_
  rintro e w1 ⟨a1, c1, rfl, hb⟩
  have B1 := hid ((HB0.out _).trans (hb.mono (HB0.out _).size))
  obtain ⟨d0, f0⟩ : w1.cell? ⟨w.heap.size, 0, none⟩ = some (.pointer none) ∧ w1.frozen? ⟨w.heap.size, 0, none⟩ = false := ⟨cell_later hb (by simp), (hb.frozen (p := ⟨w.heap.size, 0, none⟩) (by simp)).trans (by simp)⟩
  clear hb HC HB0
  go_wp2
  refine bodyPost_ret (v := .tuple #[.agg #[.pointer none], .iface 32 (.int .i64 (faultL ns))]) (by simp [results, Tryz.results35, go_sem, *]) rfl ⟨rfl, ?_⟩
  exact B1.out.setCell (p := ⟨w.heap.size, 0, none⟩) (Nat.le_refl _) _
theorem goodA_of {c : Ax} (t : Rx) (hss : c.ss = t.prog) (wN : ∀ n ∈ t.flat, n.wf) (hf : faultL t.flat = 0) {w : World} (hT : Tab w) (hB : w.heap.size ≤ c.B) : c.Good := by
  obtain ⟨h60, -, -⟩ := (faultL_zero t.flat).1 hf
  refine ⟨by rw [hss]; exact prog_fault t h60, fun n hn => C4.wf_ok (prog_wf t h60 wN n (by rw [← hss]; exact hn)).2.1, Nat.lt_of_lt_of_le (tab_lt hT) hB⟩
set_option maxHeartbeats 1000000 in
theorem finderOf_ok (t : Rx) (ht : t.Ok) (v : Value) (w : World) (h : NsIn w v t.flat) (hf : faultL t.flat = 0) :
    Calls Tryz.prog 35 #[v] w fun e w' => ∃ c : Ax, c.ss = t.prog ∧ w.heap.size ≤ c.B ∧ e = .returned (.tuple #[.agg #[c.u], .nilIface]) ∧ Below w.heap.size w w' ∧ AuN c w' := by
  obtain ⟨h60, hops, -⟩ := (faultL_zero t.flat).1 hf
  have HPF := hid (prog_fault t h60)
  have HC : Hid (∀ w', Below w.heap.size w w' → _) := fun w' hb => pof_tree t ht v w' (h.below hb) hf
  have HN : Hid (∀ u w', SsIn w' u t.prog → _) := fun u w' hs => new_ok t.prog u w' HPF.out hs
  have HB0 : Hid (∀ o, Below w.heap.size w (w.alloc o)) := fun o => (Below.refl _ _).alloc (Nat.le_refl _) o
  obtain ⟨va, vc, rfl, vm⟩ := nsIn_form h
  clear h hf hops h60
  go_enter Tryz.func35, Tryz.ntmps35
  go_wp2_with fail
  refine Calls.mono (HC.out _ (HB0.out _)) ?_
  rintro e w1 ⟨u1, rfl, hs, hb⟩
  have B1 := hid ((HB0.out _).trans (hb.mono (HB0.out _).size))
  have D1 : Hid (w1.heap[w.heap.size]? = some (.cells #[.pointer none] 87 (0, 0))) := (hb.block w.heap.size (by simp)).trans (World.alloc_heap_new w _)
  have HS := hid (HN.out u1 w1 hs)
  obtain ⟨a1, c1, rfl, -⟩ := ssIn_form hs
  have HL : Hid (w.heap.size < w1.heap.size) := heap_lt D1.out
  clear hb HC HB0 HN hs
  go_wp2_with fail
  refine Calls.mono HS.out ?_
  rintro e w2 ⟨c, hss, hcB, rfl, hb, K, Mb, hA⟩
  have B2 := hid (B1.out.trans (hb.mono B1.out.size))
  have D2 := hid ((hb.block _ HL.out).trans D1.out)
  have HA : Hid (AuN c w2) := ⟨_, _, _, _, _, hA⟩
  have HCS : Hid (c.ss = t.prog ∧ c.B = w1.heap.size) := ⟨hss, hcB⟩
  have d0 := Lib.cell_of_heap D2.out 0
  simp only [List.getElem?_toArray, List.getElem?_cons_zero, List.getElem?_cons_succ] at d0
  have f0 : w2.frozen? ⟨w.heap.size, 0, none⟩ = false := Lib.frozen_of_heap D2.out 0
  clear hb hA HS hss hcB D1
  go_wp2
  refine bodyPost_ret (v := .tuple #[.agg #[c.u], .nilIface]) (by simp [results, Tryz.results35, go_sem, *]) rfl ⟨c, HCS.out.1, ?_, rfl, ?_, ?_⟩
  · rw [HCS.out.2]; exact Nat.le_of_lt HL.out
  · exact B2.out.setCell (p := ⟨w.heap.size, 0, none⟩) (Nat.le_refl _) _
  · refine HA.out.box D2.out (by decide) (by decide) ?_ (growF_cell w2 ⟨w.heap.size, 0, none⟩ _)
    have := HA.out.size
    have := HCS.out.2
    have := HL.out
    omega
end Go.Proofs.YtejbififfceamaaGreatDoor
namespace Go.Proofs.YtejbififfceamaaGreatDoor
set_option linter.unusedSimpArgs false
set_option linter.unusedVariables false
set_option maxRecDepth 100000
open Go.RowKit
theorem two_set (w : World) (b : Nat) (x y u v : Value) (h0 : w.cell? ⟨b, 0, none⟩ = some u) (h1 : w.cell? ⟨b, 1, none⟩ = some v) :
    ((w.setCell ⟨b, 0, none⟩ x).setCell ⟨b, 1, none⟩ y).cell? ⟨b, 0, none⟩ = some x ∧ ((w.setCell ⟨b, 0, none⟩ x).setCell ⟨b, 1, none⟩ y).cell? ⟨b, 1, none⟩ = some y := by
  have e1 : (w.setCell ⟨b, 0, none⟩ x).cell? ⟨b, 1, none⟩ = some v := by
    rw [World.cell?_setCell_other _ _ _ _ (by simp)]
    exact h1
  refine ⟨?_, World.cell?_setCell_same _ _ _ e1⟩
  rw [World.cell?_setCell_other _ _ _ _ (by simp)]
  exact World.cell?_setCell_same _ _ _ h0
theorem two_grown (w : World) (b : Nat) (x y : Value) : w.grownBy ((w.setCell ⟨b, 0, none⟩ x).setCell ⟨b, 1, none⟩ y) (some b) := (growF_cell w ⟨b, 0, none⟩ x).trans (growF_cell _ ⟨b, 1, none⟩ y)
set_option maxHeartbeats 1000000 in
theorem first_bad (c : Ax) (s : ByteArray) (i : Int) (w : World) (hs : s.size ≤ maxLen) (hp : ¬ plE s.size i = 0) :
    Calls Tryz.prog 51 #[.agg #[c.u], .string s, .int .i64 i] w fun e w' => e = .returned (.tuple #[spV (0, 0), errV (plE s.size i)]) ∧ Below w.heap.size w w' := by
  have HC : Hid (∀ w', _) := fun w' => along_bad c s i w' hs hp
  rw [show errV (plE s.size i) = .iface 32 (.int .i64 (plE s.size i)) by unfold errV; rw [if_neg hp]] at HC ⊢
  clear hs hp
  go_enter Tryz.func51, Tryz.ntmps51
  go_wp2_with fail
  refine wp_loop_rounds 1 ?_
  rw [rounds_succ]
  go_wp2_with fail
  refine Calls.mono (HC.out _) ?_
  rintro e w1 ⟨rfl, hb⟩
  have B1 : Hid (Below w.heap.size w w1) := hid ((((Below.refl _ _).alloc (Nat.le_refl _) _).alloc (by simp) _).trans (hb.mono (by simp; omega)))
  have ho : w1.heap[w.heap.size + 1]? = some (.cells #[.int .i64 0, .int .i64 0] 54 (0, 0)) := (hb.block (w.heap.size + 1) (by simp)).trans (by
    have := World.alloc_heap_new (w.alloc (.cells #[c.u] 87)) (.cells #[.int .i64 0, .int .i64 0] 54)
    rwa [World.size_alloc] at this)
  have d0 := Lib.cell_of_heap ho 0
  have d1 := Lib.cell_of_heap ho 1
  have f0 := Lib.frozen_of_heap ho 0
  have f1 := Lib.frozen_of_heap ho 1
  simp only [List.getElem?_toArray, List.getElem?_cons_zero, List.getElem?_cons_succ] at d0 d1
  clear hb ho HC
  have R := two_set w1 (w.heap.size + 1) (.int .i64 0) (.int .i64 0) _ _ d0 d1
  have BX : Hid (Below w.heap.size w ((w1.setCell ⟨w.heap.size + 1, 0, none⟩ (.int .i64 0)).setCell ⟨w.heap.size + 1, 1, none⟩ (.int .i64 0))) := (B1.out.setCell (p := ⟨w.heap.size + 1, 0, none⟩) (by simp) _).setCell (p := ⟨w.heap.size + 1, 1, none⟩) (by simp) _
  obtain ⟨r0, r1⟩ := R
  go_wp2
  refine bodyPost_ret (v := .tuple #[.agg #[.int .i64 0, .int .i64 0], .iface 32 (.int .i64 (plE s.size i))]) (by simp [results, Tryz.results51, go_sem, *]) rfl ⟨rfl, BX.out⟩
/-- Between two rounds of a search: from a on the same is found. -/
structure FfI (c : Ax) (t : Rx) (s : ByteArray) (r : Option (Nat × Nat)) (w : World) (a : Nat) (wr : World) : Prop where
  au : AuN c wr
  fin : wr.heap[w.heap.size]? = some (.cells #[c.u] 87 (0, 0))
  out : wr.heap[w.heap.size + 1]? = some (.cells #[.int .i64 0, .int .i64 0] 54 (0, 0))
  kc : ∀ k o, w.heap[k]? = some o → o.isCells = true → k ≠ c.ab → wr.heap[k]? = some o
  b : Below c.B w wr
  fnd : FndR s.data.toList t a r
set_option maxHeartbeats 4000000 in
theorem first_ok (c : Ax) (hc : c.Good) (t : Rx) (ht : t.Ok) (hss : c.ss = t.prog) (ho : ∀ n ∈ t.flat, 1 ≤ n.op ∧ n.op ≤ 9) (s : ByteArray) (hs : s.size ≤ 400) (i : Nat) (hi : i ≤ s.size) (r : Option (Nat × Nat)) (hr : FndR s.data.toList t i r) (w : World) (hT : Tab w) (h : AuN c w) :
    Calls Tryz.prog 51 #[.agg #[c.u], .string s, .int .i64 (i : Int)] w fun e w' => e = .returned (.tuple #[spV (fndX r), errV (fndE r)]) ∧ AuN c w' ∧ Kd c.ab w w' ∧ Below c.B w w' := by
  have hlen : s.data.toList.length = s.size := by simp
  have hsz := h.size
  have HC : Hid (∀ (a : Nat) (l : List Nat) w', AuN c w' → Tab w' → a ≤ s.size → EndsR s.data.toList t a l → Calls Tryz.prog 74 #[c.u, .string s, .int .i64 (a : Int)] w' fun e w'' => e = .returned (.tuple #[.int .i64 (lastI l), .nilIface]) ∧ AuN c w'' ∧ Below c.B w' w'' ∧ Kd c.ab w' w'') := fun a l w' ⟨g, m, K, Mb, k, hA⟩ hT' ha hl => (along_any c hc g m K Mb k w' hA hT' s hs a ha l (by rw [hss]; exact (run_ends t ht ho s.data.toList a (by omega) l).2 hl)).mono fun e w'' ⟨h1, h2, h3, h4⟩ => ⟨h1, h2, h3, h4.kd⟩
  have HTB : Hid (∀ w', Below c.B w w' → Tab w') := fun w' hb j hj => (hb.cell (p := ⟨2, j, none⟩) hc.tab).trans (hT j hj)
  have H0 : Hid (FfI c t s r w i ((w.alloc (.cells #[c.u] 87)).alloc (.cells #[.int .i64 0, .int .i64 0] 54))) := by
    have hb1 : Below w.heap.size w ((w.alloc (.cells #[c.u] 87)).alloc (.cells #[.int .i64 0, .int .i64 0] 54)) := ((Below.refl _ _).alloc (Nat.le_refl _) _).alloc (by simp) _
    exact ⟨h.below hb1, (Below.heap_alloc _ _ _ (by simp)).trans (World.alloc_heap_new w _), by
      have := World.alloc_heap_new (w.alloc (.cells #[c.u] 87)) (.cells #[.int .i64 0, .int .i64 0] 54)
      rwa [World.size_alloc] at this, fun k o hk _ _ => (hb1.block k (heap_lt hk)).trans hk, hb1.mono (by omega), hr⟩
  clear hc hss h hr hT
  go_enter Tryz.func51, Tryz.ntmps51
  go_wp2_with fail
  go_loopw [8] (fun v wr => ∃ a : Nat, a ≤ s.size ∧ v = .int .i64 (a : Int) ∧ Hid (FfI c t s r w a wr)) (fun v _ => s.size + 1 - (intOf v).toNat)
  case atStart => exact ⟨i, hi, rfl, H0⟩
  case round =>
    clear H0
    obtain ⟨a, ha, rfl, HA⟩ := hrel
    obtain ⟨l, hl⟩ := ends_total s.data.toList t a
    have CL := hid (HC.out a l wr HA.out.au (HTB.out _ HA.out.b) ha hl)
    have c0 := Lib.cell_of_heap HA.out.fin 0
    simp only [List.getElem?_toArray, List.getElem?_cons_zero, List.getElem?_cons_succ] at c0
    go_wp2_with fail
    refine Calls.mono CL.out ?_
    rintro e w1 ⟨rfl, hA1, hb1, hk1⟩
    have hab := HA.out.au.size
    have ho : w1.heap[w.heap.size + 1]? = some (.cells #[.int .i64 0, .int .i64 0] 54 (0, 0)) := hk1.same _ _ HA.out.out rfl (by omega)
    have hfin := hk1.same _ _ HA.out.fin rfl (by omega)
    have H1 : Hid (FndR s.data.toList t (a + 1) r → FfI c t s r w (a + 1) w1) := fun hf => ⟨hA1, hfin, ho, fun k o hk hc hn => hk1.same k o (HA.out.kc k o hk hc hn) hc hn, HA.out.b.trans hb1, hf⟩
    have HP : Hid (∀ w', w1.grownBy w' (some (w.heap.size + 1)) → AuN c w' ∧ Kd c.ab w w' ∧ Below c.B w w') := fun w' hg => by
      refine ⟨hA1.box ho (by decide) (by decide) (by omega) hg, ⟨?_, fun k o hk hc hn => ?_⟩, ?_⟩
      · have := HA.out.b.size
        have := hb1.size
        have := hg.size
        omega
      · exact (hg.block k (heap_lt (hk1.same k o (HA.out.kc k o hk hc hn) hc hn)) (by have := heap_lt hk; intro e; injection e with e; omega)).trans (hk1.same k o (HA.out.kc k o hk hc hn) hc hn)
      · exact (HA.out.b.trans hb1).trans ⟨hg.os, hg.tape, hg.output, hg.size, fun k hk => hg.block k (by have := hA1.size; omega) (by intro e; injection e with e; omega)⟩
    have d0 := Lib.cell_of_heap ho 0
    have d1 := Lib.cell_of_heap ho 1
    have f0 := Lib.frozen_of_heap ho 0
    have f1 := Lib.frozen_of_heap ho 1
    simp only [List.getElem?_toArray, List.getElem?_cons_zero, List.getElem?_cons_succ] at d0 d1
    have HFR := hid HA.out.fnd
    clear HA CL hA1 hb1 hk1 hab ho hfin c0 HC HTB
    cases hb : l.getLast? with
    | some b =>
      have er : r = some (a, b) := HFR.out.uniq (FndR.here hl hb)
      have el : lastI l = (b : Int) := by unfold lastI; rw [hb]
      rw [el]
      have g0 : (b : Int) ≥ 0 := by omega
      subst er
      obtain ⟨r0, r1⟩ := two_set w1 (w.heap.size + 1) (.int .i64 (a : Int)) (.int .i64 (b : Int)) _ _ d0 d1
      have HX := hid (HP.out _ (two_grown w1 (w.heap.size + 1) (.int .i64 (a : Int)) (.int .i64 (b : Int))))
      clear HFR hl hb el HP H1
      go_wp2
      exact bodyPost_ret (v := .tuple #[.agg #[.int .i64 (a : Int), .int .i64 (b : Int)], .nilIface]) (by simp [results, Tryz.results51, go_sem, *]) rfl ⟨rfl, HX.out.1, HX.out.2.1, HX.out.2.2⟩
    | none =>
      have e0 : l = [] := List.getLast?_eq_none_iff.1 hb
      subst e0
      have hno := hl.none
      have HF1 : Hid (FndR s.data.toList t (a + 1) r) := HFR.out.unstep hno
      have H2 := hid (H1.out HF1.out)
      rw [show lastI [] = -1 from rfl]
      clear HFR hl hb hno H1
      by_cases hae : a = s.size
      · have er : r = none := HF1.out.uniq (FndR.out (by omega))
        subst er
        have he : ((a : Int) == (s.size : Int)) = true := by rw [hae]; simp
        obtain ⟨r0, r1⟩ := two_set w1 (w.heap.size + 1) (.int .i64 0) (.int .i64 0) _ _ d0 d1
        have HX := hid (HP.out _ (two_grown w1 (w.heap.size + 1) (.int .i64 0) (.int .i64 0)))
        clear hae HF1 H2 HP
        go_wp2
        exact bodyPost_ret (v := .tuple #[.agg #[.int .i64 0, .int .i64 0], .iface 32 (.int .i64 4)]) (by simp [results, Tryz.results51, go_sem, *]) rfl ⟨rfl, HX.out.1, HX.out.2.1, HX.out.2.2⟩
      · have he : ((a : Int) == (s.size : Int)) = false := by rw [beq_eq_false_iff_ne]; omega
        have hal : a + 1 ≤ s.size := by omega
        have hw1 : IntKind.i64.wrap ((a : Int) + 1) = (a : Int) + 1 := by rw [IntKind.wrap_i64]; omega
        clear hae HF1 HP d0 d1 f0 f1
        go_wp2
        exact ⟨⟨a + 1, hal, by go_num, H2⟩, by simp [intOf]; omega⟩
end Go.Proofs.YtejbififfceamaaGreatDoor
namespace Go.Proofs.YtejbififfceamaaGreatDoor
set_option linter.unusedSimpArgs false
set_option linter.unusedVariables false
open Go.RowKit Go.Extern.Stop Go.Stop Go.Extern

theorem x_comparable (w : World) : (callFunc 191 #[.agg #[hnd 32]]).run Tryz.prog w = .ok (.value (.bool true)) w := by kernel_rfl
theorem m_comparable (t : Nat) (w : World) : (method 388 181 (.agg #[hnd t]) "Comparable").run Tryz.prog w = .ok (191, .agg #[hnd t]) w := by kernel_rfl
theorem no_is (v : Value) (xT : TypeId) (w : World) : (Instr.typeAssert (.iface 32 v) xT 214 true).run Tryz.prog w = .ok (.tuple #[.nilIface, .bool false]) w := run_typeAssert_lacksB Tryz.underlying214 (by kernel_rfl) (by kernel_rfl) v xT w
theorem no_unwrap (v : Value) (xT : TypeId) (w : World) : (Instr.typeAssert (.iface 32 v) xT 188 true).run Tryz.prog w = .ok (.tuple #[.nilIface, .bool false]) w := run_typeAssert_lacksB Tryz.underlying188 (by kernel_rfl) (by kernel_rfl) v xT w
theorem no_unwraps (v : Value) (xT : TypeId) (w : World) : (Instr.typeAssert (.iface 32 v) xT 190 true).run Tryz.prog w = .ok (.tuple #[.nilIface, .bool false]) w := run_typeAssert_lacksB Tryz.underlying190 (by kernel_rfl) (by kernel_rfl) v xT w
theorem eq_same (w : World) : (binOp .eql 36 (.iface 32 (.int .i64 4)) (.iface 32 (.int .i64 4))).run Tryz.prog w = .ok (.bool true) w := by kernel_rfl
theorem eq_full (w : World) : (binOp .eql 36 (.iface 32 (.int .i64 3)) (.iface 32 (.int .i64 4))).run Tryz.prog w = .ok (.bool false) w := by kernel_rfl
set_option maxHeartbeats 1000000 in
set_option maxRecDepth 100000 in
theorem is_same (w : World) : Calls Tryz.prog 52 #[.iface 32 (.int .i64 4), .iface 32 (.int .i64 4)] w fun e w' => e = .returned (.bool true) ∧ w' = w := by
  have x1 := x_typeOf
  have x2 := x_comparable
  have m1 := m_comparable
  have q1 := eq_same
  go_enter Tryz.func52, Tryz.ntmps52
  go_wp2
  refine wp_loop_rounds 1 ?_
  rw [rounds_succ]
  go_wp2
  go_ret
  exact ⟨rfl, rfl⟩
set_option maxHeartbeats 1000000 in
set_option maxRecDepth 100000 in
theorem is_full (w : World) : Calls Tryz.prog 52 #[.iface 32 (.int .i64 3), .iface 32 (.int .i64 4)] w fun e w' => e = .returned (.bool false) ∧ w' = w := by
  have x1 := x_typeOf
  have x2 := x_comparable
  have m1 := m_comparable
  have q1 := eq_full
  have n1 := no_is
  have n2 := no_unwrap
  have n3 := no_unwraps
  go_enter Tryz.func52, Tryz.ntmps52
  go_wp2
  refine wp_loop_rounds 1 ?_
  rw [rounds_succ]
  go_wp2
  go_ret
  exact ⟨rfl, rfl⟩
theorem is_nil (w : World) : Calls Tryz.prog 52 #[.nilIface, .iface 32 (.int .i64 4)] w fun e w' => e = .returned (.bool false) ∧ w' = w := by
  have hn := run_eql_iface_nil_left (P := Tryz.prog) w 32 (.int .i64 4) Tryz.underlying36
  go_enter Tryz.func52, Tryz.ntmps52
  go_wp2
  go_ret
  exact ⟨rfl, rfl⟩
/-- Whether an error is ErrNone, where it is none, ErrFull or ErrNone. -/
theorem is_any (n : Int) (h : n = 0 ∨ n = 3 ∨ n = 4) (w : World) : Calls Tryz.prog 52 #[errV n, .iface 32 (.int .i64 4)] w fun e w' => e = .returned (.bool (n == 4)) ∧ w' = w := by
  rcases h with rfl | rfl | rfl
  · exact is_nil w
  · exact is_full w
  · exact is_same w
end Go.Proofs.YtejbififfceamaaGreatDoor
namespace Go.Proofs.YtejbififfceamaaGreatDoor
set_option linter.unusedSimpArgs false
set_option linter.unusedVariables false
set_option maxRecDepth 100000
open Go.RowKit
/-- The places 0 to N of A lie in block b from off on. -/
def BsAt (w : World) (b off N : Nat) (A : Nat → Bool) : Prop := ∀ i, i ≤ N → w.cell? ⟨b, off + i, none⟩ = some (.bool (A i))
/-- A slice that reads as the places of A. -/
def BsIn (w : World) (v : Value) (N : Nat) (A : Nat → Bool) : Prop := ∃ b off cap, v = .slice (some ⟨b, off, none⟩) (N + 1) cap ∧ b < w.heap.size ∧ BsAt w b off N A
theorem BsAt.below {w w' : World} {B b off N : Nat} {A : Nat → Bool} (h : BsAt w b off N A) (hb : Below B w w') (hlt : b < B) : BsAt w' b off N A :=
  fun i hi => (hb.cell (p := ⟨b, _, none⟩) hlt).trans (h i hi)
theorem BsIn.below {w w' : World} {v : Value} {N : Nat} {A : Nat → Bool} (h : BsIn w v N A) (hb : Below w.heap.size w w') : BsIn w' v N A := by
  obtain ⟨b, off, cap, rfl, hlt, h⟩ := h
  exact ⟨b, off, cap, rfl, Nat.lt_of_lt_of_le hlt hb.size, h.below hb hlt⟩
def rowB (N : Nat) (A : Nat → Bool) : Array Value := ((List.range (N + 1)).map fun i => Value.bool (A i)).toArray
def upd (A : Nat → Bool) (i : Nat) (x : Bool) : Nat → Bool := fun j => if j = i then x else A j
/-- Block b is a row of the places of A. -/
def BsRow (w : World) (b N : Nat) (A : Nat → Bool) : Prop := w.heap[b]? = some (.cells (rowB N A) 4 (0, 0))
theorem BsRow.lt {w : World} {b N : Nat} {A : Nat → Bool} (h : BsRow w b N A) : b < w.heap.size := by
  rcases Nat.lt_or_ge b w.heap.size with h' | h'
  · exact h'
  · simp [BsRow, Array.getElem?_eq_none h'] at h
theorem rowB_at (N : Nat) (A : Nat → Bool) (i : Nat) (h : i ≤ N) : (rowB N A)[i]? = some (.bool (A i)) := by
  simp [rowB, List.getElem?_range (show i < N + 1 by omega)]
theorem BsRow.at {w : World} {b N : Nat} {A : Nat → Bool} (h : BsRow w b N A) : BsAt w b 0 N A := by
  intro i hi
  rw [Lib.cell_of_heap h, Nat.zero_add, rowB_at N A i hi]
theorem BsRow.isIn {w : World} {b N : Nat} {A : Nat → Bool} (h : BsRow w b N A) (cap : Nat) : BsIn w (.slice (some ⟨b, 0, none⟩) (N + 1) cap) N A := ⟨b, 0, cap, rfl, h.lt, h.at⟩
theorem BsRow.free {w : World} {b N : Nat} {A : Nat → Bool} (h : BsRow w b N A) (i : Nat) : w.frozen? ⟨b, i, none⟩ = false := Lib.frozen_of_heap h i
theorem rowB_set (N : Nat) (A : Nat → Bool) (i : Nat) (x : Bool) : (rowB N A).setIfInBounds i (.bool x) = rowB N (upd A i x) := by
  apply Array.ext_getElem?
  intro j
  rw [Array.getElem?_setIfInBounds]
  by_cases hj : j ≤ N
  · rw [rowB_at N _ j hj, rowB_at N _ j hj]
    by_cases e : i = j
    · subst e
      simp [rowB, upd, hj]
      omega
    · rw [if_neg e]
      simp [upd, Ne.symm e]
  · have h1 : (rowB N A)[j]? = none := Array.getElem?_eq_none (by simp [rowB]; omega)
    have h2 : (rowB N (upd A i x))[j]? = none := Array.getElem?_eq_none (by simp [rowB]; omega)
    rw [h1, h2]
    split
    · rename_i e
      subst e
      rw [if_neg (by simp [rowB]; omega)]
    · rfl
theorem BsRow.set {w : World} {b N : Nat} {A : Nat → Bool} (h : BsRow w b N A) (i : Nat) (x : Bool) : BsRow (w.setCell ⟨b, i, none⟩ (.bool x)) b N (upd A i x) := by
  simp only [BsRow] at h ⊢
  simp [World.setCell, Array.getElem?_modify, h, rowB_set]
theorem BsRow.below {w w' : World} {b N : Nat} {A : Nat → Bool} (h : BsRow w b N A) (hb : Below w.heap.size w w') : BsRow w' b N A := (hb.block b h.lt).trans h
theorem rowB_new (N : Nat) : Array.replicate (N + 1) (Value.bool false) = rowB N fun _ => false := by
  apply Array.ext_getElem?
  intro j
  by_cases hj : j ≤ N
  · rw [rowB_at N _ j hj]
    simp [show j < N + 1 by omega]
  · rw [Array.getElem?_eq_none (by simp; omega), Array.getElem?_eq_none (by simp [rowB]; omega)]
theorem BsRow.new (w : World) (N : Nat) (o : Obj) (ho : o = .cells (Array.replicate (N + 1) (Value.bool false)) 4 (0, 0)) : BsRow (w.alloc o) w.heap.size N fun _ => false := by
  rw [ho, rowB_new]
  show (w.heap.push _)[w.heap.size]? = _
  simp
theorem BsRow.congr {w : World} {b N : Nat} {A B : Nat → Bool} (h : BsRow w b N A) (he : ∀ i, i ≤ N → A i = B i) : BsRow w b N B := by
  have : rowB N A = rowB N B := by
    unfold rowB
    congr 1
    apply List.map_congr_left
    intro i hi
    rw [he i (by have := List.mem_range.1 hi; omega)]
  simp only [BsRow] at h ⊢
  rw [h, this]
theorem BsIn.form {w : World} {v : Value} {N : Nat} {A : Nat → Bool} (h : BsIn w v N A) : ∃ b off cap, v = .slice (some ⟨b, off, none⟩) (N + 1) cap := by
  obtain ⟨b, off, cap, h, _⟩ := h
  exact ⟨b, off, cap, h⟩
end Go.Proofs.YtejbififfceamaaGreatDoor
namespace Go.Proofs.YtejbififfceamaaGreatDoor
set_option linter.unusedSimpArgs false
set_option linter.unusedVariables false
set_option maxRecDepth 100000
open Go.RowKit
set_option maxHeartbeats 4000000 in
theorem sl (s : ByteArray) : s.data.toList.length = s.size := Array.length_toList
theorem str_idx' (s : ByteArray) (a : Nat) (c : UInt8) (h : s.data.toList[a]? = some c) (w : World) : (Instr.index 9 (.string s) (.int .i64 (a : Int))).run Tryz.prog w = .ok (.int .u8 (c.toNat : Int)) w := by
  have hl : a < s.data.toList.length := by
    rcases Nat.lt_or_ge a s.data.toList.length with h' | h'
    · exact h'
    · rw [List.getElem?_eq_none h'] at h; cases h
  have hs : a < s.size := by rw [← sl]; exact hl
  rw [run_index_string w 9 s .i64 (a : Int) Tryz.underlying9, dif_pos ⟨by omega, by omega⟩]
  rw [List.getElem?_eq_getElem hl] at h
  have e : s[(a : Int).toNat]'(by simpa using hs) = c := by
    exact Option.some.inj h
  rw [e]
end Go.Proofs.YtejbififfceamaaGreatDoor
namespace Go.Proofs.YtejbififfceamaaGreatDoor
set_option linter.unusedSimpArgs false
set_option linter.unusedVariables false
set_option maxRecDepth 100000
open Go.RowKit
set_option maxHeartbeats 4000000 in
theorem made_bools (n : Nat) : madeCells #[Value.bool false] (n * 1) = Array.replicate n (Value.bool false) := by
  apply Array.ext
  · simp [madeCells]
  · intro i h1 h2
    simp [madeCells, Nat.mod_one]
theorem mkB (N : Nat) (hN : N ≤ 1000000) (u : World) : (Instr.makeSlice 193 (.int .i64 ((N : Int) + 1)) (.int .i64 ((N : Int) + 1))).run Tryz.prog u = .ok (.slice (some ⟨u.heap.size, 0, none⟩) (N + 1) (N + 1)) (u.alloc (.cells (rowB N fun _ => false) 4)) := by
  have hinfo : (Tryz.prog.info? 4).map (fun i => (i.zero, i.size, i.bytes)) = some (some (.bool false), 1, 1) := by kernel_rfl
  obtain ⟨i0, hi, hz0, hz1, hz2⟩ := info_parts hinfo
  have h := run_make (P := Tryz.prog) u 193 4 i0 (.bool false) Tryz.underlying193 hi hz0 .i64 .i64 ((N : Int) + 1) ((N : Int) + 1) (by omega) (Int.le_refl _) (by rw [hz2]; omega) (by omega)
  have e : ((N : Int) + 1).toNat = N + 1 := by omega
  rw [e, hz1, show (Value.bool false).cells = #[Value.bool false] from rfl, made_bools, rowB_new] at h
  exact h
theorem BsRow.new' (w : World) (N : Nat) (A : Nat → Bool) : BsRow (w.alloc (.cells (rowB N A) 4)) w.heap.size N A := by
  show (w.heap.push _)[w.heap.size]? = _
  simp
end Go.Proofs.YtejbififfceamaaGreatDoor
namespace Go.Proofs.YtejbififfceamaaGreatDoor
set_option linter.unusedSimpArgs false
set_option linter.unusedVariables false
set_option maxRecDepth 100000
open Go.RowKit
set_option maxHeartbeats 4000000 in
theorem joined_any (N : Nat) (hN : N ≤ 1000000) (A B : Nat → Bool) (v u : Value) (w : World) (hA : BsIn w v N A) (hB : BsIn w u N B) :
    Calls Tryz.prog 111 #[v, u] w fun e w' => ∃ x, e = .returned x ∧ Below w.heap.size w w' ∧ BsIn w' x N fun i => A i || B i := by
  obtain ⟨b1, o1, c1, rfl, l1, hA⟩ := hA
  obtain ⟨b2, o2, c2, rfl, l2, hB⟩ := hB
  have hmk := mkB N hN
  obtain ⟨g, hg⟩ : ∃ g, g = w.heap.size := ⟨_, rfl⟩
  have HNew : Hid (BsRow (w.alloc (.cells (rowB N fun _ => false) 4)) g N fun _ => false) := hg ▸ BsRow.new' w N _
  go_enter Tryz.func111, Tryz.ntmps111
  go_wp2
  rw [← hg]
  have HG := hid hg
  clear hg
  go_loopw [6] (fun v wr => ∃ (i : Nat) (C : Nat → Bool), i ≤ N + 1 ∧ v = .int .i64 i ∧ BsRow wr g N C ∧ Hid (∀ j, C j = (decide (j < i) && (A j || B j))) ∧ Below w.heap.size w wr) (fun v _ => N + 1 - (intOf v).toNat)
  case atStart => exact ⟨0, fun _ => false, by omega, rfl, HNew.out, fun j => by simp, (Below.refl _ _).alloc (Nat.le_refl _) _⟩
  case round =>
    obtain ⟨i, C, hi, rfl, hR, HC, hb⟩ := hrel
    by_cases hil : i < N + 1
    · have a0 := (hA.below hb l1) i (by omega)
      have d0 := (hB.below hb l2) i (by omega)
      have f0 := hR.free i
      have g0 := hR.at i (by omega)
      rw [Nat.zero_add] at g0
      have i0 : (0 : Int) ≤ (i : Int) := by omega
      have i1 : (i : Int) < (N : Int) + 1 := by omega
      cases hx : A i <;> cases hy : B i
      all_goals
        rw [hx] at a0
        rw [hy] at d0
        have HR := hid (hR.set i (A i || B i))
        rw [hx, hy] at HR
        have HC2 : Hid (∀ j, upd C i (A i || B i) j = (decide (j < i + 1) && (A j || B j))) := by
          intro j
          unfold upd
          split
          · rename_i e; subst e; simp
          · rename_i e; rw [HC.out j]; congr 1; exact decide_eq_decide.2 (by omega)
        rw [hx, hy] at HC2
        have HB := hid (hb.setCell (p := ⟨g, i, none⟩) (by simp [HG.out]) (.bool (A i || B i)))
        rw [hx, hy] at HB
        clear hx hy hb hR
        go_wp2
        exact ⟨⟨i + 1, _, by omega, by go_num, HR.out, HC2, HB.out⟩, by simp [intOf]; omega⟩
    · go_wp2
      go_ret
      refine ⟨_, rfl, hb, (hR.congr fun j hj => ?_).isIn _⟩
      rw [HC.out j, decide_eq_true (by omega), Bool.true_and]
end Go.Proofs.YtejbififfceamaaGreatDoor
