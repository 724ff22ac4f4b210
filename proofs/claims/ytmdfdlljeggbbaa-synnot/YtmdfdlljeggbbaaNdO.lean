/- A pattern as an argument: opened. -/
import Derived.Test.YtmdfdlljeggbbaaNdP
import Derived.Test.YtmdfdlljeggbbaaOpn
import Derived.Deep.Slices
import Derived.ChangeSame
set_option linter.unusedSimpArgs false
set_option linter.unusedVariables false
set_option maxRecDepth 100000
namespace Go.Proofs.Ytmdfdlljeggbbaa
open Go.ChangeShapes Go.WideShapes Go.ChangeAt Go.RowKit Go.Deep

theorem cellsNode : Try.prog.cellsOf 37 = 5 := by kernel_rfl
theorem cellsInt : Try.prog.cellsOf 3 = 1 := by kernel_rfl
def Nd.wf (n : Nd) : Prop := (Lit.int .i64 n.op).wf = true ∧ n.c.wf
instance : Inhabited Nd := ⟨⟨0, ⟨0, 0, 0, 0⟩⟩⟩
theorem open_node {H : Type} {enc : TypeId × Value → H} {W : World} {base : Nat} {sp : Nat → Bool} {held : Bool} {fuel : Nat} {cs : List Value} {x : DataW H × List MemPlace}
    (h : DataW.trod enc Try.prog W base sp held fuel 37 cs = some x) : ∃ n : Nd, cs = [.int .i64 n.op, .int .u64 n.c.a, .int .u64 n.c.b, .int .u64 n.c.c, .int .u64 n.c.d] ∧ n.wf := by
  obtain ⟨y0, y1, k, hxy, hl, u0, u1⟩ := trod_struct2 Try.underlying37 h
  rw [cellsNode] at hl
  match cs, hl with
  | [c0, c1, c2, c3, c4], _ =>
    simp only [cellsInt, cellsClass, List.drop, List.take] at u0 u1
    obtain ⟨q, e0, d0, w⟩ := DataW.trod_int Try.underlying3 u0
    obtain ⟨z0, z1, z2, z3, m, hx, hy0, hy1, hy2, hy3⟩ := trod_array4 Try.underlying24 cellsWord u1
    obtain ⟨x0, e1, _, w0⟩ := DataW.trod_int Try.underlying22 hy0
    obtain ⟨x1, e2, _, w1⟩ := DataW.trod_int Try.underlying22 hy1
    obtain ⟨x2, e3, _, w2⟩ := DataW.trod_int Try.underlying22 hy2
    obtain ⟨x3, e4, _, w3⟩ := DataW.trod_int Try.underlying22 hy3
    simp only [List.cons.injEq, and_true] at e0 e1 e2 e3 e4
    subst e0 e1 e2 e3 e4
    exact ⟨⟨q, ⟨x0, x1, x2, x3⟩⟩, rfl, w, w0, w1, w2, w3⟩
theorem open_nodes {H : Type} {enc : TypeId × Value → H} {W : World} {base : Nat} {sp : Nat → Bool} {held : Bool} {v : Value} {d : DataW H} {p : List MemPlace}
    (hval : Value.okWide Try.prog W .any base 31 v) (h : DataW.Trod enc Try.prog W 0 sp held 31 v d p) : ∃ ns : List Nd, NsIn W v ns ∧ ∀ n ∈ ns, n.wf := by
  obtain ⟨a0, len0, cap0, rfl⟩ := okWide_slice Try.underlying31 hval
  obtain ⟨fuel, hf⟩ := h
  rcases open_slice Try.underlying31 hf with ⟨hc, _⟩ | ⟨a, len, cap, m, n, D, Pl, hc, hb, hl, hm, hmm, _, hx⟩
  · simp [Value.cells] at hc
    obtain ⟨rfl, rfl, rfl⟩ := hc
    exact ⟨[], ⟨none, 0, rfl, by simp, Or.inl rfl⟩, by simp⟩
  · simp [Value.cells] at hc
    obtain ⟨rfl, rfl, rfl⟩ := hc
    have hlm : len0 ≤ m := by rw [hmm]; split <;> omega
    have each : ∀ i, i < len0 → ∃ n : Nd, W.cells? 0 (a.add (i * 5)) 5 = some [.int .i64 n.op, .int .u64 n.c.a, .int .u64 n.c.b, .int .u64 n.c.c, .int .u64 n.c.d] ∧ n.wf := by
      intro i hi
      obtain ⟨cs', h1, h2⟩ := hx i (by omega)
      rw [cellsNode] at h1
      obtain ⟨n, rfl, hw⟩ := open_node h2
      exact ⟨n, h1, hw⟩
    obtain ⟨q, hq⟩ := choose_lt each
    refine ⟨(List.range len0).map q, ⟨some a, cap0, by simp, by simp; omega, ?_⟩, ?_⟩
    · rcases Nat.eq_zero_or_pos len0 with h0 | h0
      · subst h0; exact Or.inl rfl
      right
      obtain ⟨b, off, spot⟩ := a
      have cells : ∀ i, i < len0 → ∀ j, j < 5 → W.cell? ((⟨b, off, spot⟩ : Addr).add (i * 5 + j)) = [Value.int .i64 (q i).op, .int .u64 (q i).c.a, .int .u64 (q i).c.b, .int .u64 (q i).c.c, .int .u64 (q i).c.d][j]? := by
        intro i hi j hj
        obtain ⟨_, _, hcell⟩ := World.cells?_some (hq i hi).1
        have := hcell j hj
        rwa [add_add] at this
      have hspot : spot = none := by
        have := cells 0 h0 0 (by omega)
        simpa [Addr.add] using World.cell?_spot this
      subst hspot
      have plain : ∀ k, (⟨b, off, none⟩ : Addr).add k = ⟨b, off + k, none⟩ := by
        intro k
        rcases k with _ | k <;> simp [Addr.add]
      refine ⟨b, off, rfl, ?_, ?_⟩
      · have := cells 0 h0 0 (by omega)
        rw [plain] at this
        rcases Nat.lt_or_ge b W.heap.size with h' | h'
        · exact h'
        · simp [World.cell?, Array.getElem?_eq_none h'] at this
      · intro i n hn
        have hi : i < len0 := by
          rcases Nat.lt_or_ge i len0 with h' | h'
          · exact h'
          · simp [h'] at hn
        have en : q i = n := by simpa [hi] using hn
        subst en
        have c := cells i hi
        refine ⟨?_, ?_, ?_, ?_, ?_⟩
        · have := c 0 (by omega); rw [plain] at this; simpa [Nat.add_assoc] using this
        · have := c 1 (by omega); rw [plain] at this; simpa [Nat.add_assoc] using this
        · have := c 2 (by omega); rw [plain] at this; simpa [Nat.add_assoc] using this
        · have := c 3 (by omega); rw [plain] at this; simpa [Nat.add_assoc] using this
        · have := c 4 (by omega); rw [plain] at this; simpa [Nat.add_assoc] using this
    · intro n hn
      obtain ⟨i, hi, rfl⟩ := List.mem_map.1 hn
      exact (hq i (List.mem_range.1 hi)).2
end Go.Proofs.Ytmdfdlljeggbbaa
