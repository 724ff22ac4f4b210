/- What the document's own functions answer: Reach at a node without parts. -/
import Derived.Test.YtajkkmnojfghoaaDoorY13
import Derived.Test.YtajkkmnojfghoaaDoorY04
import Derived.Test.YtajkkmnojfghoaaDoorY11
import Derived.Laws.CopyRow
import Derived.Deep.RegionHeld3
import Derived.BigRegion
namespace Go.Proofs.YtajkkmnojfghoaaDoor
set_option linter.unusedSimpArgs false
set_option linter.unusedVariables false
set_option maxRecDepth 100000
open Go.RowKit
/-- B is all that t fits from the places of A. -/
def Img (s : List UInt8) (t : Rx) (A B : Nat → Bool) : Prop := ∀ j, j ≤ s.length → (B j = true ↔ ∃ i, i ≤ s.length ∧ A i = true ∧ Fit s t i j)
/-- What comes out: all that t fits from the places of A. -/
def RchP (w : World) (s : ByteArray) (t : Rx) (A : Nat → Bool) (e : Ending) (w' : World) : Prop := ∃ u B, e = .returned u ∧ Below w.heap.size w w' ∧ BsIn w' u s.size B ∧ Img s.data.toList t A B
/-- Reach at node i answers what t fits. -/
def RchOk (ns : List Nd) (b off cap i : Nat) (s : ByteArray) (t : Rx) : Prop := ∀ (A : Nat → Bool) (v : Value) (w : World), b < w.heap.size → NsAt w b off ns → BsIn w v s.size A →
  Calls Tryd.prog 62 #[.slice (some ⟨b, off, none⟩) ns.length cap, .int .i64 i, .string s, v] w (RchP w s t A)
theorem sl (s : ByteArray) : s.data.toList.length = s.size := Array.length_toList
theorem at_lt {ns : List Nd} {i : Nat} {n : Nd} (hn : ns[i]? = some n) : i < ns.length := by
  rcases Nat.lt_or_ge i ns.length with h' | h'
  · exact h'
  · rw [List.getElem?_eq_none h'] at hn; cases hn
theorem img_empty (s : List UInt8) (n : Nd) (hop : n.op = 2) (A : Nat → Bool) : Img s (.leaf n) A A := by
  intro j hj
  have hF : ∀ i, Fit s (.leaf n) i j ↔ i = j ∧ i ≤ s.length := fun i => by unfold Fit; rw [hop]; simp
  constructor
  · intro h; exact ⟨j, hj, h, (hF j).2 ⟨rfl, hj⟩⟩
  · rintro ⟨i, _, h, hf⟩
    obtain ⟨rfl, _⟩ := (hF i).1 hf
    exact h
theorem img_begin (s : List UInt8) (n : Nd) (hop : n.op = 8) (A : Nat → Bool) : Img s (.leaf n) A (upd (fun _ => false) 0 (A 0)) := by
  intro j hj
  have hF : ∀ i, Fit s (.leaf n) i j ↔ i = 0 ∧ j = 0 := fun i => by unfold Fit; rw [hop]; simp
  unfold upd
  constructor
  · intro h
    split at h
    · rename_i e; exact ⟨0, by omega, h, (hF 0).2 ⟨rfl, e⟩⟩
    · cases h
  · rintro ⟨i, _, h, hf⟩
    obtain ⟨rfl, rfl⟩ := (hF i).1 hf
    rw [if_pos rfl]; exact h
theorem img_end (s : List UInt8) (n : Nd) (hop : n.op = 9) (A : Nat → Bool) : Img s (.leaf n) A (upd (fun _ => false) s.length (A s.length)) := by
  intro j hj
  have hF : ∀ i, Fit s (.leaf n) i j ↔ i = s.length ∧ j = s.length := fun i => by unfold Fit; rw [hop]; simp
  unfold upd
  constructor
  · intro h
    split at h
    · rename_i e; exact ⟨s.length, by omega, h, (hF _).2 ⟨rfl, e⟩⟩
    · cases h
  · rintro ⟨i, _, h, hf⟩
    obtain ⟨rfl, rfl⟩ := (hF i).1 hf
    rw [if_pos rfl]; exact h
/-- What a byte of a class leads to. -/
def byteB (s : List UInt8) (n : Nd) (A : Nat → Bool) (m : Nat) : Nat → Bool := fun j => match j with
  | 0 => false
  | j + 1 => decide (j < m) && (A j && (match s[j]? with | some c => n.c.has c.toNat | none => false))
theorem img_byte (s : List UInt8) (n : Nd) (hop : n.op = 1) (A : Nat → Bool) : Img s (.leaf n) A (byteB s n A s.length) := by
  intro j hj
  have hF : ∀ i, Fit s (.leaf n) i j ↔ ∃ c, s[i]? = some c ∧ n.c.has c.toNat = true ∧ j = i + 1 := fun i => by unfold Fit; rw [hop]; simp
  cases j with
  | zero =>
    constructor
    · intro h; cases h
    · rintro ⟨i, _, _, hf⟩
      obtain ⟨c, _, _, h⟩ := (hF i).1 hf
      omega
  | succ j =>
    have hjl : j < s.length := by omega
    constructor
    · intro h
      simp only [byteB, List.getElem?_eq_getElem hjl, Bool.and_eq_true] at h
      exact ⟨j, by omega, h.2.1, (hF j).2 ⟨s[j], List.getElem?_eq_getElem hjl, h.2.2, rfl⟩⟩
    · rintro ⟨i, _, h, hf⟩
      obtain ⟨c, h1, h2, h3⟩ := (hF i).1 hf
      obtain rfl : i = j := by omega
      simp only [byteB, h1, h, h2, hjl, decide_true, Bool.and_true, Bool.true_and]
theorem new_one (w : World) (o : Obj) : Below w.heap.size w (w.alloc o) := (Below.refl _ _).alloc (Nat.le_refl _) _
set_option maxHeartbeats 4000000 in
theorem reach_begin (ns : List Nd) (b off cap i : Nat) (hl : ns.length ≤ 60) (n : Nd) (hn : ns[i]? = some n) (hop : n.op = 8) (s : ByteArray) (hs : s.size ≤ 1000000) : RchOk ns b off cap i s (.leaf n) := by
  intro A v w hlt hN hA
  have hil := at_lt hn
  obtain ⟨c0, c1, c2, c3, c4⟩ := (hN.below (new_one w (.cells (rowB s.size fun _ => false) 4)) hlt) i n hn
  have HI := hid (img_begin s.data.toList n hop A)
  try rw [sl] at HI
  rw [hop] at c0
  obtain ⟨b1, o1, d1, rfl, l1, hA⟩ := hA
  have a0 : ∀ o, ((w.alloc (.cells (rowB s.size fun _ => false) 4)).alloc o).cell? ⟨b1, o1 + 0, none⟩ = some (.bool (A 0)) := fun o => (hA.below ((new_one w _).trans ((new_one _ o).mono (by simp))) l1) 0 (by omega)
  simp only [Nat.add_zero] at a0
  have HR := fun o => (BsRow.new' w s.size fun _ => false).below (new_one _ o)
  have f0 : ∀ o, ((w.alloc (.cells (rowB s.size fun _ => false) 4)).alloc o).frozen? ⟨w.heap.size, 0, none⟩ = false := fun o => (HR o).free 0
  have g0 : ∀ o, ((w.alloc (.cells (rowB s.size fun _ => false) 4)).alloc o).cell? ⟨w.heap.size, 0, none⟩ = some (.bool false) := fun o => by
    have := (HR o).at 0 (by omega)
    rw [Nat.zero_add] at this
    exact this
  have hmk := mkB s.size hs
  have i0 : (0 : Int) ≤ (i : Int) := by omega
  have i1 : (i : Int) < (ns.length : Int) := by omega
  clear hn hN hA hop HR
  go_enter Tryd.func62, Tryd.ntmps62
  go_wp2
  go_ret
  refine ⟨_, upd (fun _ => false) 0 (A 0), rfl, (new_one w _).trans ((new_one _ _).mono (by simp)), ?_, HI.out⟩
  rw [rowB_set]
  exact ((BsRow.new' w s.size _).below (new_one _ _)).isIn _
set_option maxHeartbeats 4000000 in
theorem reach_end (ns : List Nd) (b off cap i : Nat) (hl : ns.length ≤ 60) (n : Nd) (hn : ns[i]? = some n) (hop : n.op = 9) (s : ByteArray) (hs : s.size ≤ 1000000) : RchOk ns b off cap i s (.leaf n) := by
  intro A v w hlt hN hA
  have hil := at_lt hn
  obtain ⟨c0, c1, c2, c3, c4⟩ := (hN.below (new_one w (.cells (rowB s.size fun _ => false) 4)) hlt) i n hn
  have HI := hid (img_end s.data.toList n hop A)
  try rw [sl] at HI
  rw [hop] at c0
  obtain ⟨b1, o1, d1, rfl, l1, hA⟩ := hA
  have a0 : ∀ o, ((w.alloc (.cells (rowB s.size fun _ => false) 4)).alloc o).cell? ⟨b1, o1 + s.size, none⟩ = some (.bool (A s.size)) := fun o => (hA.below ((new_one w _).trans ((new_one _ o).mono (by simp))) l1) s.size (by omega)
  skip
  have HR := fun o => (BsRow.new' w s.size fun _ => false).below (new_one _ o)
  have f0 : ∀ o, ((w.alloc (.cells (rowB s.size fun _ => false) 4)).alloc o).frozen? ⟨w.heap.size, s.size, none⟩ = false := fun o => (HR o).free s.size
  have g0 : ∀ o, ((w.alloc (.cells (rowB s.size fun _ => false) 4)).alloc o).cell? ⟨w.heap.size, s.size, none⟩ = some (.bool false) := fun o => by
    have := (HR o).at s.size (by omega)
    rw [Nat.zero_add] at this
    exact this
  have hmk := mkB s.size hs
  have i0 : (0 : Int) ≤ (i : Int) := by omega
  have i1 : (i : Int) < (ns.length : Int) := by omega
  clear hn hN hA hop HR
  go_enter Tryd.func62, Tryd.ntmps62
  go_wp2
  go_ret
  refine ⟨_, upd (fun _ => false) s.size (A s.size), rfl, (new_one w _).trans ((new_one _ _).mono (by simp)), ?_, HI.out⟩
  rw [rowB_set]
  exact ((BsRow.new' w s.size _).below (new_one _ _)).isIn _
theorem below_setRow {B : Nat} {w w1 : World} (h : Below B w w1) {g : Nat} (hg : B ≤ g) (c : Array Value) : Below B w (w1.setRow g c) := by
  refine ⟨h.os, h.tape, h.output, by simpa [World.setRow] using h.size, fun k hk => ?_⟩
  rw [← h.block k hk]
  simp [World.setRow, Array.getElem?_modify, show ¬ g = k by omega]
theorem rowB_list (N : Nat) (A : Nat → Bool) (C : Array Value) (h : C.size = N + 1) : (C.toList.take 0 ++ ((List.range (N + 1)).map fun i => Value.bool (A i)) ++ C.toList.drop (0 + ((List.range (N + 1)).map fun i => Value.bool (A i)).length)).toArray = rowB N A := by
  rw [List.drop_eq_nil_of_le (by simp; omega)]
  simp [rowB]
set_option maxHeartbeats 4000000 in
theorem reach_empty (ns : List Nd) (b off cap i : Nat) (hl : ns.length ≤ 60) (n : Nd) (hn : ns[i]? = some n) (hop : n.op = 2) (s : ByteArray) (hs : s.size ≤ 1000000) : RchOk ns b off cap i s (.leaf n) := by
  intro A v w hlt hN hA
  have hil := at_lt hn
  obtain ⟨c0, c1, c2, c3, c4⟩ := (hN.below ((Below.refl w.heap.size w).alloc (Nat.le_refl _) (.cells (rowB s.size fun _ => false) 4)) hlt) i n hn
  have HI := hid (img_empty s.data.toList n hop A)
  rw [hop] at c0
  obtain ⟨b1, o1, d1, rfl, l1, hA⟩ := hA
  have HR := fun o => (BsRow.new' w s.size fun _ => false).below (new_one _ o)
  have hmk := mkB s.size hs
  have hcp : ∀ o, (Builtin.copy_ #[95, 95] 3 #[.slice (some ⟨w.heap.size, 0, none⟩) (s.size + 1) (s.size + 1), .slice (some ⟨b1, o1, none⟩) (s.size + 1) d1]).run Tryd.prog ((w.alloc (.cells (rowB s.size fun _ => false) 4)).alloc o) = .ok (goInt (s.size + 1)) (((w.alloc (.cells (rowB s.size fun _ => false) 4)).alloc o).setRow w.heap.size (rowB s.size A)) := by
    intro o
    have h := run_copy_row (P := Tryd.prog) ((w.alloc (.cells (rowB s.size fun _ => false) 4)).alloc o) 95 95 3 4 w.heap.size 0 (s.size + 1) (s.size + 1) ⟨b1, o1, none⟩ (s.size + 1) d1 (rowB s.size fun _ => false) 4 ((List.range (s.size + 1)).map fun i => Value.bool (A i)) Tryd.underlying95 (by kernel_rfl) (HR o) (by simp) (by
      intro j u hj
      have hjl : j < s.size + 1 := by
        rcases Nat.lt_or_ge j (s.size + 1) with h' | h'
        · exact h'
        · rw [List.getElem?_eq_none (by simpa using h')] at hj; cases hj
      simp [List.getElem?_range hjl] at hj
      subst hj
      rw [Addr.add_lit]
      exact (hA.below ((new_one w _).trans ((new_one _ o).mono (by simp))) l1) j (by omega)) (by simp [rowB]) (by simp [Value.oneCell'])
    rw [rowB_list s.size A _ (by simp [rowB])] at h
    simpa using h
  have i0 : (0 : Int) ≤ (i : Int) := by omega
  have i1 : (i : Int) < (ns.length : Int) := by omega
  have HR' := hid HR
  clear hn hN hA hop HR
  go_enter Tryd.func62, Tryd.ntmps62
  go_wp2
  go_ret
  exact ⟨_, A, rfl, below_setRow ((new_one w _).trans ((new_one _ _).mono (by simp))) (Nat.le_refl _) _, BsRow.isIn (setRow_heap _ _ _ _ _ _ (HR'.out _)) _, HI.out⟩
theorem heap_new (w : World) (o : Obj) : (w.alloc o).heap[w.heap.size]? = some o := by
  show (w.heap.push _)[w.heap.size]? = _
  simp
theorem BsRow.congr' {w : World} {b g N : Nat} {A B : Nat → Bool} (h : BsRow w b N A) (hg : g = b) (he : ∀ i, i ≤ N → A i = B i) : BsRow w g N B := hg ▸ h.congr he
/-- How it stands while the bytes are gone through. -/
structure ByR (w : World) (g b1 o1 : Nat) (s : ByteArray) (n : Nd) (A : Nat → Bool) (k : Nat) (wr : World) : Prop where
  row : BsRow wr g s.size (byteB s.data.toList n A k)
  nd : wr.heap[g + 1]? = some (.cells #[.int .i64 1, .int .u64 n.c.a, .int .u64 n.c.b, .int .u64 n.c.c, .int .u64 n.c.d] 56 (0, 0))
  frm : BsAt wr b1 o1 s.size A
  b : Below w.heap.size w wr
  lt : b1 < g
  gw : g = w.heap.size
theorem ByR.low {w : World} {g b1 o1 : Nat} {s : ByteArray} {n : Nd} {A : Nat → Bool} {k : Nat} {wr w3 : World} (h : ByR w g b1 o1 s n A k wr) (hb : Below wr.heap.size wr w3) : ByR w g b1 o1 s n A k w3 := by
  have h1 := h.row.lt
  have h2 := h.lt
  have h3 : g + 1 < wr.heap.size := by
    rcases Nat.lt_or_ge (g + 1) wr.heap.size with h' | h'
    · exact h'
    · have := h.nd; rw [Array.getElem?_eq_none h'] at this; cases this
  exact ⟨h.row.below hb, (hb.block _ h3).trans h.nd, h.frm.below hb (by omega), h.b.trans (hb.mono h.b.size), h.lt, h.gw⟩
theorem ByR.sup {w : World} {g b1 o1 : Nat} {s : ByteArray} {n : Nd} {A : Nat → Bool} {k : Nat} {wr : World} (h : ByR w g b1 o1 s n A k wr) (i : Nat) (v : Value) : (wr.setCell ⟨g, i, none⟩ v).heap[g + 1]? = some (.cells #[.int .i64 1, .int .u64 n.c.a, .int .u64 n.c.b, .int .u64 n.c.c, .int .u64 n.c.d] 56 (0, 0)) ∧ BsAt (wr.setCell ⟨g, i, none⟩ v) b1 o1 s.size A := by
  have hl := h.lt
  have hb : Below g wr (wr.setCell ⟨g, i, none⟩ v) := (Below.refl g wr).setCell (p := ⟨g, i, none⟩) (Nat.le_refl _) v
  refine ⟨?_, h.frm.below hb hl⟩
  rw [← h.nd]
  simp [World.setCell, Array.getElem?_modify]
theorem byteB_step (s : List UInt8) (n : Nd) (A : Nat → Bool) (k : Nat) (c : UInt8) (hc : s[k]? = some c) (j : Nat) : upd (byteB s n A k) (k + 1) (A k && n.c.has c.toNat) j = byteB s n A (k + 1) j := by
  unfold upd
  cases j with
  | zero => rw [if_neg (by omega)]; rfl
  | succ j =>
    by_cases e : j = k
    · subst e
      simp [byteB, hc]
    · rw [if_neg (by omega)]
      simp only [byteB]
      congr 1
      exact decide_eq_decide.2 (by omega)
theorem ByR.step {w : World} {g b1 o1 : Nat} {s : ByteArray} {n : Nd} {A : Nat → Bool} {k : Nat} {wr : World} (h : ByR w g b1 o1 s n A k wr) (c : UInt8) (hc : s.data.toList[k]? = some c) (x : Bool) (hx : x = (A k && n.c.has c.toNat)) : ByR w g b1 o1 s n A (k + 1) (wr.setCell ⟨g, k + 1, none⟩ (.bool x)) := by
  subst hx
  have hq := h.sup (k + 1) (.bool (A k && n.c.has c.toNat))
  exact ⟨(h.row.set (k + 1) _).congr fun i hi => byteB_step _ n A k c hc i, hq.1, hq.2, h.b.setCell (p := ⟨g, k + 1, none⟩) (by rw [h.gw]; exact Nat.le_refl _) _, h.lt, h.gw⟩
/-- The cells that one round reads. -/
def ByC (w : World) (g b1 o1 k : Nat) (x : Bool) (n : Nd) : Prop := w.cell? ⟨b1, o1 + k, none⟩ = some (.bool x) ∧ w.cell? ⟨g + 1, 1, none⟩ = some (.int .u64 n.c.a) ∧ w.cell? ⟨g + 1, 2, none⟩ = some (.int .u64 n.c.b) ∧ w.cell? ⟨g + 1, 3, none⟩ = some (.int .u64 n.c.c) ∧ w.cell? ⟨g + 1, 4, none⟩ = some (.int .u64 n.c.d)
theorem byC_of {w : World} {g b1 o1 N k : Nat} {n : Nd} {A : Nat → Bool} (h1 : w.heap[g + 1]? = some (.cells #[.int .i64 1, .int .u64 n.c.a, .int .u64 n.c.b, .int .u64 n.c.c, .int .u64 n.c.d] 56 (0, 0))) (h2 : BsAt w b1 o1 N A) (hk : k ≤ N) : ByC w g b1 o1 k (A k) n := by
  refine ⟨h2 k hk, ?_, ?_, ?_, ?_⟩ <;> (rw [Lib.cell_of_heap h1]; rfl)
theorem ByR.all {w : World} {g b1 o1 : Nat} {s : ByteArray} {n : Nd} {A : Nat → Bool} {k : Nat} {wr : World} (h : ByR w g b1 o1 s n A k wr) (hk : k < s.size) : ByC wr g b1 o1 k (A k) n ∧ (∀ v, ByC (wr.setCell ⟨g, k + 1, none⟩ v) g b1 o1 k (A k) n) ∧ wr.cell? ⟨g, k + 1, none⟩ = some (.bool (byteB s.data.toList n A k (k + 1))) ∧ wr.frozen? ⟨g, k + 1, none⟩ = false := by
  refine ⟨byC_of h.nd h.frm (by omega), fun v => byC_of (h.sup (k + 1) v).1 (h.sup (k + 1) v).2 (by omega), ?_, h.row.free _⟩
  have := h.row.at (k + 1) (by omega)
  rw [Nat.zero_add] at this
  exact this
theorem str_idx' (s : ByteArray) (a : Nat) (c : UInt8) (h : s.data.toList[a]? = some c) (w : World) : (Instr.index 9 (.string s) (.int .i64 (a : Int))).run Tryd.prog w = .ok (.int .u8 (c.toNat : Int)) w := by
  have hl : a < s.data.toList.length := by
    rcases Nat.lt_or_ge a s.data.toList.length with h' | h'
    · exact h'
    · rw [List.getElem?_eq_none h'] at h; cases h
  have hs : a < s.size := by rw [← sl]; exact hl
  rw [run_index_string w 9 s .i64 (a : Int) Tryd.underlying9, dif_pos ⟨by omega, by omega⟩]
  rw [List.getElem?_eq_getElem hl] at h
  have e : s[(a : Int).toNat]'(by simpa using hs) = c := by
    exact Option.some.inj h
  rw [e]
set_option maxHeartbeats 8000000 in
theorem reach_byte (ns : List Nd) (b off cap i : Nat) (hl : ns.length ≤ 60) (n : Nd) (hn : ns[i]? = some n) (hop : n.op = 1) (hok : n.c.ok) (s : ByteArray) (hs : s.size ≤ 1000000) : RchOk ns b off cap i s (.leaf n) := by
  intro A v w hlt hN hA
  have hil := at_lt hn
  obtain ⟨c0, c1, c2, c3, c4⟩ := (hN.below (new_one w (.cells (rowB s.size fun _ => false) 4)) hlt) i n hn
  have HI := hid (img_byte s.data.toList n hop A)
  rw [sl] at HI
  rw [hop] at c0
  obtain ⟨b1, o1, d1, rfl, l1, hA⟩ := hA
  have hmk := mkB s.size hs
  have i0 : (0 : Int) ≤ (i : Int) := by omega
  have i1 : (i : Int) < (ns.length : Int) := by omega
  obtain ⟨g, hg⟩ : ∃ g, g = w.heap.size := ⟨_, rfl⟩
  clear hn hN hop
  go_enter Tryd.func62, Tryd.ntmps62
  go_wp2
  rw [← hg]
  have HG := hid hg
  have HNew : Hid (ByR w g b1 o1 s n A 0 ((w.alloc (.cells (rowB s.size fun _ => false) 4)).alloc (.cells #[.int .i64 1, .int .u64 n.c.a, .int .u64 n.c.b, .int .u64 n.c.c, .int .u64 n.c.d] 56))) := by
    have hB := (new_one w (.cells (rowB s.size fun _ => false) 4)).trans ((new_one (w.alloc (.cells (rowB s.size fun _ => false) 4)) (.cells #[.int .i64 1, .int .u64 n.c.a, .int .u64 n.c.b, .int .u64 n.c.c, .int .u64 n.c.d] 56)).mono (by simp))
    refine ⟨((BsRow.new' w s.size fun _ => false).below (new_one _ _)).congr' hg ?_, ?_, hA.below hB l1, hB, by omega, hg⟩
    · intro j hj; cases j <;> simp [byteB]
    · rw [hg]
      have e : (w.alloc (.cells (rowB s.size fun _ => false) 4)).heap.size = w.heap.size + 1 := by simp
      rw [← e]
      exact heap_new _ _
  clear hA hmk hg c0 c1 c2 c3 c4
  have HW := hid hok
  clear hok
  go_loopw [11] (fun v wr => ∃ k : Nat, k ≤ s.size ∧ v = .int .i64 k ∧ ByR w g b1 o1 s n A k wr) (fun v _ => s.size - (intOf v).toNat)
  case atStart => exact ⟨0, by omega, rfl, HNew.out⟩
  case round =>
    clear HNew
    obtain ⟨k, hk, rfl, hR⟩ := hrel
    by_cases hkl : k < s.size
    · obtain ⟨c, hc⟩ : ∃ c, s.data.toList[k]? = some c := ⟨s.data.toList[k]'(by rw [sl]; exact hkl), List.getElem?_eq_getElem _⟩
      have hsi := str_idx' s k c hc
      have HCc := hid hc
      have k0 : (0 : Int) ≤ (k : Int) := by omega
      have k1 : (k : Int) < (s.size : Int) := by omega
      have k2 : (k : Int) + 1 < (s.size : Int) + 1 := by omega
      have k3 : (0 : Int) ≤ (k : Int) + 1 := by omega
      have k4 : (k : Int) < (s.size : Int) + 1 := by omega
      have k5 : IntKind.i64.wrap ((k : Int) + 1) = (k : Int) + 1 := by rw [IntKind.wrap_i64]; omega
      have HR := hid (hR.low (Below.drew (Below.refl _ wr)))
      have HIn := hid (in_any n.c HW.out c.toNat c.toNat_lt)
      have hcc : IntKind.i64.wrap (c.toNat : Int) = (c.toNat : Int) := by have := c.toNat_lt; rw [IntKind.wrap_i64]; omega
      obtain ⟨⟨q1, q2, q3, q4, q5⟩, hset, q6, q7⟩ := hR.all hkl
      have hs1 := fun v => (hset v).1
      have hs2 := fun v => (hset v).2.1
      have hs3 := fun v => (hset v).2.2.1
      have hs4 := fun v => (hset v).2.2.2.1
      have hs5 := fun v => (hset v).2.2.2.2
      have HRb := hid hR
      clear hc hR hset
      cases hx : A k
      · rw [hx] at q1
        simp only [hx] at hs1
        have HX := hid hx
        clear hx
        go_wp2_with fail
        go_big_region
        all_goals go_wp2
        all_goals exact ⟨⟨k + 1, by omega, by go_num, (HRb.out.step c HCc.out false (by rw [HX.out]; rfl)).low (Below.drew (Below.refl _ _))⟩, by simp [intOf]; omega⟩
      · rw [hx] at q1
        simp only [hx] at hs1
        have HX := hid hx
        have HK := hid (fun w3 hb3 => (HR.out.low hb3).all hkl (wr := w3))
        clear hx
        go_wp2_with fail
        go_region_with (first | (go_at_call 21; refine Calls.mono (HIn.out _) ?_; rintro e w3 ⟨rfl, hb3⟩; obtain ⟨⟨r1, r2, r3, r4, r5⟩, _, r6, r7⟩ := HK.out _ hb3))
        all_goals go_wp2
        all_goals exact ⟨⟨k + 1, by omega, by go_num, (HR.out.low hb3).step c HCc.out _ (by rw [HX.out, Bool.true_and])⟩, by simp [intOf]; omega⟩
    · obtain rfl : k = s.size := by omega
      have HR := hid hR
      clear hR
      go_wp2
      go_ret
      exact ⟨_, _, rfl, HR.out.b, HR.out.row.isIn _, HI.out⟩
end Go.Proofs.YtajkkmnojfghoaaDoor
