/- The program of a pattern as a value that may be; the program of one letter: plain mathematics. The program of one letter, run. Lists of texts as arguments: opened. Lists of numbers as arguments: opened. What the document's own functions (package winnowfanref1) answer: In, With, OfText, Others, Count. What the document's own functions answer: Count. What the document's own Count answers, as a class is none. What the document's own functions answer: StepsFault. (Made by wip/tools/genstf.py.) -/
import Derived.Test.YtjhlfiljdohcoaaDoorY05
import Derived.Test.YtjhlfiljdohcoaaDoorY03
import Derived.Test.YtjhlfiljdohcoaaDoorY02
import Derived.Lib.SmallJoins
import Derived.Test.YtjhlfiljdohcoaaDoorY01
namespace Go.Proofs.YtjhlfiljdohcoaaDoor
set_option linter.unusedSimpArgs false
set_option linter.unusedVariables false
set_option maxRecDepth 100000
open Go.RowKit
theorem cod_cls : ∀ (t : Rx) (p : Nat), ∀ m ∈ t.cod p, m.c = z4 ∨ ∃ n ∈ t.flat, m.c = n.c
  | .leaf n, p => by
    intro m hm
    simp only [Rx.cod] at hm
    split at hm
    · simp at hm; subst hm; exact Or.inr ⟨n, by simp [Rx.flat], rfl⟩
    · split at hm
      · simp at hm; subst hm; exact Or.inl rfl
      · split at hm
        · simp at hm; subst hm; exact Or.inl rfl
        · cases hm
  | .one n a, p => by
    intro m hm
    have h : ∀ q, m ∈ a.cod q → m.c = z4 ∨ ∃ n' ∈ (Rx.one n a).flat, m.c = n'.c := fun q hq => by
      rcases cod_cls a q m hq with h | ⟨n', h1, h2⟩
      · exact Or.inl h
      · exact Or.inr ⟨n', by simp [Rx.flat, h1], h2⟩
    simp only [Rx.cod] at hm
    split at hm
    · simp only [List.mem_cons, List.mem_append, List.not_mem_nil, or_false] at hm
      rcases hm with rfl | hm | rfl
      · exact Or.inl rfl
      · exact h _ hm
      · exact Or.inl rfl
    · split at hm
      · simp only [List.mem_cons, List.mem_append, List.not_mem_nil, or_false] at hm
        rcases hm with hm | rfl
        · exact h _ hm
        · exact Or.inl rfl
      · simp only [List.mem_cons] at hm
        rcases hm with rfl | hm
        · exact Or.inl rfl
        · exact h _ hm
  | .two n a b, p => by
    intro m hm
    have ha : ∀ q, m ∈ a.cod q → m.c = z4 ∨ ∃ n' ∈ (Rx.two n a b).flat, m.c = n'.c := fun q hq => by
      rcases cod_cls a q m hq with h | ⟨n', h1, h2⟩
      · exact Or.inl h
      · exact Or.inr ⟨n', by simp [Rx.flat, h1], h2⟩
    have hb : ∀ q, m ∈ b.cod q → m.c = z4 ∨ ∃ n' ∈ (Rx.two n a b).flat, m.c = n'.c := fun q hq => by
      rcases cod_cls b q m hq with h | ⟨n', h1, h2⟩
      · exact Or.inl h
      · exact Or.inr ⟨n', by simp [Rx.flat, h1], h2⟩
    simp only [Rx.cod] at hm
    split at hm
    · rcases List.mem_append.1 hm with hm | hm
      · exact ha _ hm
      · exact hb _ hm
    · simp only [List.mem_cons, List.mem_append] at hm
      rcases hm with rfl | hm | rfl | hm
      · exact Or.inl rfl
      · exact ha _ hm
      · exact Or.inl rfl
      · exact hb _ hm
theorem z4_wf : z4.wf := ⟨by decide, by decide, by decide, by decide⟩
theorem int_wf {z : Int} (h0 : -9223372036854775808 ≤ z) (h1 : z ≤ 9223372036854775807) : (Lit.int .i64 z).wf = true := by
  have e1 : IntKind.i64.min = -9223372036854775808 := by decide
  have e2 : IntKind.i64.max = 9223372036854775807 := by decide
  simp only [Lit.wf, e1, e2, h0, h1, decide_true, Bool.and_self]
theorem prog_wf (t : Rx) (hl : t.flat.length ≤ 60) (hw : ∀ n ∈ t.flat, n.wf) : ∀ m ∈ t.prog, m.wf := by
  intro m hm
  have hc := t.cod_len 0
  unfold Rx.prog at hm
  rcases List.mem_append.1 hm with hm | hm
  · obtain ⟨h1, h2, h3, _, _⟩ := cod_ok t 0 m hm
    refine ⟨int_wf (by omega) (by omega), ?_, int_wf (by omega) (by omega), int_wf (by omega) (by omega)⟩
    rcases cod_cls t 0 m hm with h | ⟨n, hn, h⟩
    · rw [h]; exact z4_wf
    · rw [h]; exact (hw n hn).2
  · rw [List.mem_singleton] at hm
    subst hm
    exact ⟨by decide, z4_wf, by decide, by decide⟩
/-- The pattern that is the letter a. -/
abbrev tA : Rx := .leaf ⟨1, kA⟩
theorem tA_ok : tA.Ok := rfl
theorem kA_wf : kA.wf := ⟨by decide, by decide, by decide, by decide⟩
theorem tA_wf : ∀ n ∈ tA.flat, n.wf := by
  intro n hn
  simp [Rx.flat] at hn
  subst hn
  exact ⟨by decide, kA_wf⟩
theorem tA_fault : faultL tA.flat = 0 := by
  rw [faultL_zero]
  refine ⟨by simp [Rx.flat], ?_, ?_⟩
  · intro n hn
    simp [Rx.flat] at hn
    subst hn
    exact ⟨by simp, Or.inl rfl⟩
  · have := endF_flat tA tA_ok [] [] (tA.flat.length + 1) (by omega)
    simpa [endE] using this
theorem tA_ab : EndsR [97, 98] tA 0 [1] := by
  refine ⟨by simp, fun j => ?_⟩
  simp only [Fit, if_true, List.mem_singleton]
  constructor
  · rintro rfl
    exact ⟨97, rfl, kA_ok.2, rfl⟩
  · rintro ⟨c, _, _, h⟩
    omega
theorem tA_a : EndsR [97] tA 0 [1] := by
  refine ⟨by simp, fun j => ?_⟩
  simp only [Fit, if_true, List.mem_singleton]
  constructor
  · rintro rfl
    exact ⟨97, rfl, kA_ok.2, rfl⟩
  · rintro ⟨c, _, _, h⟩
    omega
end Go.Proofs.YtjhlfiljdohcoaaDoor
namespace Go.Proofs.YtjhlfiljdohcoaaDoor
set_option linter.unusedSimpArgs false
set_option linter.unusedVariables false
set_option maxRecDepth 100000
open Go.RowKit
theorem nsIn_one (w : World) (n : Nd) : NsIn (w.alloc (.cells #[.int .i64 n.op, .int .u64 n.c.a, .int .u64 n.c.b, .int .u64 n.c.c, .int .u64 n.c.d] 33)) (.slice (some ⟨w.heap.size, 0, none⟩) 1 1) [n] := by
  refine ⟨_, 1, rfl, by simp [maxLen], Or.inr ⟨w.heap.size, 0, rfl, by simp, ?_⟩⟩
  intro i m hm
  cases i with
  | zero =>
    simp at hm
    subst hm
    refine ⟨?_, ?_, ?_, ?_, ?_⟩ <;> simp
  | succ i => simp at hm
theorem isIn_one (w : World) (x : Nat) : IsIn (w.alloc (.cells #[.int .i64 (x : Int)] 3)) (.slice (some ⟨w.heap.size, 0, none⟩) 1 1) [x] := by
  refine ⟨_, 1, rfl, by simp [maxLen], Or.inr ⟨w.heap.size, 0, rfl, by simp, ?_⟩⟩
  intro i m hm
  cases i with
  | zero =>
    simp at hm
    subst hm
    simp
  | succ i => simp at hm
/-- The program of the letter a, run. -/
theorem tA_run {X : World → Prop} (P : SimC X) (s : ByteArray) (hs : s.size ≤ 400) (hl : EndsR s.data.toList tA 0 [1]) (v : Value) (w : World) (hX : X w) (h : SsIn w v tA.prog) :
    Calls Tryd.prog 9 #[v, .string s, .int .i64 0] w fun e w' => ∃ u, e = .returned (.tuple #[u, .nilIface]) ∧ Below w.heap.size w w' ∧ IsIn w' u [1] := by
  have hz : simE tA.prog s.size (0 : Nat) = 0 := (simE_zero _ _ _).2 ⟨prog_fault tA (by simp [Rx.flat]), hs, by simp, by simp⟩
  exact P.ends tA.prog v s 0 [1] w hX h (prog_wf tA (by simp [Rx.flat]) tA_wf) hz ((run_ends tA tA_ok (fun n hn => by simp [Rx.flat] at hn; subst hn; simp) s.data.toList 0 (Nat.zero_le _) [1]).2 hl)
/-- Its greatest end. -/
theorem tA_long {X : World → Prop} (L : SimL X) (s : ByteArray) (hs : s.size ≤ 400) (hl : EndsR s.data.toList tA 0 [1]) (v : Value) (w : World) (hX : X w) (h : SsIn w v tA.prog) :
    Calls Tryd.prog 13 #[v, .string s, .int .i64 0] w fun e w' => e = .returned (.tuple #[.int .i64 1, .nilIface]) ∧ Below w.heap.size w w' := by
  have hz : simE tA.prog s.size (0 : Nat) = 0 := (simE_zero _ _ _).2 ⟨prog_fault tA (by simp [Rx.flat]), hs, by simp, by simp⟩
  exact L.long tA.prog v s 0 [1] w hX h (prog_wf tA (by simp [Rx.flat]) tA_wf) hz ((run_ends tA tA_ok (fun n hn => by simp [Rx.flat] at hn; subst hn; simp) s.data.toList 0 (Nat.zero_le _) [1]).2 hl)
end Go.Proofs.YtjhlfiljdohcoaaDoor
namespace Go.Proofs.YtjhlfiljdohcoaaDoor
set_option linter.unusedSimpArgs false
set_option linter.unusedVariables false
set_option maxRecDepth 100000
open Go.ChangeShapes Go.WideShapes Go.ChangeAt Go.RowKit Go.Deep Go.Joins

/-- A slice that reads as the texts ts. -/
def TsIn (w : World) (v : Value) (ts : List ByteArray) : Prop := ∃ a cap, v = .slice a ts.length cap ∧ ts.length ≤ maxLen ∧ (ts = [] ∨ ∃ b off, a = some ⟨b, off, none⟩ ∧ b < w.heap.size ∧ ∀ i t, ts[i]? = some t → w.cell? ⟨b, off + i, none⟩ = some (.string t))
theorem TsIn.below {w w' : World} {v : Value} {ts : List ByteArray} (h : TsIn w v ts) (hb : Below w.heap.size w w') : TsIn w' v ts := by
  obtain ⟨a, cap, rfl, hm, h | ⟨b, off, rfl, hlt, hn⟩⟩ := h
  · exact ⟨a, cap, rfl, hm, Or.inl h⟩
  · exact ⟨_, cap, rfl, hm, Or.inr ⟨b, off, rfl, Nat.lt_of_lt_of_le hlt hb.size, fun i t ht => (hb.cell (p := ⟨b, _, none⟩) hlt).trans (hn i t ht)⟩⟩
theorem open_texts {H : Type} {enc : TypeId × Value → H} {W : World} {base : Nat} {sp : Nat → Bool} {held : Bool} {v : Value} {d : DataW H} {p : List MemPlace}
    (hval : Value.okWide Tryd.prog W .any base 50 v) (h : DataW.Trod enc Tryd.prog W 0 sp held 50 v d p) : ∃ ts : List ByteArray, TsIn W v ts ∧ ∀ t ∈ ts, t.size ≤ maxLen := by
  have hce : Tryd.prog.cellsOf 9 = 1 := by kernel_rfl
  obtain ⟨a0, len0, cap0, rfl⟩ := okWide_slice Tryd.underlying50 hval
  obtain ⟨fuel, hf⟩ := h
  rcases open_slice Tryd.underlying50 hf with ⟨hc, _⟩ | ⟨a, len, cap, m, n, D, Pl, hc, hb, hl, hm, hmm, _, hx⟩
  · simp [Value.cells] at hc
    obtain ⟨rfl, rfl, rfl⟩ := hc
    exact ⟨[], ⟨none, 0, rfl, by simp, Or.inl rfl⟩, by simp⟩
  · simp [Value.cells] at hc
    obtain ⟨rfl, rfl, rfl⟩ := hc
    have hlm : len0 ≤ m := by rw [hmm]; split <;> omega
    have each : ∀ i, i < len0 → ∃ t : ByteArray, W.cells? 0 (a.add (i * 1)) 1 = some [.string t] ∧ t.size ≤ maxLen := by
      intro i hi
      obtain ⟨cs', h1, h2⟩ := hx i (by omega)
      rw [hce] at h1
      obtain ⟨t, rfl, _, hw⟩ := DataW.trod_string Tryd.underlying9 h2
      exact ⟨t, h1, hw⟩
    obtain ⟨q, hq⟩ := choose_lt each
    refine ⟨(List.range len0).map q, ⟨some a, cap0, by simp, by simp; omega, ?_⟩, ?_⟩
    · rcases Nat.eq_zero_or_pos len0 with h0 | h0
      · subst h0; exact Or.inl rfl
      right
      obtain ⟨b, off, spot⟩ := a
      have cells : ∀ i, i < len0 → W.cell? ((⟨b, off, spot⟩ : Addr).add i) = some (.string (q i)) := by
        intro i hi
        obtain ⟨_, _, hcell⟩ := World.cells?_some (hq i hi).1
        have := hcell 0 (by omega)
        rw [add_add, Nat.mul_one, Nat.add_zero] at this
        simpa using this
      have hspot : spot = none := by
        have := cells 0 h0
        simpa [Addr.add] using World.cell?_spot this
      subst hspot
      have plain : ∀ k, (⟨b, off, none⟩ : Addr).add k = ⟨b, off + k, none⟩ := by
        intro k
        rcases k with _ | k <;> simp [Addr.add]
      refine ⟨b, off, rfl, ?_, ?_⟩
      · have := cells 0 h0
        rw [plain] at this
        rcases Nat.lt_or_ge b W.heap.size with h' | h'
        · exact h'
        · simp [World.cell?, Array.getElem?_eq_none h'] at this
      · intro i t ht
        have hi : i < len0 := by
          rcases Nat.lt_or_ge i len0 with h' | h'
          · exact h'
          · simp [h'] at ht
        have et : q i = t := by simpa [hi] using ht
        subst et
        have := cells i hi
        rwa [plain] at this
    · intro t ht
      obtain ⟨i, hi, rfl⟩ := List.mem_map.1 ht
      exact (hq i (List.mem_range.1 hi)).2
end Go.Proofs.YtjhlfiljdohcoaaDoor
namespace Go.Proofs.YtjhlfiljdohcoaaDoor
set_option linter.unusedSimpArgs false
set_option linter.unusedVariables false
set_option maxRecDepth 100000
open Go.ChangeShapes Go.WideShapes Go.ChangeAt Go.RowKit Go.Deep Go.Joins

/-- A slice that reads as the numbers zs. -/
def ZsIn (w : World) (v : Value) (zs : List Int) : Prop := ∃ a cap, v = .slice a zs.length cap ∧ zs.length ≤ maxLen ∧ (zs = [] ∨ ∃ b off, a = some ⟨b, off, none⟩ ∧ b < w.heap.size ∧ ∀ i z, zs[i]? = some z → w.cell? ⟨b, off + i, none⟩ = some (.int .i64 z))
theorem ZsIn.below {w w' : World} {v : Value} {zs : List Int} (h : ZsIn w v zs) (hb : Below w.heap.size w w') : ZsIn w' v zs := by
  obtain ⟨a, cap, rfl, hm, h | ⟨b, off, rfl, hlt, hn⟩⟩ := h
  · exact ⟨a, cap, rfl, hm, Or.inl h⟩
  · exact ⟨_, cap, rfl, hm, Or.inr ⟨b, off, rfl, Nat.lt_of_lt_of_le hlt hb.size, fun i t ht => (hb.cell (p := ⟨b, _, none⟩) hlt).trans (hn i t ht)⟩⟩
theorem open_numbers {H : Type} {enc : TypeId × Value → H} {W : World} {base : Nat} {sp : Nat → Bool} {held : Bool} {v : Value} {d : DataW H} {p : List MemPlace}
    (hval : Value.okWide Tryd.prog W .any base 34 v) (h : DataW.Trod enc Tryd.prog W 0 sp held 34 v d p) : ∃ ts : List Int, ZsIn W v ts ∧ ∀ t ∈ ts, (Lit.int .i64 t).wf = true := by
  have hce : Tryd.prog.cellsOf 3 = 1 := by kernel_rfl
  obtain ⟨a0, len0, cap0, rfl⟩ := okWide_slice Tryd.underlying34 hval
  obtain ⟨fuel, hf⟩ := h
  rcases open_slice Tryd.underlying34 hf with ⟨hc, _⟩ | ⟨a, len, cap, m, n, D, Pl, hc, hb, hl, hm, hmm, _, hx⟩
  · simp [Value.cells] at hc
    obtain ⟨rfl, rfl, rfl⟩ := hc
    exact ⟨[], ⟨none, 0, rfl, by simp, Or.inl rfl⟩, by simp⟩
  · simp [Value.cells] at hc
    obtain ⟨rfl, rfl, rfl⟩ := hc
    have hlm : len0 ≤ m := by rw [hmm]; split <;> omega
    have each : ∀ i, i < len0 → ∃ t : Int, W.cells? 0 (a.add (i * 1)) 1 = some [.int .i64 t] ∧ (Lit.int .i64 t).wf = true := by
      intro i hi
      obtain ⟨cs', h1, h2⟩ := hx i (by omega)
      rw [hce] at h1
      obtain ⟨t, rfl, _, hw⟩ := DataW.trod_int Tryd.underlying3 h2
      exact ⟨t, h1, hw⟩
    obtain ⟨q, hq⟩ := choose_lt each
    refine ⟨(List.range len0).map q, ⟨some a, cap0, by simp, by simp; omega, ?_⟩, ?_⟩
    · rcases Nat.eq_zero_or_pos len0 with h0 | h0
      · subst h0; exact Or.inl rfl
      right
      obtain ⟨b, off, spot⟩ := a
      have cells : ∀ i, i < len0 → W.cell? ((⟨b, off, spot⟩ : Addr).add i) = some (.int .i64 (q i)) := by
        intro i hi
        obtain ⟨_, _, hcell⟩ := World.cells?_some (hq i hi).1
        have := hcell 0 (by omega)
        rw [add_add, Nat.mul_one, Nat.add_zero] at this
        simpa using this
      have hspot : spot = none := by
        have := cells 0 h0
        simpa [Addr.add] using World.cell?_spot this
      subst hspot
      have plain : ∀ k, (⟨b, off, none⟩ : Addr).add k = ⟨b, off + k, none⟩ := by
        intro k
        rcases k with _ | k <;> simp [Addr.add]
      refine ⟨b, off, rfl, ?_, ?_⟩
      · have := cells 0 h0
        rw [plain] at this
        rcases Nat.lt_or_ge b W.heap.size with h' | h'
        · exact h'
        · simp [World.cell?, Array.getElem?_eq_none h'] at this
      · intro i t ht
        have hi : i < len0 := by
          rcases Nat.lt_or_ge i len0 with h' | h'
          · exact h'
          · simp [h'] at ht
        have et : q i = t := by simpa [hi] using ht
        subst et
        have := cells i hi
        rwa [plain] at this
    · intro t ht
      obtain ⟨i, hi, rfl⟩ := List.mem_map.1 ht
      exact (hq i (List.mem_range.1 hi)).2
end Go.Proofs.YtjhlfiljdohcoaaDoor
namespace Go.Proofs.YtjhlfiljdohcoaaDoor
set_option linter.unusedSimpArgs false
set_option linter.unusedVariables false
open Go.RowKit

theorem half_step (m i : Nat) : ((m / 2 ^ i : Nat) : Int) / 2 = ((m / 2 ^ (i + 1) : Nat) : Int) := by
  rw [Nat.pow_succ, ← Nat.div_div_eq_div_mul]
  omega
theorem tb_mod (m j : Nat) : (((m / 2 ^ j : Nat) : Int) % 2 == 1) = m.testBit j := by
  rw [tb_eq]
  generalize m / 2 ^ j = z
  by_cases h : z % 2 = 1
  · rw [h]
    have : (z : Int) % 2 = 1 := by omega
    rw [this]; rfl
  · have : ¬ (z : Int) % 2 = 1 := by omega
    simp only [h, decide_false]
    rw [beq_eq_false_iff_ne]
    exact this

theorem wrap_half (z : Nat) (h : z < 18446744073709551616) : Value.int IntKind.u64 (IntKind.u64.wrap ((z : Int) / 2)) = Value.int IntKind.u64 ((z / 2 : Nat) : Int) := by
  have e : (z : Int) / 2 = ((z / 2 : Nat) : Int) := by omega
  rw [e, u64_small _ (by omega)]
theorem wrap_twice (z : Nat) (h : z * 2 < 18446744073709551616) : Value.int IntKind.u64 (IntKind.u64.wrap ((z : Int) * 2)) = Value.int IntKind.u64 ((z * 2 : Nat) : Int) := by
  have e : (z : Int) * 2 = ((z * 2 : Nat) : Int) := by omega
  rw [e, u64_small _ h]
set_option maxHeartbeats 400000 in
theorem in_walk (k : C4) (x : Int) (h0 : 0 ≤ x) (hb : x < 256) (m : Nat) (hm : k.w (x / 64).toNat = (m : Int)) (hml : m < 18446744073709551616) (w : World) :
    Calls Tryd.prog 36 #[k.v, .int .i64 x] w fun e w' => e = .returned (.bool (m.testBit (x % 64).toNat)) ∧ Below w.heap.size w w' := by
  have hw := k.get (x / 64).toNat (by omega)
  rw [hm] at hw
  have HL := (show Hid _ from hml)
  clear hm hml
  go_enter Tryd.func36, Tryd.ntmps36
  go_wp2
  go_loop [5, 6] (fun n i => ∃ j z : Nat, (j : Int) ≤ x % 64 ∧ Hid (z = m / 2 ^ j) ∧ i = .int .i64 j ∧ n = .int .u64 (z : Int)) (fun _ i => (x % 64).toNat - (intOf i).toNat)
  case atStart => exact ⟨0, m, by omega, by show m = m / 2 ^ 0; simp, rfl, rfl⟩
  case round =>
    obtain ⟨j, z, hj, HZ, rfl, rfl⟩ := hrel
    by_cases hlt : (j : Int) < x % 64
    · go_wp2
      go_round
      case rel =>
        have hz : z < 18446744073709551616 := by rw [HZ.out]; exact Nat.lt_of_le_of_lt (Nat.div_le_self _ _) HL.out
        exact ⟨j + 1, z / 2, by omega, by show _ = _; rw [HZ.out, Nat.pow_succ, ← Nat.div_div_eq_div_mul], by go_num, wrap_half z hz⟩
      case measure => simp [intOf]; omega
    · have hj2 : (x % 64).toNat = j := by omega
      have HJ := (show Hid _ from hj2)
      clear hj2
      go_wp2
      go_ret
      refine ⟨?_, (Below.refl _ _).alloc (Nat.le_refl _) _⟩
      show Ending.returned (.bool ((z : Int) % 2 == 1)) = _
      rw [HJ.out, ← tb_mod, ← HZ.out]
theorem in_any (k : C4) (hk : k.ok) (b : Nat) (hb : b < 256) (w : World) :
    Calls Tryd.prog 36 #[k.v, .int .i64 b] w fun e w' => e = .returned (.bool (k.has b)) ∧ Below w.heap.size w w' := by
  obtain ⟨m, hm, hl⟩ := okW_nat (C4.ok_w hk (b / 64))
  have e1 : ((b : Int) / 64).toNat = b / 64 := by omega
  have e2 : ((b : Int) % 64).toNat = b % 64 := by omega
  have h := in_walk k b (by omega) (by omega) m (by rw [e1]; exact hm) hl w
  rw [e2] at h
  have e3 : k.has b = m.testBit (b % 64) := by unfold C4.has; rw [hm, Int.toNat_natCast]
  rw [e3]
  exact h

/-! With: a byte more -/
theorem add_is_or (x j : Nat) (h : x.testBit j = false) : x + 2 ^ j = x ||| 2 ^ j := by
  have hb : x / 2 ^ j % 2 = 0 := by
    rw [tb_eq] at h
    have := of_decide_eq_false h
    omega
  have hp : 0 < 2 ^ j := Nat.two_pow_pos j
  have e1 : x = 2 ^ (j + 1) * (x / 2 ^ j / 2) + x % 2 ^ j := by
    have a1 := Nat.div_add_mod x (2 ^ j)
    have a2 : x / 2 ^ j = 2 * (x / 2 ^ j / 2) := by omega
    rw [Nat.pow_succ, Nat.mul_assoc]
    rw [a2] at a1
    omega
  have hlo : x % 2 ^ j < 2 ^ j := Nat.mod_lt _ hp
  generalize x % 2 ^ j = lo at *
  generalize x / 2 ^ j / 2 = A at *
  have j1 : 2 ^ (j + 1) * A ||| lo = 2 ^ (j + 1) * A + lo := nat_join j _ _ (by rw [Nat.pow_succ, Nat.mul_assoc, Nat.mul_mod_right]) hlo
  have j2 : 2 ^ (j + 1) * A ||| 2 ^ j = 2 ^ (j + 1) * A + 2 ^ j := nat_join (j + 1) _ _ (by rw [Nat.mul_mod_right]) (by rw [Nat.pow_succ]; omega)
  have j3 : (2 ^ (j + 1) * A + 2 ^ j) ||| lo = 2 ^ (j + 1) * A + 2 ^ j + lo := nat_join j _ _ (by rw [Nat.pow_succ, Nat.mul_assoc, ← Nat.mul_succ, Nat.mul_mod_right]) hlo
  rw [e1]
  rw [← j1, Nat.or_assoc, Nat.or_comm lo, ← Nat.or_assoc, j2, j3, j1]
  omega
theorem C4.put_add {k : C4} (hk : k.ok) (b : Nat) (hb : b < 256) (h : k.has b = false) : k.put ((b : Int) / 64).toNat (IntKind.u64.wrap (k.w ((b : Int) / 64).toNat + ((2 ^ ((b : Int) % 64).toNat : Nat) : Int))) = k.add (b : Int) := by
  have e1 : ((b : Int) / 64).toNat = b / 64 := by omega
  have e2 : ((b : Int) % 64).toNat = b % 64 := by omega
  unfold C4.add
  rw [e1, e2]
  obtain ⟨m, hm, hl⟩ := okW_nat (C4.ok_w hk (b / 64))
  have e3 : m.testBit (b % 64) = false := by
    unfold C4.has at h
    rwa [hm, Int.toNat_natCast] at h
  rw [hm]
  congr 1
  have h2 : 2 ^ (b % 64) < 2 ^ 64 := Nat.pow_lt_pow_right (by decide) (by omega)
  have ew : IntKind.u64.wrap (2 ^ (b % 64)) = ((2 ^ (b % 64) : Nat) : Int) := by
    have := u64_small (2 ^ (b % 64)) h2
    rw [Int.natCast_pow] at this
    rw [Int.natCast_pow]
    exact this
  have ho : m ||| 2 ^ (b % 64) < 2 ^ 64 := Nat.or_lt_two_pow hl h2
  rw [ew, u64_or_nat m _ hl h2, ← Int.natCast_add, add_is_or m _ e3]
  exact u64_small _ ho
theorem C4.add_same {k : C4} (hk : k.ok) (b : Nat) (hb : b < 256) (h : k.has b = true) : k.add (b : Int) = k := by
  apply C4.ext_has (C4.add_ok hk b) hk
  intro i hi
  rw [C4.has_add hk b i hb hi]
  by_cases e : b = i
  · subst e; rw [h]; rfl
  · simp [e]
end Go.Proofs.YtjhlfiljdohcoaaDoor
namespace Go.Proofs.YtjhlfiljdohcoaaDoor
set_option linter.unusedSimpArgs false
set_option linter.unusedVariables false
open Go.RowKit

set_option maxHeartbeats 1000000 in
theorem count_any (k : C4) (hk : k.ok) (w : World) :
    Calls Tryd.prog 35 #[k.v] w fun e w' => e = .returned (.int .i64 (cnt k.has 256)) ∧ Below w.heap.size w w' := by
  go_enter Tryd.func35, Tryd.ntmps35
  go_wp2
  go_loopw [3, 4] (fun u v wr => ∃ i c : Nat, i ≤ 256 ∧ c ≤ i ∧ Hid (c = cnt k.has i) ∧ v = .int .i64 i ∧ u = .int .i64 c ∧ Below w.heap.size w wr ∧ Hb wr w.heap.size k) (fun _ v _ => 256 - (intOf v).toNat)
  case atStart => exact ⟨0, 0, by omega, by omega, Eq.refl _, rfl, rfl, (Below.refl _ _).alloc (Nat.le_refl _) _, Hb.new _ k _ rfl⟩
  case round =>
    obtain ⟨i, c, hi, hc, HC, rfl, rfl, hB, hK⟩ := hrel
    obtain ⟨c0, c1, c2, c3, e0, e1, e2, e3⟩ := hK.all
    by_cases hlt : i < 256
    · have i1 : (i : Int) < 256 := by omega
      go_wp2_with fail
      refine (in_any k hk i hlt _).mono ?_
      rintro e w1 ⟨rfl, hb1⟩
      have hB1 := hB.trans (hb1.mono hB.size)
      have hK1 := hK.below hb1 hK.lt
      cases hn : k.has i
      · have HE : Hid (c = cnt k.has (i + 1)) := by show _ = _; rw [cnt, hn, HC.out]; rfl
        go_wp2
        exact ⟨⟨i + 1, c, by omega, by omega, HE, by go_num, by go_num, hB1, hK1⟩, by simp [intOf]; omega⟩
      · have HE : Hid (c + 1 = cnt k.has (i + 1)) := by show _ = _; rw [cnt, hn, HC.out]; rfl
        go_wp2
        exact ⟨⟨i + 1, c + 1, by omega, by omega, HE, by go_num, by go_num, hB1, hK1⟩, by simp [intOf]; omega⟩
    · have hi2 : i = 256 := by omega
      subst hi2
      go_wp2
      go_ret
      exact ⟨ret_int (by rw [HC.out]), hB⟩
end Go.Proofs.YtjhlfiljdohcoaaDoor
namespace Go.Proofs.YtjhlfiljdohcoaaDoor
set_option linter.unusedSimpArgs false
set_option linter.unusedVariables false
set_option maxRecDepth 100000
open Go.RowKit
theorem count_b (k : C4) (hk : k.ok) (w : World) :
    Calls Tryd.prog 35 #[k.v] w fun e w' => ∃ c : Nat, e = .returned (.int .i64 c) ∧ Hid (((0 : Int) < (c : Int)) ↔ ¬ k.eqb z4 = true) ∧ c ≤ 256 ∧ Below w.heap.size w w' := by
  refine (count_any k hk w).mono ?_
  rintro e w' ⟨rfl, hb⟩
  exact ⟨cnt k.has 256, rfl, cnt_zero_iff hk, cnt_le _ _, hb⟩
end Go.Proofs.YtjhlfiljdohcoaaDoor
namespace Go.Proofs.YtjhlfiljdohcoaaDoor
set_option linter.unusedSimpArgs false
set_option linter.unusedVariables false
set_option maxRecDepth 100000
open Go.RowKit

theorem cell_new7_0 (w : World) (a0 a1 a2 a3 a4 a5 a6 : Value) (t : TypeId) : (w.alloc (.cells #[a0, a1, a2, a3, a4, a5, a6] t)).cell? ⟨w.heap.size, 0, none⟩ = some a0 := by simp
theorem cell_new7_5 (w : World) (a0 a1 a2 a3 a4 a5 a6 : Value) (t : TypeId) : (w.alloc (.cells #[a0, a1, a2, a3, a4, a5, a6] t)).cell? ⟨w.heap.size, 5, none⟩ = some a5 := by simp
theorem cell_new7_6 (w : World) (a0 a1 a2 a3 a4 a5 a6 : Value) (t : TypeId) : (w.alloc (.cells #[a0, a1, a2, a3, a4, a5, a6] t)).cell? ⟨w.heap.size, 6, none⟩ = some a6 := by simp
theorem scan_at (ss : List St) (h200 : ¬ 200 < ss.length) (h0 : 0 < ss.length) (i : Nat) (n : St) (hn : ss[i]? = some n) (HS : stScan ss.length ss = stScan ss.length (ss.drop i)) :
    (stRange ss.length n → stepsF ss = 1) ∧ (¬ stRange ss.length n → stShape n → stepsF ss = 2) ∧ (¬ stRange ss.length n → ¬ stShape n → stScan ss.length ss = stScan ss.length (ss.drop (i + 1))) := by
  have hz : ¬ ss.length = 0 := by omega
  refine ⟨fun h => ?_, fun h h2 => ?_, fun h h2 => ?_⟩
  · rw [stepsF, if_neg h200, if_neg hz, HS, stScan_drop _ ss i n hn, stBad_range h]; rfl
  · rw [stepsF, if_neg h200, if_neg hz, HS, stScan_drop _ ss i n hn, stBad_shape h h2]; rfl
  · rw [HS, stScan_drop _ ss i n hn, stBad_ok h h2]; rfl
set_option maxHeartbeats 16000000 in
theorem stepsFault_at (ss : List St) (ho : SsOk ss) (b off cap : Nat) (hm : ss.length ≤ maxLen) (w : World) (hlt : b < w.heap.size) (hN : SsAt w b off ss) (h0 : 0 < ss.length) :
    Calls Tryd.prog 15 #[.slice (some ⟨b, off, none⟩) ss.length cap] w fun e w' => e = .returned (.int .i64 (stepsF ss)) ∧ Below w.heap.size w w' := by
  unfold maxLen at hm
  by_cases h200 : 200 < ss.length
  · have g200 : (200 : Int) < (ss.length : Int) := by omega
    have HF : Hid (stepsF ss = 3) := by show _ = _; rw [stepsF, if_pos h200]
    go_enter Tryd.func15, Tryd.ntmps15
    go_wp2
    go_ret
    exact ⟨by rw [HF.out]; rfl, Below.refl _ _⟩
  · have g200 : (ss.length : Int) ≤ 200 := by omega
    have z0 : ((ss.length : Int) == 0) = false := by rw [beq_eq_false_iff_ne]; omega
    go_enter Tryd.func15, Tryd.ntmps15
    go_wp2
    go_loopw [3] (fun v wr => ∃ i : Nat, i ≤ ss.length ∧ v = .int .i64 i ∧ Hid (stScan ss.length ss = stScan ss.length (ss.drop i)) ∧ Below w.heap.size w wr) (fun v _ => ss.length - (intOf v).toNat)
    case atStart => exact ⟨0, by omega, rfl, Eq.refl _, Below.refl _ _⟩
    case round =>
      obtain ⟨i, hi, rfl, HS, hB⟩ := hrel
      by_cases hil : i < ss.length
      · obtain ⟨n, hn⟩ : ∃ n, ss[i]? = some n := ⟨ss[i], List.getElem?_eq_getElem hil⟩
        have hno : n.c.ok := ho n (List.mem_of_getElem? hn)
        obtain ⟨c0, c1, c2, c3, c4, c5, c6⟩ := hN.below hB hlt i n hn
        obtain ⟨F1, F2, F3⟩ := scan_at ss h200 h0 i n hn HS.out
        replace F1 := hid F1
        replace F2 := hid F2
        replace F3 := hid F3
        have HB1 : Hid (∀ o, Below w.heap.size w (wr.alloc o)) := fun o => hB.alloc hB.size o
        have i0 : (0 : Int) ≤ (i : Int) := by omega
        have i1 : (i : Int) < (ss.length : Int) := by omega
        clear hn hN ho HS
        by_cases o1 : n.op < 1
        · skip
          have HF := hid (F1.out (by unfold stRange; omega))
          clear F1 F2 F3
          go_wp2
          go_ret
          exact ⟨by rw [HF.out]; rfl, HB1.out _⟩
        by_cases o5 : 5 < n.op
        · skip
          have HF := hid (F1.out (by unfold stRange; omega))
          clear F1 F2 F3
          go_wp2
          go_ret
          exact ⟨by rw [HF.out]; rfl, HB1.out _⟩
        have hop : n.op = 1 ∨ n.op = 2 ∨ n.op = 3 ∨ n.op = 4 ∨ n.op = 5 := by omega
        rcases hop with hop | hop | hop | hop | hop
        · rw [hop] at c0
          clear o1 o5
          by_cases x0 : n.x < 0
          · skip
            have HF := hid (F1.out (by unfold stRange; omega))
            clear F1 F2 F3
            go_wp2
            go_ret
            exact ⟨by rw [HF.out]; rfl, HB1.out _⟩
          by_cases x1 : (ss.length : Int) ≤ n.x
          · skip
            have x2 : ¬ n.x < (ss.length : Int) := by omega
            have HF := hid (F1.out (by unfold stRange; omega))
            clear F1 F2 F3
            go_wp2
            go_ret
            exact ⟨by rw [HF.out]; rfl, HB1.out _⟩
          have x2 : n.x < (ss.length : Int) := by omega
          have NR : ¬ stRange ss.length n := by unfold stRange; omega
          by_cases yz : n.y = 0
          · rw [yz] at c6
            have HS2 := hid (F3.out NR (by unfold stShape; omega))
            clear F1 F2 F3 NR
            go_wp2
            exact ⟨⟨i + 1, by omega, by go_num, HS2, HB1.out _⟩, by simp [intOf]; omega⟩
          · have yn : (n.y != 0) = true := by simp [yz]
            have HF := hid (F2.out NR (by unfold stShape; omega))
            clear F1 F2 F3 NR
            go_wp2
            go_ret
            exact ⟨by rw [HF.out]; rfl, HB1.out _⟩
        · rw [hop] at c0
          clear o1 o5
          by_cases x0 : n.x < 0
          · skip
            have HF := hid (F1.out (by unfold stRange; omega))
            clear F1 F2 F3
            go_wp2
            go_ret
            exact ⟨by rw [HF.out]; rfl, HB1.out _⟩
          by_cases x1 : (ss.length : Int) ≤ n.x
          · skip
            have x2 : ¬ n.x < (ss.length : Int) := by omega
            have HF := hid (F1.out (by unfold stRange; omega))
            clear F1 F2 F3
            go_wp2
            go_ret
            exact ⟨by rw [HF.out]; rfl, HB1.out _⟩
          have x2 : n.x < (ss.length : Int) := by omega
          by_cases y0 : n.y < 0
          · skip
            have HF := hid (F1.out (by unfold stRange; omega))
            clear F1 F2 F3
            go_wp2
            go_ret
            exact ⟨by rw [HF.out]; rfl, HB1.out _⟩
          by_cases y1 : (ss.length : Int) ≤ n.y
          · skip
            have HF := hid (F1.out (by unfold stRange; omega))
            clear F1 F2 F3
            go_wp2
            go_ret
            exact ⟨by rw [HF.out]; rfl, HB1.out _⟩
          have y2 : n.y < (ss.length : Int) := by omega
          have NR : ¬ stRange ss.length n := by unfold stRange; omega
          go_wp2_with fail
          refine (count_b n.c hno _).mono ?_
          rintro e w1 ⟨c, rfl, HC, hc, hb3⟩
          have HB2 := hid ((HB1.out _).trans (hb3.mono (HB1.out _).size))
          have k0 := hb3.cell (p := ⟨wr.heap.size, 0, none⟩) (by simp)
          have k5 := hb3.cell (p := ⟨wr.heap.size, 5, none⟩) (by simp)
          have k6 := hb3.cell (p := ⟨wr.heap.size, 6, none⟩) (by simp)
          simp only [cell_new7_0, cell_new7_5, cell_new7_6] at k0 k5 k6
          clear hb3
          by_cases hz : n.c.eqb z4 = true
          · have gz : ¬ (0 : Int) < (c : Int) := fun h => (HC.out.1 h) hz
            have NS : ¬ stShape n := fun h => by rcases h with ⟨h1, h2⟩ | ⟨h1, h2⟩ | ⟨h1, h2⟩ <;> first | exact h2 hz | omega
            clear hz
            have HS2 := hid (F3.out NR (NS))
            clear F1 F2 F3 NR
            go_wp2
            exact ⟨⟨i + 1, by omega, by go_num, HS2, HB2.out⟩, by simp [intOf]; omega⟩
          · have gz : (0 : Int) < (c : Int) := HC.out.2 hz
            have HF := hid (F2.out NR (Or.inl ⟨by omega, hz⟩))
            clear F1 F2 F3 NR
            go_wp2
            go_ret
            exact ⟨by rw [HF.out]; rfl, HB2.out⟩
        · rw [hop] at c0
          clear o1 o5
          by_cases x0 : n.x < 0
          · skip
            have HF := hid (F1.out (by unfold stRange; omega))
            clear F1 F2 F3
            go_wp2
            go_ret
            exact ⟨by rw [HF.out]; rfl, HB1.out _⟩
          by_cases x1 : (ss.length : Int) ≤ n.x
          · skip
            have x2 : ¬ n.x < (ss.length : Int) := by omega
            have HF := hid (F1.out (by unfold stRange; omega))
            clear F1 F2 F3
            go_wp2
            go_ret
            exact ⟨by rw [HF.out]; rfl, HB1.out _⟩
          have x2 : n.x < (ss.length : Int) := by omega
          have NR : ¬ stRange ss.length n := by unfold stRange; omega
          go_wp2_with fail
          refine (count_b n.c hno _).mono ?_
          rintro e w1 ⟨c, rfl, HC, hc, hb3⟩
          have HB2 := hid ((HB1.out _).trans (hb3.mono (HB1.out _).size))
          have k0 := hb3.cell (p := ⟨wr.heap.size, 0, none⟩) (by simp)
          have k5 := hb3.cell (p := ⟨wr.heap.size, 5, none⟩) (by simp)
          have k6 := hb3.cell (p := ⟨wr.heap.size, 6, none⟩) (by simp)
          simp only [cell_new7_0, cell_new7_5, cell_new7_6] at k0 k5 k6
          clear hb3
          by_cases hz : n.c.eqb z4 = true
          · have gz : ¬ (0 : Int) < (c : Int) := fun h => (HC.out.1 h) hz
            by_cases yz : n.y = 0
            · rw [yz] at k6
              have NS : ¬ stShape n := fun h => by rcases h with ⟨h1, h2⟩ | ⟨h1, h2⟩ | ⟨h1, h2⟩ <;> first | exact h2 hz | omega
              clear hz
              have HS2 := hid (F3.out NR (NS))
              clear F1 F2 F3 NR
              go_wp2
              exact ⟨⟨i + 1, by omega, by go_num, HS2, HB2.out⟩, by simp [intOf]; omega⟩
            · have yn : (n.y != 0) = true := by simp [yz]
              clear hz
              have HF := hid (F2.out NR (Or.inr (Or.inl ⟨by omega, yz⟩)))
              clear F1 F2 F3 NR
              go_wp2
              go_ret
              exact ⟨by rw [HF.out]; rfl, HB2.out⟩
          · have gz : (0 : Int) < (c : Int) := HC.out.2 hz
            have HF := hid (F2.out NR (Or.inl ⟨by omega, hz⟩))
            clear F1 F2 F3 NR
            go_wp2
            go_ret
            exact ⟨by rw [HF.out]; rfl, HB2.out⟩
        · rw [hop] at c0
          clear o1 o5
          by_cases x0 : n.x < 0
          · skip
            have HF := hid (F1.out (by unfold stRange; omega))
            clear F1 F2 F3
            go_wp2
            go_ret
            exact ⟨by rw [HF.out]; rfl, HB1.out _⟩
          by_cases x1 : (ss.length : Int) ≤ n.x
          · skip
            have x2 : ¬ n.x < (ss.length : Int) := by omega
            have HF := hid (F1.out (by unfold stRange; omega))
            clear F1 F2 F3
            go_wp2
            go_ret
            exact ⟨by rw [HF.out]; rfl, HB1.out _⟩
          have x2 : n.x < (ss.length : Int) := by omega
          have NR : ¬ stRange ss.length n := by unfold stRange; omega
          go_wp2_with fail
          refine (count_b n.c hno _).mono ?_
          rintro e w1 ⟨c, rfl, HC, hc, hb3⟩
          have HB2 := hid ((HB1.out _).trans (hb3.mono (HB1.out _).size))
          have k0 := hb3.cell (p := ⟨wr.heap.size, 0, none⟩) (by simp)
          have k5 := hb3.cell (p := ⟨wr.heap.size, 5, none⟩) (by simp)
          have k6 := hb3.cell (p := ⟨wr.heap.size, 6, none⟩) (by simp)
          simp only [cell_new7_0, cell_new7_5, cell_new7_6] at k0 k5 k6
          clear hb3
          by_cases hz : n.c.eqb z4 = true
          · have gz : ¬ (0 : Int) < (c : Int) := fun h => (HC.out.1 h) hz
            by_cases yz : n.y = 0
            · rw [yz] at k6
              have NS : ¬ stShape n := fun h => by rcases h with ⟨h1, h2⟩ | ⟨h1, h2⟩ | ⟨h1, h2⟩ <;> first | exact h2 hz | omega
              clear hz
              have HS2 := hid (F3.out NR (NS))
              clear F1 F2 F3 NR
              go_wp2
              exact ⟨⟨i + 1, by omega, by go_num, HS2, HB2.out⟩, by simp [intOf]; omega⟩
            · have yn : (n.y != 0) = true := by simp [yz]
              clear hz
              have HF := hid (F2.out NR (Or.inr (Or.inl ⟨by omega, yz⟩)))
              clear F1 F2 F3 NR
              go_wp2
              go_ret
              exact ⟨by rw [HF.out]; rfl, HB2.out⟩
          · have gz : (0 : Int) < (c : Int) := HC.out.2 hz
            have HF := hid (F2.out NR (Or.inl ⟨by omega, hz⟩))
            clear F1 F2 F3 NR
            go_wp2
            go_ret
            exact ⟨by rw [HF.out]; rfl, HB2.out⟩
        · rw [hop] at c0
          clear o1 o5
          have NR : ¬ stRange ss.length n := by unfold stRange; omega
          go_wp2_with fail
          refine (count_b n.c hno _).mono ?_
          rintro e w1 ⟨c, rfl, HC, hc, hb3⟩
          have HB2 := hid ((HB1.out _).trans (hb3.mono (HB1.out _).size))
          have k0 := hb3.cell (p := ⟨wr.heap.size, 0, none⟩) (by simp)
          have k5 := hb3.cell (p := ⟨wr.heap.size, 5, none⟩) (by simp)
          have k6 := hb3.cell (p := ⟨wr.heap.size, 6, none⟩) (by simp)
          simp only [cell_new7_0, cell_new7_5, cell_new7_6] at k0 k5 k6
          clear hb3
          by_cases hz : n.c.eqb z4 = true
          · have gz : ¬ (0 : Int) < (c : Int) := fun h => (HC.out.1 h) hz
            by_cases yz : n.y = 0
            · rw [yz] at k6
              by_cases xz : n.x = 0
              · rw [xz] at k5
                have NS : ¬ stShape n := fun h => by rcases h with ⟨h1, h2⟩ | ⟨h1, h2⟩ | ⟨h1, h2⟩ <;> first | exact h2 hz | omega
                clear hz
                have HS2 := hid (F3.out NR (NS))
                clear F1 F2 F3 NR
                go_wp2
                exact ⟨⟨i + 1, by omega, by go_num, HS2, HB2.out⟩, by simp [intOf]; omega⟩
              · have xn : (n.x != 0) = true := by simp [xz]
                clear hz
                have HF := hid (F2.out NR (Or.inr (Or.inr ⟨hop, xz⟩)))
                clear F1 F2 F3 NR
                go_wp2
                go_ret
                exact ⟨by rw [HF.out]; rfl, HB2.out⟩
            · have yn : (n.y != 0) = true := by simp [yz]
              clear hz
              have HF := hid (F2.out NR (Or.inr (Or.inl ⟨by omega, yz⟩)))
              clear F1 F2 F3 NR
              go_wp2
              go_ret
              exact ⟨by rw [HF.out]; rfl, HB2.out⟩
          · have gz : (0 : Int) < (c : Int) := HC.out.2 hz
            have HF := hid (F2.out NR (Or.inl ⟨by omega, hz⟩))
            clear F1 F2 F3 NR
            go_wp2
            go_ret
            exact ⟨by rw [HF.out]; rfl, HB2.out⟩
      · have hi2 : i = ss.length := by omega
        subst hi2
        have e0 : stScan ss.length ss = 0 := by rw [HS.out, List.drop_length]; rfl
        have HF : Hid (stepsF ss = 0) := by
          show _ = _
          rw [stepsF, if_neg h200, if_neg (by omega), e0]
        go_wp2
        go_ret
        exact ⟨by rw [HF.out]; rfl, hB⟩
set_option maxHeartbeats 1000000 in
theorem stepsFault_nil (a : Option Addr) (cap : Nat) (w : World) :
    Calls Tryd.prog 15 #[.slice a 0 cap] w fun e w' => e = .returned (.int .i64 4) ∧ Below w.heap.size w w' := by
  go_enter Tryd.func15, Tryd.ntmps15
  go_wp2
  go_ret
  exact ⟨rfl, Below.refl _ _⟩
theorem stepsFault_any (ss : List St) (ho : SsOk ss) (v : Value) (w : World) (hN : SsIn w v ss) :
    Calls Tryd.prog 15 #[v] w fun e w' => e = .returned (.int .i64 (stepsF ss)) ∧ Below w.heap.size w w' := by
  obtain ⟨a, cap, rfl, hm, h | ⟨b, off, rfl, hlt, hn⟩⟩ := hN
  · subst h
    exact stepsFault_nil a cap w
  · by_cases h0 : 0 < ss.length
    · exact stepsFault_at ss ho b off cap hm w hlt hn h0
    · have : ss = [] := List.eq_nil_of_length_eq_zero (by omega)
      subst this
      exact stepsFault_nil _ cap w
end Go.Proofs.YtjhlfiljdohcoaaDoor
