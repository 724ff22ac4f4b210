/- What each call of package class does: fourth part: runEnd, runs. -/
import Derived.Test.YtmdfdlljeggbbaaWk3
set_option linter.unusedSimpArgs false
set_option linter.unusedVariables false
set_option maxRecDepth 100000
namespace Go.Proofs.Ytmdfdlljeggbbaa
open Go.RowKit

set_option maxHeartbeats 400000 in
theorem runEnd_any (k : C4) (i : Int) (w : World) (h0 : 0 ≤ i) (h1 : i ≤ 256) :
    Calls Try.prog 27 #[k.v, .int .i64 i] w fun e w' => e = .returned (.int .i64 (rEnd k.p (256 - i.toNat) i.toNat)) ∧ Below w.heap.size w w' := by
  obtain ⟨n, rfl⟩ := Int.eq_ofNat_of_zero_le h0
  rw [Int.toNat_natCast]
  go_enter Try.func27, Try.ntmps27
  go_wp2
  go_loopw [1] (fun v wr => ∃ j : Nat, j ≤ 256 ∧ v = .int .i64 j ∧ Hid (rEnd k.p (256 - j) j = rEnd k.p (256 - n) n) ∧ Below w.heap.size w wr ∧ Hb wr w.heap.size k) (fun v _ => 256 - (intOf v).toNat)
  case atStart => exact ⟨n, by omega, rfl, rfl, (Below.refl _ _).alloc (Nat.le_refl _) _, Hb.new _ k _ rfl⟩
  case round =>
    obtain ⟨j, hj, rfl, HE, hB, hK⟩ := hrel
    obtain ⟨c0, c1, c2, c3, e0, e1, e2, e3⟩ := hK.all
    by_cases hlt : j < 256
    · have i1 : (j : Int) < 256 := by omega
      by_cases hp : k.hasI j = true
      · go_wp2_with (first | (go_at_call 38; refine (has_any k _ _ (by omega) (by omega)).mono ?_; rintro e w' ⟨rfl, hb⟩))
        refine ⟨⟨j + 1, by omega, by go_num, ?_, ?_, ?_⟩, by simp [intOf]; omega⟩
        · show _ = _
          rw [← HE.out, rEnd_yes k.p j hlt hp]
        · exact hB.trans (hb.mono hB.size)
        · exact hK.below hb hK.lt
      · have hp2 : k.hasI j = false := by simpa using hp
        clear hp
        go_wp2_with (first | (go_at_call 38; refine (has_any k _ _ (by omega) (by omega)).mono ?_; rintro e w' ⟨rfl, hb⟩))
        go_ret
        exact ⟨ret_int (by rw [← HE.out, rEnd_no k.p j hlt hp2]), hB.trans (hb.mono hB.size)⟩
    · have hj2 : j = 256 := by omega
      subst hj2
      go_wp2
      go_ret
      exact ⟨ret_int (by rw [← HE.out]; rfl), hB⟩

/-- A builder is what it was, where nothing that was there has turned. -/
theorem isBuilder_below {T e : TypeId} {B b : Nat} {bs : List Value} {w w' : World} (h : Lib.IsBuilder T e B b bs w) (hb : Below w.heap.size w w') : Lib.IsBuilder T e B b bs w' := by
  have key : ∀ p, Lib.BuilderAt T e B b p bs w → Lib.BuilderAt T e B b p bs w' := by
    intro p h
    have hlt := h.lt
    obtain ⟨hB, v, hbk, hown, hne⟩ := h
    refine ⟨hB, v, (hb.block b hlt).trans hbk, ?_, hne⟩
    refine hown.kept (row := none) ⟨hb.os, hb.tape, hb.output, hb.size, fun k hk _ => hb.block k hk⟩ ?_
    cases hv : v.ownBlock with
    | none => exact Or.inl rfl
    | some x => exact Or.inr (by simp)
  rcases h with h | h
  · exact Or.inl (key _ h)
  · exact Or.inr (key _ h)
theorem runEnd_ex (k : C4) (i : Nat) (w : World) (h : i ≤ 256) :
    Calls Try.prog 27 #[k.v, .int .i64 i] w fun e w' => ∃ en : Nat, e = .returned (.int .i64 en) ∧ Hid (rEnd k.p (256 - i) i = en) ∧ i ≤ en ∧ en ≤ 256 ∧ Below w.heap.size w w' := by
  refine (runEnd_any k i w (by omega) (by omega)).mono ?_
  rintro e w' ⟨rfl, hb⟩
  have hle := rEnd_le k.p (256 - i) i
  exact ⟨rEnd k.p (256 - i) i, rfl, Eq.refl _, by omega, by omega, hb⟩
theorem runText_n (i en : Nat) (w : World) (h : i < en) (h2 : en ≤ 256) :
    Calls Try.prog 29 #[.int .i64 i, .int .i64 ((en : Int) - 1)] w fun e w' => e = .returned (.string ⟨(rt i (en - 1)).toArray⟩) ∧ Below w.heap.size w w' := by
  refine (runText_any i ((en : Int) - 1) w (by omega) (by omega) (by omega)).mono ?_
  rintro e w' ⟨rfl, hb⟩
  have ht : ((en : Int) - 1).toNat = en - 1 := by omega
  rw [ht]
  exact ⟨rfl, hb⟩
theorem writeString_l (B b : Nat) (acc l : List UInt8) (w : World) (h : Lib.IsBuilder 56 5 B b (Lib.byteCells acc) w) (hlen : acc.length + l.length ≤ 140737488355328) (hBw : B ≤ w.heap.size) :
    Calls Try.prog 28 #[.pointer (some ⟨b, 0, none⟩), .string ⟨l.toArray⟩] w fun e w' => (∃ v, e = .returned v) ∧ Lib.IsBuilder 56 5 B b (Lib.byteCells (acc ++ l)) w' ∧ Below B w w' := by
  refine (writeString_any B b _ ⟨l.toArray⟩ w h (by rw [Lib.byteCells_length, size_str]; exact hlen) hBw).mono ?_
  rintro e w' ⟨rfl, h1, hb⟩
  refine ⟨⟨_, rfl⟩, Or.inr ?_, hb⟩
  rw [Lib.byteCells_append]
  exact h1
theorem runsL_step (p : Nat → Bool) (f i en : Nat) (acc R : List UInt8) (hi : i < 256) (hE : rEnd p (256 - i) i = en) (h : acc ++ runsL p (f + 1) i = R) :
    (if i < en then acc ++ rt i (en - 1) else acc) ++ runsL p f (en + 1) = R := by
  rw [runsL, if_pos hi, hE] at h
  rw [← h]
  split <;> simp
theorem runsL_end (p : Nat → Bool) (f i : Nat) (acc R : List UInt8) (hi : ¬ i < 256) (h : acc ++ runsL p f i = R) : acc = R := by
  rw [← h]
  cases f <;> simp [runsL, hi]

set_option maxHeartbeats 1000000 in
theorem runs_any (k : C4) (w : World) :
    Calls Try.prog 16 #[k.v] w fun e w' => e = .returned (.string ⟨(runsL k.p 256 0).toArray⟩) ∧ Below w.heap.size w w' := by
  go_enter Try.func16, Try.ntmps16
  go_wp2
  go_loopw [4, 5] (fun v _ wr => ∃ (i f : Nat) (acc : List UInt8), i ≤ 257 ∧ 256 ≤ f + i ∧ v = .int .i64 i ∧ acc.length ≤ 9 * i ∧ Hid (acc ++ runsL k.p f i = runsL k.p 256 0) ∧ Below w.heap.size w wr ∧ Hb wr w.heap.size k ∧ Lib.IsBuilder 56 5 (w.heap.size + 1) (w.heap.size + 1) (Lib.byteCells acc) wr) (fun v _ _ => 257 - (intOf v).toNat)
  case atStart =>
    refine ⟨0, 256, [], by omega, by omega, rfl, by simp, List.nil_append _, ?_, ?_, ?_⟩
    · exact ((Below.refl _ _).alloc (Nat.le_refl _) _).alloc (by simp) _
    · exact (Hb.new _ k _ rfl).alloc _
    · have := Lib.fresh_isBuilder 56 5 (w.alloc (.cells k.cells 24))
      simp only [World.size_alloc] at this
      exact this
  case round =>
    obtain ⟨i, f, acc, hi, hf, rfl, hl, HE, hB, hK, hS⟩ := hrel
    obtain ⟨c0, c1, c2, c3, e0, e1, e2, e3⟩ := hK.all
    have hz := hK.lt
    by_cases hlt : i < 256
    · have i1 : (i : Int) < 256 := by omega
      obtain ⟨f, rfl⟩ : ∃ g, f = g + 1 := ⟨f - 1, by omega⟩
      go_wp2_with fail
      refine (runEnd_ex k i _ (by omega)).mono ?_
      rintro e w1 ⟨en, rfl, HG, hle, hen, hb⟩
      have hS1 := isBuilder_below hS hb
      have hK1 := hK.below hb hz
      have hB1 := hB.trans (hb.mono hB.size)
      have HR : Hid _ := runsL_step k.p f i en acc _ hlt HG.out HE.out
      by_cases hgt : i < en
      · have g1 : (i : Int) < (en : Int) := by omega
        go_wp2_with fail
        refine (runText_n i en _ (by omega) (by omega)).mono ?_
        rintro e w2 ⟨rfl, hb2⟩
        have hS2 := isBuilder_below hS1 hb2
        have hK2 := hK1.below hb2 hK1.lt
        have hB2 := hB1.trans (hb2.mono hB1.size)
        have hlr := rt_len i (en - 1)
        go_wp2_with fail
        refine (writeString_l (w.heap.size + 1) (w.heap.size + 1) acc (rt i (en - 1)) _ hS2 (by omega) (by have := hK2.lt; omega)).mono ?_
        rintro e w3 ⟨⟨v3, rfl⟩, hS3, hb3⟩
        go_wp2
        refine ⟨⟨en + 1, f, acc ++ rt i (en - 1), by omega, by omega, by go_num, by simp; omega, ?_, ?_, ?_, ?_⟩, by simp [intOf]; omega⟩
        · have := HR.out
          rw [if_pos hgt] at this
          exact this
        · exact hB2.trans (hb3.mono (by omega))
        · exact hK2.below hb3 (by omega)
        · exact hS3
      · have g1 : ¬ (i : Int) < (en : Int) := by omega
        go_wp2
        refine ⟨⟨en + 1, f, acc, by omega, by omega, by go_num, by omega, ?_, ?_, ?_, ?_⟩, by simp [intOf]; omega⟩
        · have := HR.out
          rw [if_neg hgt] at this
          exact this
        · exact hB1
        · exact hK1
        · exact hS1
    · have i1 : ¬ (i : Int) < 256 := by omega
      have HA : Hid _ := runsL_end k.p f i acc _ hlt HE.out
      go_wp2_with fail
      refine (string_any (w.heap.size + 1) (w.heap.size + 1) acc _ hS (by omega)).mono ?_
      rintro e w1 ⟨rfl, hb⟩
      go_wp2
      go_ret
      exact ⟨by rw [HA.out]; rfl, hB.trans (hb.mono (by omega))⟩
end Go.Proofs.Ytmdfdlljeggbbaa
