/- The landed reader: chain. -/
import Derived.Test.YtmdfdlljeggbbaaRb4
set_option linter.unusedSimpArgs false
set_option linter.unusedVariables false
set_option maxRecDepth 100000
namespace Go.Proofs.Ytmdfdlljeggbbaa
open Go.RowKit
/-- Atoms are read so, up to a length. -/
def HA (n : Nat) : Prop := ∀ l : List UInt8, l.length ≤ n → ∀ R, Atom l R → Fits 49 l R
def catR : Except Nat (List Rx × List UInt8) → Except Nat (Rx × List UInt8)
  | .ok (xs, r) => .ok (cats xs, r)
  | .error k => .error k
def orR : Except Nat (List Rx × List UInt8) → Except Nat (Rx × List UInt8)
  | .ok (xs, r) => .ok (ors xs, r)
  | .error k => .error k
/-- What is left is what makes R out of it. -/
def Rest (J : List Rx → Rx) (ns P : List Nd) (y : Rx) (R : Except Nat (Rx × List UInt8)) : Except Nat (List Rx × List UInt8) → Prop
  | .ok (xs, r) => ∃ t, R = .ok (t, r) ∧ ns ++ t.flat = P ++ (J (y :: xs)).flat
  | .error k => R = .error k
def ChR (n : Nat) (w : World) (g : Nat) (s : ByteArray) (ns : List Nd) (R : Except Nat (Rx × List UInt8)) (from' : Value) (wr : World) : Prop :=
  ∃ (P : List Nd) (y : Rx) (l : List UInt8) (R' : Except Nat (List Rx × List UInt8)), from' = .int .i64 (P.length : Int) ∧ PAt wr g s l (P ++ y.flat) ∧ Below g w wr ∧ Seq l R' ∧ l.length ≤ n ∧ P.length + y.flat.length + 2 * l.length ≤ 899 ∧ Rest cats ns P y R R'
theorem atom_size {l : List UInt8} {x : Rx} {l1 : List UInt8} (h : Atom l (.ok (x, l1))) : x.flat.length + 1 + 2 * l1.length ≤ 2 * l.length := (sizes l.length l (Nat.le_refl _)).1 x l1 h
set_option maxHeartbeats 2000000 in
theorem chain_any (n : Nat) (hA : HA n) (l : List UInt8) (hl : l.length ≤ n) (R0 : Except Nat (List Rx × List UInt8)) (hS : Seq l R0) : Fits 42 l (catR R0) := by
  intro g s ns w hm hp
  have hlt := hp.lt
  have HP := hid hp
  have HE := hid (chainEnds_any g s l ns w hp)
  have HM := hid hm
  have HAn := hid hA
  clear hp hm hA
  cases hst : stp l with
  | true =>
    have hR : R0 = .ok ([], l) := by
      cases hS with
      | stop _ h => rfl
      | bad _ k h => rw [hst] at h; cases h
      | more _ x l1 xs l2 h => rw [hst] at h; cases h
      | moreBad _ x l1 k h => rw [hst] at h; cases h
    subst hR
    rw [hst] at HE
    clear hS hl hst
    go_enter Try.func42, Try.ntmps42
    go_wp2_with fail
    refine Calls.mono HE.out ?_
    rintro e w1 ⟨rfl, hb1⟩
    go_wp2_with fail
    refine Calls.mono (putA g s l ns ⟨2, z4⟩ _ (HP.out.below hb1) (by have := HM.out; omega)) ?_
    rintro e w2 ⟨rfl, hp2, hb2⟩
    go_wp2_with fail
    refine bodyPost_ret (results_none rfl _ _ _) rfl ?_
    exact ⟨rfl, hp2, (hb1.mono (Nat.le_of_lt hlt)).trans hb2⟩
  | false =>
    rw [hst] at HE
    have hcs : (∃ k, R0 = .error k ∧ Atom l (.error k)) ∨ (∃ x l1 R', Atom l (.ok (x, l1)) ∧ Seq l1 R' ∧ Rest cats ns ns x (catR R0) R') := by
      cases hS with
      | stop _ h => rw [hst] at h; cases h
      | bad _ k h ha => exact Or.inl ⟨k, rfl, ha⟩
      | more _ x l1 xs l2 h ha hs => exact Or.inr ⟨x, l1, _, ha, hs, ⟨_, rfl, rfl⟩⟩
      | moreBad _ x l1 k h ha hs => exact Or.inr ⟨x, l1, _, ha, hs, rfl⟩
    clear hS hst
    obtain ⟨R, hR⟩ : ∃ R, R = catR R0 := ⟨_, rfl⟩
    rcases hcs with ⟨k, rfl, ha⟩ | ⟨x, l1, R', ha, hs, hrest⟩
    · clear hR
      have HF : Hid (∀ w1, Below w.heap.size w w1 → Calls Try.prog 49 #[.pointer (some ⟨g, 0, none⟩)] w1 (TrP w1 g s ns (.error k))) := fun w1 hb => HAn.out l hl _ ha g s ns w1 HM.out (HP.out.below hb)
      have HLN : Hid (∀ w1, Below w.heap.size w w1 → ∃ v, w1.cell? ⟨g, 2, none⟩ = some v ∧ ∃ a c, v = .slice a ns.length c) := fun w1 hb => (HP.out.below hb).len
      clear ha
      go_enter Try.func42, Try.ntmps42
      go_wp2_with fail
      refine Calls.mono HE.out ?_
      rintro e w1 ⟨rfl, hb1⟩
      obtain ⟨v, hv, a0, c0, rfl⟩ := HLN.out w1 hb1
      go_wp2_with fail
      refine Calls.mono (HF.out w1 hb1) ?_
      rintro e w2 ⟨rfl, hs, hb2⟩
      exact ⟨rfl, rfl, hs, (hb1.mono (Nat.le_of_lt hlt)).trans hb2⟩
    · rw [← hR] at hrest ⊢
      clear hR
      have HF : Hid (∀ w1, Below w.heap.size w w1 → Calls Try.prog 49 #[.pointer (some ⟨g, 0, none⟩)] w1 (TrP w1 g s ns (.ok (x, l1)))) := fun w1 hb => HAn.out l hl _ ha g s ns w1 HM.out (HP.out.below hb)
      have HSZ := hid (atom_size ha)
      have HX := hid (And.intro hs hrest)
      clear ha hs hrest
      have HLN : Hid (∀ w1, Below w.heap.size w w1 → ∃ v, w1.cell? ⟨g, 2, none⟩ = some v ∧ ∃ a c, v = .slice a ns.length c) := fun w1 hb => (HP.out.below hb).len
      go_enter Try.func42, Try.ntmps42
      go_wp2_with fail
      refine Calls.mono HE.out ?_
      rintro e w1 ⟨rfl, hb1⟩
      obtain ⟨v, hv, a0, c0, rfl⟩ := HLN.out w1 hb1
      go_wp2_with fail
      refine Calls.mono (HF.out w1 hb1) ?_
      rintro e w2 ⟨rfl, hp2, hb2⟩
      have HST : Hid (ChR n w g s ns R (.int .i64 (ns.length : Int)) w2) := by
        have h3 := HSZ.out
        have h4 := HM.out
        exact ⟨ns, x, l1, R', rfl, hp2, (hb1.mono (Nat.le_of_lt hlt)).trans hb2, HX.out.1, by have := flat_pos x; omega, by omega, HX.out.2⟩
      clear hb1 hp2 hb2 HF HLN HE HX
      go_wp2_with fail
      go_loopw [2] (fun from' wr => ChR n w g s ns R from' wr) (fun _ wr => s.size - plc wr g)
      case atStart => exact HST.out
      case round =>
        clear HST hv
        obtain ⟨P, y, l', R2, rfl, hp, hb, hs, hln, hz, hrest⟩ := hrel
        have HP' := hid hp
        have HB' := hid hb
        have HE' := hid (chainEnds_any g s l' _ wr hp)
        have hlt' := hp.lt
        have HZ := hid hz
        have HPL := hid (show plc wr g + l'.length = s.size from hp.plc_le)
        clear hp hb hz
        cases hst : stp l' with
        | true =>
          have hR2 : R2 = .ok ([], l') := by
            cases hs with
            | stop _ h => rfl
            | bad _ k h => rw [hst] at h; cases h
            | more _ x l1 xs l2 h => rw [hst] at h; cases h
            | moreBad _ x l1 k h => rw [hst] at h; cases h
          subst hR2
          obtain ⟨t, hRt, htf⟩ := hrest
          have HRT := hid hRt
          have HTF := hid htf
          rw [hst] at HE'
          clear hs hRt htf hst
          go_wp2_with fail
          refine Calls.mono HE'.out ?_
          rintro e w3 ⟨rfl, hb3⟩
          go_wp2_with fail
          go_end0
          rw [HRT.out]
          refine ⟨rfl, ?_, HB'.out.trans (hb3.mono (Nat.le_of_lt hlt'))⟩
          rw [HTF.out]
          exact HP'.out.below hb3
        | false =>
          rw [hst] at HE'
          have hcs : (∃ k, R = .error k ∧ Atom l' (.error k)) ∨ (∃ x l1 R', Atom l' (.ok (x, l1)) ∧ Seq l1 R' ∧ Rest cats ns (P ++ ⟨3, z4⟩ :: y.flat) x R R') := by
            cases hs with
            | stop _ h => rw [hst] at h; cases h
            | bad _ k h ha => exact Or.inl ⟨k, hrest, ha⟩
            | more _ x l1 xs l2 h ha hs =>
              obtain ⟨t, hRt, htf⟩ := hrest
              refine Or.inr ⟨x, l1, _, ha, hs, ⟨t, hRt, ?_⟩⟩
              rw [htf]
              simp [cats, Rx.flat]
            | moreBad _ x l1 k h ha hs => exact Or.inr ⟨x, l1, _, ha, hs, hrest⟩
          clear hs hrest hst
          have HW : Hid (∀ w3, Below wr.heap.size wr w3 → Calls Try.prog 44 #[.pointer (some ⟨g, 0, none⟩), .int .i64 (P.length : Int), .int .i64 3] w3 fun e w' => e = .returned (.tuple #[]) ∧ PAt w' g s l' (P ++ ⟨3, z4⟩ :: y.flat) ∧ Below g w3 w') := fun w3 hb => wrapA g s l' P y.flat 3 w3 (HP'.out.below hb) (by have := HZ.out; simp; omega) (flat_pos y)
          have HPz : Hid ((P ++ ⟨3, z4⟩ :: y.flat).length + 2 * l'.length ≤ 900) := by
            have := HZ.out
            show _ ≤ _
            simp
            omega
          obtain ⟨P2, hP2⟩ : ∃ P2, P2 = P ++ ⟨3, z4⟩ :: y.flat := ⟨_, rfl⟩
          rw [← hP2] at hcs HW HPz
          have HL2 : Hid (P2.length = P.length + 1 + y.flat.length) := by
            show _ = _
            rw [hP2]
            simp
            omega
          clear hP2
          have HRP : Hid (∀ (w5 : World) Ra, PAt w5 g s l' P2 → Atom l' Ra → Calls Try.prog 49 #[.pointer (some ⟨g, 0, none⟩)] w5 (TrP w5 g s P2 Ra)) := fun w5 Ra hp5 ha => HAn.out l' hln _ ha g s P2 w5 HPz.out hp5
          have HLN0 := hid hln
          clear hln
          go_wp2_with fail
          refine Calls.mono HE'.out ?_
          rintro e w3 ⟨rfl, hb3⟩
          go_wp2_with fail
          refine Calls.mono (HW.out w3 hb3) ?_
          rintro e w4 ⟨rfl, hp4, hb4⟩
          obtain ⟨v4, hv4, a4, c4, rfl⟩ := hp4.len
          have HB4 := hid (HB'.out.trans ((hb3.mono (Nat.le_of_lt hlt')).trans hb4))
          clear HW hb3 hb4 HE'
          rcases hcs with ⟨k, hRk, ha⟩ | ⟨x', l1', R', ha, hs, hrest⟩
          · have HRk := hid hRk
            have HC := hid (HRP.out w4 _ hp4 ha)
            clear hRk ha hp4
            go_wp2_with fail
            refine Calls.mono HC.out ?_
            rintro e w5 ⟨rfl, hs, hb5⟩
            refine ⟨rfl, ?_⟩
            rw [HRk.out]
            exact ⟨rfl, hs, HB4.out.trans hb5⟩
          · have HC := hid (HRP.out w4 _ hp4 ha)
            have HX := hid (And.intro hs hrest)
            have HSZ2 := hid (atom_size ha)
            clear ha hp4 hs hrest
            go_wp2_with fail
            refine Calls.mono HC.out ?_
            rintro e w5 ⟨rfl, hp5, hb5⟩
            have HE5 : Hid (ChR n w g s ns R (.int .i64 (P2.length : Int)) w5 ∧ s.size - plc w5 g < s.size - plc wr g) := by
              have h1 := HSZ2.out
              have h2 := HPz.out
              have h3 := HPL.out
              have h4 := hp5.plc_le
              have h5 := HL2.out
              have h6 := HZ.out
              have h7 := flat_pos x'
              have h8 := HLN0.out
              refine ⟨⟨P2, x', l1', R', rfl, hp5, HB4.out.trans hb5, HX.out.1, ?_, ?_, HX.out.2⟩, ?_⟩
              · omega
              · omega
              · omega
            clear hp5 hb5 HC HX
            go_wp2_with fail
            exact HE5.out
end Go.Proofs.Ytmdfdlljeggbbaa
