/- The landed reader: choice. -/
import Derived.Test.YtmdfdlljeggbbaaRb5
set_option linter.unusedSimpArgs false
set_option linter.unusedVariables false
set_option maxRecDepth 100000
namespace Go.Proofs.Ytmdfdlljeggbbaa
open Go.RowKit
/-- Chains are read so, up to a length. -/
def HCh (n : Nat) : Prop := ∀ l : List UInt8, l.length ≤ n → ∀ R, Seq l R → Fits 42 l (catR R)
/-- One side more, ahead. -/
def conR (x : Rx) : Except Nat (List Rx × List UInt8) → Except Nat (List Rx × List UInt8)
  | .ok (ss, r) => .ok (x :: ss, r)
  | .error k => .error k
theorem alt_cases {l : List UInt8} {R0 : Except Nat (List Rx × List UInt8)} (h : Alt l R0) :
    (∃ k, Seq l (.error k) ∧ R0 = .error k) ∨ (∃ xs l1, Seq l (.ok (xs, l1)) ∧ ((l1.head? ≠ some 124 ∧ R0 = .ok ([cats xs], l1)) ∨ (∃ l2 R', l1 = 124 :: l2 ∧ Alt l2 R' ∧ R0 = conR (cats xs) R'))) := by
  cases h with
  | bad _ k h => exact Or.inl ⟨k, h, rfl⟩
  | last _ xs l1 h hh => exact Or.inr ⟨xs, l1, h, Or.inl ⟨hh, rfl⟩⟩
  | more _ xs l1 ss l2 h ha => exact Or.inr ⟨xs, _, h, Or.inr ⟨l1, _, rfl, ha, rfl⟩⟩
  | moreBad _ xs l1 k h ha => exact Or.inr ⟨xs, _, h, Or.inr ⟨l1, _, rfl, ha, rfl⟩⟩
theorem seq_size {l : List UInt8} {xs : List Rx} {l1 : List UInt8} (h : Seq l (.ok (xs, l1))) : (cats xs).flat.length + 2 * l1.length ≤ 2 * l.length + 1 ∧ l1.length ≤ l.length := by
  have h1 := (sizes l.length l (Nat.le_refl _)).2.1 xs l1 h
  have h2 := catL_len (xs.map Rx.flat)
  rw [cats_flat]
  simp only [List.length_map] at h2
  omega
def ChO (n : Nat) (w : World) (g : Nat) (s : ByteArray) (ns : List Nd) (R : Except Nat (Rx × List UInt8)) (from' : Value) (wr : World) : Prop :=
  ∃ (P : List Nd) (y : Rx) (l : List UInt8), from' = .int .i64 (P.length : Int) ∧ PAt wr g s l (P ++ y.flat) ∧ Below g w wr ∧ l.length ≤ n ∧ P.length + y.flat.length + 2 * l.length ≤ 901 ∧
    ((l.head? ≠ some 124 ∧ ∃ t, R = .ok (t, l) ∧ ns ++ t.flat = P ++ y.flat) ∨ (∃ l2 R', l = 124 :: l2 ∧ Alt l2 R' ∧ Rest ors ns P y R R'))
theorem rest_next {ns P : List Nd} {y z : Rx} {R : Except Nat (Rx × List UInt8)} {R' : Except Nat (List Rx × List UInt8)} (h : Rest ors ns P y R (conR z R')) : Rest ors ns (P ++ ⟨4, z4⟩ :: y.flat) z R R' := by
  cases R' with
  | error k => exact h
  | ok p =>
    obtain ⟨ss, r⟩ := p
    obtain ⟨t, hR, hf⟩ := h
    refine ⟨t, hR, ?_⟩
    rw [hf]
    simp [ors, Rx.flat]
theorem rest_first (ns : List Nd) (z : Rx) (R' : Except Nat (List Rx × List UInt8)) : Rest ors ns ns z (orR (conR z R')) R' := by
  cases R' with
  | error k => rfl
  | ok p => obtain ⟨ss, r⟩ := p; exact ⟨_, rfl, rfl⟩
set_option maxHeartbeats 2000000 in
theorem choice_any (n : Nat) (hC : HCh n) (l : List UInt8) (hl : l.length ≤ n) (R0 : Except Nat (List Rx × List UInt8)) (hS : Alt l R0) : Fits 35 l (orR R0) := by
  intro g s ns w hm hp
  have hlt := hp.lt
  have HP := hid hp
  have HM := hid hm
  have HCn := hid hC
  obtain ⟨v, hv, a0, c0, rfl⟩ := hp.len
  clear hp hm hC
  rcases alt_cases hS with ⟨k, hs, rfl⟩ | ⟨xs, l1, hs, hcs⟩
  · have HF := hid (HCn.out l hl _ hs g s ns w HM.out HP.out)
    clear hs hS
    go_enter Try.func35, Try.ntmps35
    go_wp2_with fail
    refine Calls.mono HF.out ?_
    rintro e w2 ⟨rfl, hs, hb2⟩
    exact ⟨rfl, rfl, hs, hb2⟩
  · have HF := hid (HCn.out l hl _ hs g s ns w HM.out HP.out)
    have HSZ := hid (seq_size hs)
    obtain ⟨R, hR⟩ : ∃ R, R = orR R0 := ⟨_, rfl⟩
    have hcs2 : (l1.head? ≠ some 124 ∧ ∃ t, R = .ok (t, l1) ∧ ns ++ t.flat = ns ++ (cats xs).flat) ∨ (∃ l2 R', l1 = 124 :: l2 ∧ Alt l2 R' ∧ Rest ors ns ns (cats xs) R R') := by
      rcases hcs with ⟨hh, rfl⟩ | ⟨l2, R', h1, h2, rfl⟩
      · exact Or.inl ⟨hh, _, hR, rfl⟩
      · refine Or.inr ⟨l2, R', h1, h2, ?_⟩
        rw [hR]
        exact rest_first ns _ R'
    rw [← hR]
    have HX := hid hcs2
    have HLl := hid hl
    clear hs hcs hcs2 hS hR hl
    go_enter Try.func35, Try.ntmps35
    go_wp2_with fail
    refine Calls.mono HF.out ?_
    rintro e w2 ⟨rfl, hp2, hb2⟩
    have HST : Hid (ChO n w g s ns R (.int .i64 (ns.length : Int)) w2) := by
      have h3 := HSZ.out
      have h4 := HM.out
      have h5 := HLl.out
      exact ⟨ns, cats xs, l1, rfl, hp2, hb2, by omega, by omega, HX.out⟩
    clear hp2 hb2 HF HX
    go_wp2_with fail
    go_loopw [2] (fun from' wr => ChO n w g s ns R from' wr) (fun _ wr => s.size - plc wr g)
    case atStart => exact HST.out
    case round =>
      clear HST hv
      obtain ⟨P, y, l', rfl, hp, hb, hln, hz, hor⟩ := hrel
      have HP' := hid hp
      have HB' := hid hb
      have hlt' := hp.lt
      have HZ := hid hz
      have HPL := hid (show plc wr g + l'.length = s.size from hp.plc_le)
      have HLN0 := hid hln
      clear hp hb hz hln
      rcases hor with ⟨hh, t, hRt, htf⟩ | ⟨l2, R', rfl, ha, hrest⟩
      · have HRT := hid hRt
        have HTF := hid htf
        clear hRt htf
        go_wp2_with fail
        refine Calls.mono (skipN g s l' _ 124 _ rfl _ HP'.out hh) ?_
        rintro e w3 ⟨rfl, hp3, hb3⟩
        go_wp2_with fail
        go_end0
        rw [HRT.out]
        refine ⟨rfl, ?_, HB'.out.trans (hb3.mono (Nat.le_of_lt hlt'))⟩
        rw [HTF.out]
        exact hp3
      · have HAL := hid (And.intro ha hrest)
        clear ha hrest
        go_wp2_with fail
        refine Calls.mono (skipY g s l2 _ 124 _ rfl _ HP'.out) ?_
        rintro e w3 ⟨rfl, hp3, hb3⟩
        have HW := hid (wrapA g s l2 P y.flat 4 w3 hp3 (by have := HZ.out; simp; omega) (flat_pos y))
        have HB3 := hid (HB'.out.trans hb3)
        clear hp3 hb3
        have HPz : Hid ((P ++ ⟨4, z4⟩ :: y.flat).length + 2 * l2.length ≤ 900) := by
          have := HZ.out
          show _ ≤ _
          simp at this ⊢
          omega
        have HRN := hid (fun (z : Rx) (R2 : Except Nat (List Rx × List UInt8)) (h : Rest ors ns P y R (conR z R2)) => rest_next h)
        have HR1 : Hid (∀ (z : Rx) (r : List UInt8), Rest ors ns P y R (.ok ([z], r)) → ∃ t, R = .ok (t, r) ∧ ns ++ t.flat = (P ++ ⟨4, z4⟩ :: y.flat) ++ z.flat) := by
          rintro z r ⟨t, h1, h2⟩
          refine ⟨t, h1, ?_⟩
          rw [h2]
          simp [ors, Rx.flat]
        obtain ⟨P2, hP2⟩ : ∃ P2, P2 = P ++ ⟨4, z4⟩ :: y.flat := ⟨_, rfl⟩
        rw [← hP2] at HW HPz HRN HR1
        have HL2 : Hid (P2.length = P.length + 1 + y.flat.length) := by
          show _ = _
          rw [hP2]
          simp
          omega
        clear hP2
        go_wp2_with fail
        refine Calls.mono HW.out ?_
        rintro e w4 ⟨rfl, hp4, hb4⟩
        obtain ⟨v4, hv4, a4, c4, rfl⟩ := hp4.len
        have HB4 := hid (HB3.out.trans hb4)
        have HLl2 : Hid (l2.length ≤ n) := by have := HLN0.out; show _ ≤ _; simp at this; omega
        clear HW hb4
        rcases alt_cases HAL.out.1 with ⟨k, hs, hRk⟩ | ⟨xs', l1', hs, hcs⟩
        · have HC := hid (HCn.out l2 HLl2.out _ hs g s P2 w4 HPz.out hp4)
          have HRk : Hid (R = .error k) := by
            have h := HAL.out.2
            rw [hRk] at h
            exact h
          clear hs hRk hp4
          go_wp2_with fail
          refine Calls.mono HC.out ?_
          rintro e w5 ⟨rfl, hs, hb5⟩
          refine ⟨rfl, ?_⟩
          rw [HRk.out]
          exact ⟨rfl, hs, HB4.out.trans hb5⟩
        · have HC := hid (HCn.out l2 HLl2.out _ hs g s P2 w4 HPz.out hp4)
          have HSZ2 := hid (seq_size hs)
          have HX : Hid ((l1'.head? ≠ some 124 ∧ ∃ t, R = .ok (t, l1') ∧ ns ++ t.flat = P2 ++ (cats xs').flat) ∨ (∃ l3 R2, l1' = 124 :: l3 ∧ Alt l3 R2 ∧ Rest ors ns P2 (cats xs') R R2)) := by
            have h := HAL.out.2
            rcases hcs with ⟨hh, rfl⟩ | ⟨l3, R2, h1, h2, rfl⟩
            · exact Or.inl ⟨hh, HR1.out _ _ h⟩
            · exact Or.inr ⟨l3, R2, h1, h2, HRN.out _ _ h⟩
          clear hs hcs hp4
          go_wp2_with fail
          refine Calls.mono HC.out ?_
          rintro e w5 ⟨rfl, hp5, hb5⟩
          have HE5 : Hid (ChO n w g s ns R (.int .i64 (P2.length : Int)) w5 ∧ s.size - plc w5 g < s.size - plc wr g) := by
            have h1 := HSZ2.out
            have h2 := HPz.out
            have h3 := HPL.out
            have h4 := hp5.plc_le
            have h5 := HL2.out
            have h6 := HZ.out
            have h8 := HLl2.out
            simp at h3 h6
            refine ⟨⟨P2, cats xs', l1', rfl, hp5, HB4.out.trans hb5, ?_, ?_, HX.out⟩, ?_⟩
            · omega
            · omega
            · omega
          clear hp5 hb5 HC HX
          go_wp2_with fail
          exact HE5.out
end Go.Proofs.Ytmdfdlljeggbbaa
