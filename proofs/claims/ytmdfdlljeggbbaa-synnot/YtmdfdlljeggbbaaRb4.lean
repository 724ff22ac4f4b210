/- The landed reader: repeated. -/
import Derived.Test.YtmdfdlljeggbbaaRb3
set_option linter.unusedSimpArgs false
set_option linter.unusedVariables false
set_option maxRecDepth 100000
namespace Go.Proofs.Ytmdfdlljeggbbaa
open Go.RowKit
def TrP (w : World) (g : Nat) (s : ByteArray) (ns : List Nd) (R : Except Nat (Rx × List UInt8)) (e : Ending) (w' : World) : Prop :=
  match R with
  | .ok (t, r) => e = .returned (.tuple #[]) ∧ PAt w' g s r (ns ++ t.flat) ∧ Below g w w'
  | .error k => e = .panicked (mis ((s.size : Int) - (k : Int))) ∧ Stk w' g ∧ Below g w w'
/-- A function of the reader reads so. -/
def Fits (F : FuncId) (l : List UInt8) (R : Except Nat (Rx × List UInt8)) : Prop :=
  ∀ (g : Nat) (s : ByteArray) (ns : List Nd) (w : World), ns.length + 2 * l.length ≤ 900 → PAt w g s l ns → Calls Try.prog F #[.pointer (some ⟨g, 0, none⟩)] w (TrP w g s ns R)
/-- Between two signs. -/
def RpR (w : World) (g : Nat) (s : ByteArray) (ns : List Nd) (R : Rx × List UInt8) (op : Value) (wr : World) : Prop :=
  ∃ (t : Rx) (o : Int) (r : List UInt8), op = .int .i64 o ∧ PAt wr g s r (ns ++ t.flat) ∧ Below g w wr ∧ ns.length + t.flat.length + 2 * r.length ≤ 1000 - 10 ∧
    ((o = 0 ∧ R = (t, r)) ∨ (o ≠ 0 ∧ R = posts (.one ⟨o, z4⟩ t) r ∧ ns.length + t.flat.length + 2 * r.length ≤ 1000 - 11))
def rpM (s : ByteArray) (g : Nat) (op : Value) (wr : World) : Nat := 2 * (s.size - plc wr g) + (if intOf op = 0 then 0 else 1)
theorem flat_pos : ∀ t : Rx, 0 < t.flat.length
  | .leaf n => by simp [Rx.flat]
  | .one n t => by simp [Rx.flat]
  | .two n t u => by simp [Rx.flat]
theorem PAt.plc_le {w : World} {g : Nat} {s : ByteArray} {l : List UInt8} {ns : List Nd} (h : PAt w g s l ns) : plc w g + l.length = s.size := by
  obtain ⟨a, v, h, _⟩ := h
  rw [h.plc]
  exact h.le
theorem PAt.len {w : World} {g : Nat} {s : ByteArray} {l : List UInt8} {ns : List Nd} (h : PAt w g s l ns) : ∃ v, w.cell? ⟨g, 2, none⟩ = some v ∧ ∃ a c, v = .slice a ns.length c := by
  obtain ⟨a, v, h, hO⟩ := h
  refine ⟨v, h.rd.all.2.2.1, ?_⟩
  rcases hO.2 with ⟨hv, h0⟩ | ⟨b, cap, cur, hv, _⟩
  · have h0' : ns.length = 0 := h0
    exact ⟨none, 0, by rw [hv, h0']⟩
  · exact ⟨_, cap, hv⟩
set_option maxHeartbeats 2000000 in
theorem repeated_ok (l : List UInt8) (t : Rx) (r : List UInt8) (h : Fits 53 l (.ok (t, r))) (hsz : t.flat.length + 1 + 2 * r.length ≤ 2 * l.length) : Fits 49 l (.ok (posts t r)) := by
  intro g s ns w hm hp
  have HF := hid (h g s ns w hm hp)
  have hlt := hp.lt
  obtain ⟨v, hv, a0, c0, rfl⟩ := hp.len
  have HSZ := hid (And.intro hm hsz)
  obtain ⟨R, hR⟩ : ∃ R, R = posts t r := ⟨_, rfl⟩
  rw [← hR]
  have HR := hid hR
  clear h hp hm hsz hR
  go_enter Try.func49, Try.ntmps49
  go_wp2_with fail
  refine Calls.mono HF.out ?_
  rintro e w1 ⟨rfl, hp1, hb1⟩
  go_wp2_with fail
  refine Calls.mono (mark_any g s r _ _ hp1) ?_
  rintro e w2 ⟨rfl, hp2, hb2⟩
  have HST : Hid (RpR w g s ns R (.int .i64 (markR r).1) w2) := by
    have h1 := markR_posts t r
    have h2 := markR_len r
    have h3 := HSZ.out
    refine ⟨t, (markR r).1, (markR r).2, rfl, hp2, hb1.trans (hb2.mono (Nat.le_refl _)), ?_, ?_⟩
    · split at h2
      · rw [h2]; omega
      · omega
    · split at h1
      · rename_i h0
        rw [if_pos h0] at h2
        exact Or.inl ⟨h0, by rw [h2]; exact HR.out.trans h1⟩
      · rename_i h0
        rw [if_neg h0] at h2
        exact Or.inr ⟨h0, HR.out.trans h1, by omega⟩
  clear HF hp1 hb1 hp2 hb2 HSZ HR
  generalize (markR r).1 = o0 at *
  go_wp2_with fail
  go_loopw [3] (fun op wr => RpR w g s ns R op wr) (fun op wr => rpM s g op wr)
  case atStart => exact HST.out
  case round =>
    clear HST
    obtain ⟨t', o, r', rfl, hp, hb, hz, hor⟩ := hrel
    rcases hor with ⟨rfl, hR⟩ | ⟨ho, hR, hz2⟩
    · have HR := hid hR
      clear hR hz
      go_wp2
      go_end0
      rw [HR.out]
      exact ⟨rfl, hp, hb⟩
    · have HR := hid hR
      have HZ := hid hz2
      have HPL := hid (show plc wr g + r'.length = s.size from hp.plc_le)
      have HO := hid ho
      have hne : (o != 0) = true := by simp [ho]
      have hpw := wrapA g s r' ns t'.flat o wr hp (by simp; omega) (flat_pos t')
      have HW := hid hpw
      clear hR hz hz2 hpw ho
      go_wp2_with fail
      refine Calls.mono HW.out ?_
      rintro e w3 ⟨rfl, hp3, hb3⟩
      go_wp2_with fail
      refine Calls.mono (mark_any g s r' _ _ hp3) ?_
      rintro e w4 ⟨rfl, hp4, hb4⟩
      have HE : Hid (RpR w g s ns R (.int .i64 (markR r').1) w4 ∧ rpM s g (.int .i64 (markR r').1) w4 < rpM s g (.int .i64 o) wr) := by
        have h1 := markR_posts (.one ⟨o, z4⟩ t') r'
        have h2 := markR_len r'
        have h3 := HZ.out
        have h4 := hp4.plc_le
        have h5 := HPL.out
        have h6 := HO.out
        have hfl : (Rx.one ⟨o, z4⟩ t').flat.length = t'.flat.length + 1 := by simp [Rx.flat]
        refine ⟨⟨.one ⟨o, z4⟩ t', (markR r').1, (markR r').2, rfl, hp4, hb.trans (hb3.trans hb4), ?_, ?_⟩, ?_⟩
        · rw [hfl]
          split at h2
          · rw [h2]; omega
          · omega
        · rw [hfl]
          split at h1
          · rename_i h0
            rw [if_pos h0] at h2
            exact Or.inl ⟨h0, by rw [h2]; exact HR.out.trans h1⟩
          · rename_i h0
            rw [if_neg h0] at h2
            exact Or.inr ⟨h0, HR.out.trans h1, by omega⟩
        · show 2 * (s.size - plc w4 g) + (if (markR r').1 = 0 then 0 else 1) < 2 * (s.size - plc wr g) + (if o = 0 then 0 else 1)
          rw [if_neg h6]
          split at h2
          · rename_i h0
            rw [if_pos h0]
            rw [h2] at h4
            omega
          · rename_i h0
            rw [if_neg h0]
            omega
      clear hp hb hp3 hb3 hp4 hb4 HW HR HZ HPL
      generalize (markR r').1 = o2 at *
      go_wp2_with fail
      exact HE.out
theorem repeated_bad (l : List UInt8) (k : Nat) (h : Fits 53 l (.error k)) : Fits 49 l (.error k) := by
  intro g s ns w hm hp
  have HF := hid (h g s ns w hm hp)
  obtain ⟨v, hv, a0, c0, rfl⟩ := hp.len
  clear h hp hm
  go_enter Try.func49, Try.ntmps49
  go_wp2_with fail
  refine Calls.mono HF.out ?_
  rintro e w1 ⟨rfl, hs, hb⟩
  exact ⟨rfl, rfl, hs, hb⟩
end Go.Proofs.Ytmdfdlljeggbbaa
