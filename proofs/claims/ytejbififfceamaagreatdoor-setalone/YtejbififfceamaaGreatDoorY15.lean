/- The landed reader: mark, chainEnds, how many nodes there are. The landed reader: repeated. The landed reader: chain. The landed reader: choice. The landed reader: group, single with brackets; all by induction. The landed reader: what is deferred in read. -/
import Derived.Test.YtejbififfceamaaGreatDoorY14
import Derived.Recover
namespace Go.Proofs.YtejbififfceamaaGreatDoor
set_option linter.unusedSimpArgs false
set_option linter.unusedVariables false
set_option maxRecDepth 100000
open Go.RowKit
/-- A sign behind a part, and what is left. -/
def markR (l : List UInt8) : Int × List UInt8 :=
  if l.head? = some 42 then (5, l.tail) else if l.head? = some 43 then (6, l.tail) else if l.head? = some 63 then (7, l.tail) else (0, l)
theorem markR_posts (t : Rx) (l : List UInt8) : posts t l = if (markR l).1 = 0 then (t, l) else posts (.one ⟨(markR l).1, z4⟩ t) (markR l).2 := by
  cases l with
  | nil => simp [posts, markR]
  | cons c r =>
    rw [posts]
    by_cases h1 : c = 42
    · subst h1; simp [markR]
    · by_cases h2 : c = 43
      · subst h2; simp [markR]
      · by_cases h3 : c = 63
        · subst h3; simp [markR]
        · simp [markR, h1, h2, h3]
theorem markR_len (l : List UInt8) : if (markR l).1 = 0 then (markR l).2 = l else (markR l).2.length + 1 = l.length := by
  unfold markR
  split
  · rename_i h; have := (tail_len l _ h).2; simp; omega
  · split
    · rename_i h; have := (tail_len l _ h).2; simp; omega
    · split
      · rename_i h; have := (tail_len l _ h).2; simp; omega
      · simp
set_option maxHeartbeats 1000000 in
theorem mark_none (g : Nat) (s : ByteArray) (l : List UInt8) (ns : List Nd) (h1 : l.head? ≠ some 42) (h2 : l.head? ≠ some 43) (h3 : l.head? ≠ some 63) (w : World) (h : PAt w g s l ns) :
    Calls Tryz.prog 118 #[.pointer (some ⟨g, 0, none⟩)] w fun e w' => e = .returned (.int .i64 0) ∧ PAt w' g s l ns ∧ Below g w w' := by
  have hlt := h.lt
  have HP := hid h
  have HB := hid (Below.refl g w)
  clear h
  go_enter Tryz.func118, Tryz.ntmps118
  go_wp2_with fail
  refine Calls.mono (skipN g s _ ns 42 _ rfl _ HP.out h1) ?_
  rintro e w1 ⟨rfl, hp, hb⟩
  replace HP := hid hp
  replace HB := hid (HB.out.trans (hb.mono (Nat.le_trans (Nat.le_of_lt hlt) HB.out.size)))
  clear hp hb
  go_wp2_with fail
  refine Calls.mono (skipN g s _ ns 43 _ rfl _ HP.out h2) ?_
  rintro e w2 ⟨rfl, hp, hb⟩
  replace HP := hid hp
  replace HB := hid (HB.out.trans (hb.mono (Nat.le_trans (Nat.le_of_lt hlt) HB.out.size)))
  clear hp hb
  go_wp2_with fail
  refine Calls.mono (skipN g s _ ns 63 _ rfl _ HP.out h3) ?_
  rintro e w3 ⟨rfl, hp, hb⟩
  replace HP := hid hp
  replace HB := hid (HB.out.trans (hb.mono (Nat.le_trans (Nat.le_of_lt hlt) HB.out.size)))
  clear hp hb
  go_wp2
  go_ret
  exact ⟨rfl, HP.out, HB.out⟩
set_option maxHeartbeats 1000000 in
theorem mark_star (g : Nat) (s : ByteArray) (r : List UInt8) (ns : List Nd) (w : World) (h : PAt w g s (42 :: r) ns) :
    Calls Tryz.prog 118 #[.pointer (some ⟨g, 0, none⟩)] w fun e w' => e = .returned (.int .i64 5) ∧ PAt w' g s r ns ∧ Below g w w' := by
  have HP := hid h
  clear h
  go_enter Tryz.func118, Tryz.ntmps118
  go_wp2_with fail
  refine Calls.mono (skipY g s r ns 42 _ rfl _ HP.out) ?_
  rintro e w1 ⟨rfl, hp, hb⟩
  go_wp2
  go_ret
  exact ⟨rfl, hp, hb⟩
set_option maxHeartbeats 1000000 in
theorem mark_plus (g : Nat) (s : ByteArray) (r : List UInt8) (ns : List Nd) (w : World) (h : PAt w g s (43 :: r) ns) :
    Calls Tryz.prog 118 #[.pointer (some ⟨g, 0, none⟩)] w fun e w' => e = .returned (.int .i64 6) ∧ PAt w' g s r ns ∧ Below g w w' := by
  have hlt := h.lt
  have HP := hid h
  have HB := hid (Below.refl g w)
  clear h
  go_enter Tryz.func118, Tryz.ntmps118
  go_wp2_with fail
  refine Calls.mono (skipN g s _ ns 42 _ rfl _ HP.out (by simp)) ?_
  rintro e w1 ⟨rfl, hp, hb⟩
  replace HP := hid hp
  replace HB := hid (HB.out.trans (hb.mono (Nat.le_trans (Nat.le_of_lt hlt) HB.out.size)))
  clear hp hb
  go_wp2_with fail
  refine Calls.mono (skipY g s r ns 43 _ rfl _ HP.out) ?_
  rintro e w2 ⟨rfl, hp, hb⟩
  go_wp2
  go_ret
  exact ⟨rfl, hp, HB.out.trans hb⟩
set_option maxHeartbeats 1000000 in
theorem mark_opt (g : Nat) (s : ByteArray) (r : List UInt8) (ns : List Nd) (w : World) (h : PAt w g s (63 :: r) ns) :
    Calls Tryz.prog 118 #[.pointer (some ⟨g, 0, none⟩)] w fun e w' => e = .returned (.int .i64 7) ∧ PAt w' g s r ns ∧ Below g w w' := by
  have hlt := h.lt
  have HP := hid h
  have HB := hid (Below.refl g w)
  clear h
  go_enter Tryz.func118, Tryz.ntmps118
  go_wp2_with fail
  refine Calls.mono (skipN g s _ ns 42 _ rfl _ HP.out (by simp)) ?_
  rintro e w1 ⟨rfl, hp, hb⟩
  replace HP := hid hp
  replace HB := hid (HB.out.trans (hb.mono (Nat.le_trans (Nat.le_of_lt hlt) HB.out.size)))
  clear hp hb
  go_wp2_with fail
  refine Calls.mono (skipN g s _ ns 43 _ rfl _ HP.out (by simp)) ?_
  rintro e w2 ⟨rfl, hp, hb⟩
  replace HP := hid hp
  replace HB := hid (HB.out.trans (hb.mono (Nat.le_trans (Nat.le_of_lt hlt) HB.out.size)))
  clear hp hb
  go_wp2_with fail
  refine Calls.mono (skipY g s r ns 63 _ rfl _ HP.out) ?_
  rintro e w3 ⟨rfl, hp, hb⟩
  go_wp2
  go_ret
  exact ⟨rfl, hp, HB.out.trans hb⟩
theorem mark_any (g : Nat) (s : ByteArray) (l : List UInt8) (ns : List Nd) (w : World) (h : PAt w g s l ns) :
    Calls Tryz.prog 118 #[.pointer (some ⟨g, 0, none⟩)] w fun e w' => e = .returned (.int .i64 (markR l).1) ∧ PAt w' g s (markR l).2 ns ∧ Below g w w' := by
  unfold markR
  by_cases h1 : l.head? = some 42
  · rw [if_pos h1]
    rw [(tail_len l _ h1).1] at h
    exact mark_star g s l.tail ns w h
  · rw [if_neg h1]
    by_cases h2 : l.head? = some 43
    · rw [if_pos h2]
      rw [(tail_len l _ h2).1] at h
      exact mark_plus g s l.tail ns w h
    · rw [if_neg h2]
      by_cases h3 : l.head? = some 63
      · rw [if_pos h3]
        rw [(tail_len l _ h3).1] at h
        exact mark_opt g s l.tail ns w h
      · rw [if_neg h3]
        exact mark_none g s l ns h1 h2 h3 w h
set_option maxHeartbeats 1000000 in
theorem chainEnds_any (g : Nat) (s : ByteArray) (l : List UInt8) (ns : List Nd) (w : World) (h : PAt w g s l ns) :
    Calls Tryz.prog 91 #[.pointer (some ⟨g, 0, none⟩)] w fun e w' => e = .returned (.bool (stp l)) ∧ Below w.heap.size w w' := by
  obtain ⟨a, v, h, _⟩ := h
  have HP := hid h
  clear h
  cases l with
  | nil =>
    go_enter Tryz.func91, Tryz.ntmps91
    go_wp2_with fail
    refine Calls.mono (more_nil g s a v _ HP.out) ?_
    rintro e w1 ⟨rfl, hb⟩
    go_wp2
    go_ret
    exact ⟨rfl, hb⟩
  | cons c r =>
    have HS : Hid (stp (c :: r) = (c == 124 || c == 41)) := by show _ = _; rfl
    rw [HS.out]
    clear HS
    go_enter Tryz.func91, Tryz.ntmps91
    go_wp2_with fail
    refine Calls.mono (more_cons g s a v c r _ HP.out) ?_
    rintro e w1 ⟨rfl, hb⟩
    go_wp2_with fail
    refine Calls.mono (rsees_any g s a v _ 124 _ rfl _ (HP.out.below hb)) ?_
    rintro e w2 ⟨rfl, hb2⟩
    replace hb := hb.trans (hb2.mono hb.size)
    clear hb2
    by_cases h1 : c = 124
    · subst h1
      have HX : Hid (decide ((124 :: r).head? = some 124) = true) := by show _ = _; simp
      rw [HX.out]
      go_wp2
      go_ret
      exact ⟨rfl, hb⟩
    · have HX : Hid (decide ((c :: r).head? = some 124) = false) := by show _ = _; simp [h1]
      rw [HX.out]
      go_wp2_with fail
      refine Calls.mono (rsees_any g s a v _ 41 _ rfl _ (HP.out.below hb)) ?_
      rintro e w3 ⟨rfl, hb3⟩
      replace hb := hb.trans (hb3.mono hb.size)
      clear hb3
      have HY : Hid (decide ((c :: r).head? = some 41) = (c == 124 || c == 41)) := by
        show _ = _
        by_cases h2 : c = 41
        · subst h2; simp
        · simp [h1, h2]
      obtain ⟨q, hq⟩ : ∃ q, q = decide ((c :: r).head? = some 41) := ⟨_, rfl⟩
      rw [← hq]
      have HQ := hid hq
      clear hq
      go_wp2
      go_ret
      exact ⟨ret_bool (HQ.out.trans HY.out), hb⟩
end Go.Proofs.YtejbififfceamaaGreatDoor
namespace Go.Proofs.YtejbififfceamaaGreatDoor
set_option linter.unusedSimpArgs false
set_option linter.unusedVariables false
set_option maxRecDepth 100000
open Go.RowKit
def TrP (w : World) (g : Nat) (s : ByteArray) (ns : List Nd) (R : Except Nat (Rx × List UInt8)) (e : Ending) (w' : World) : Prop :=
  match R with
  | .ok (t, r) => e = .returned (.tuple #[]) ∧ PAt w' g s r (ns ++ t.flat) ∧ Below g w w'
  | .error k => e = .panicked (mis ((s.size : Int) - (k : Int))) ∧ Stk w' g ∧ Below g w w'
/-- A function of the reader reads so. -/
def Fits (F : FuncId) (l : List UInt8) (R : Except Nat (Rx × List UInt8)) : Prop :=
  ∀ (g : Nat) (s : ByteArray) (ns : List Nd) (w : World), ns.length + 2 * l.length ≤ 900 → PAt w g s l ns → Calls Tryz.prog F #[.pointer (some ⟨g, 0, none⟩)] w (TrP w g s ns R)
/-- Between two signs. -/
def RpR (w : World) (g : Nat) (s : ByteArray) (ns : List Nd) (R : Rx × List UInt8) (op : Value) (wr : World) : Prop :=
  ∃ (t : Rx) (o : Int) (r : List UInt8), op = .int .i64 o ∧ PAt wr g s r (ns ++ t.flat) ∧ Below g w wr ∧ ns.length + t.flat.length + 2 * r.length ≤ 1000 - 10 ∧
    ((o = 0 ∧ R = (t, r)) ∨ (o ≠ 0 ∧ R = posts (.one ⟨o, z4⟩ t) r ∧ ns.length + t.flat.length + 2 * r.length ≤ 1000 - 11))
def rpM (s : ByteArray) (g : Nat) (op : Value) (wr : World) : Nat := 2 * (s.size - plc wr g) + (if intOf op = 0 then 0 else 1)
theorem flat_pos : ∀ t : Rx, 0 < t.flat.length
  | .leaf n => by simp [Rx.flat]
  | .one n t => by simp [Rx.flat]
  | .two n t u => by simp [Rx.flat]
theorem PAt.plc_le {w : World} {g : Nat} {s : ByteArray} {l : List UInt8} {ns : List Nd} (h : PAt w g s l ns) : plc w g + l.length = s.size := by
  obtain ⟨a, v, h, _⟩ := h
  rw [h.plc]
  exact h.le
theorem PAt.len {w : World} {g : Nat} {s : ByteArray} {l : List UInt8} {ns : List Nd} (h : PAt w g s l ns) : ∃ v, w.cell? ⟨g, 2, none⟩ = some v ∧ ∃ a c, v = .slice a ns.length c := by
  obtain ⟨a, v, h, hO⟩ := h
  refine ⟨v, h.rd.all.2.2.1, ?_⟩
  rcases hO.2 with ⟨hv, h0⟩ | ⟨b, cap, cur, hv, _⟩
  · have h0' : ns.length = 0 := h0
    exact ⟨none, 0, by rw [hv, h0']⟩
  · exact ⟨_, cap, hv⟩
set_option maxHeartbeats 2000000 in
theorem repeated_ok (l : List UInt8) (t : Rx) (r : List UInt8) (h : Fits 117 l (.ok (t, r))) (hsz : t.flat.length + 1 + 2 * r.length ≤ 2 * l.length) : Fits 93 l (.ok (posts t r)) := by
  intro g s ns w hm hp
  have HF := hid (h g s ns w hm hp)
  have hlt := hp.lt
  obtain ⟨v, hv, a0, c0, rfl⟩ := hp.len
  have HSZ := hid (And.intro hm hsz)
  obtain ⟨R, hR⟩ : ∃ R, R = posts t r := ⟨_, rfl⟩
  rw [← hR]
  have HR := hid hR
  clear h hp hm hsz hR
  go_enter Tryz.func93, Tryz.ntmps93
  go_wp2_with fail
  refine Calls.mono HF.out ?_
  rintro e w1 ⟨rfl, hp1, hb1⟩
  go_wp2_with fail
  refine Calls.mono (mark_any g s r _ _ hp1) ?_
  rintro e w2 ⟨rfl, hp2, hb2⟩
  have HST : Hid (RpR w g s ns R (.int .i64 (markR r).1) w2) := by
    have h1 := markR_posts t r
    have h2 := markR_len r
    have h3 := HSZ.out
    refine ⟨t, (markR r).1, (markR r).2, rfl, hp2, hb1.trans (hb2.mono (Nat.le_refl _)), ?_, ?_⟩
    · split at h2
      · rw [h2]; omega
      · omega
    · split at h1
      · rename_i h0
        rw [if_pos h0] at h2
        exact Or.inl ⟨h0, by rw [h2]; exact HR.out.trans h1⟩
      · rename_i h0
        rw [if_neg h0] at h2
        exact Or.inr ⟨h0, HR.out.trans h1, by omega⟩
  clear HF hp1 hb1 hp2 hb2 HSZ HR
  generalize (markR r).1 = o0 at *
  go_wp2_with fail
  go_loopw [3] (fun op wr => RpR w g s ns R op wr) (fun op wr => rpM s g op wr)
  case atStart => exact HST.out
  case round =>
    clear HST
    obtain ⟨t', o, r', rfl, hp, hb, hz, hor⟩ := hrel
    rcases hor with ⟨rfl, hR⟩ | ⟨ho, hR, hz2⟩
    · have HR := hid hR
      clear hR hz
      go_wp2
      go_end0
      rw [HR.out]
      exact ⟨rfl, hp, hb⟩
    · have HR := hid hR
      have HZ := hid hz2
      have HPL := hid (show plc wr g + r'.length = s.size from hp.plc_le)
      have HO := hid ho
      have hne : (o != 0) = true := by simp [ho]
      have hpw := wrapA g s r' ns t'.flat o wr hp (by simp; omega) (flat_pos t')
      have HW := hid hpw
      clear hR hz hz2 hpw ho
      go_wp2_with fail
      refine Calls.mono HW.out ?_
      rintro e w3 ⟨rfl, hp3, hb3⟩
      go_wp2_with fail
      refine Calls.mono (mark_any g s r' _ _ hp3) ?_
      rintro e w4 ⟨rfl, hp4, hb4⟩
      have HE : Hid (RpR w g s ns R (.int .i64 (markR r').1) w4 ∧ rpM s g (.int .i64 (markR r').1) w4 < rpM s g (.int .i64 o) wr) := by
        have h1 := markR_posts (.one ⟨o, z4⟩ t') r'
        have h2 := markR_len r'
        have h3 := HZ.out
        have h4 := hp4.plc_le
        have h5 := HPL.out
        have h6 := HO.out
        have hfl : (Rx.one ⟨o, z4⟩ t').flat.length = t'.flat.length + 1 := by simp [Rx.flat]
        refine ⟨⟨.one ⟨o, z4⟩ t', (markR r').1, (markR r').2, rfl, hp4, hb.trans (hb3.trans hb4), ?_, ?_⟩, ?_⟩
        · rw [hfl]
          split at h2
          · rw [h2]; omega
          · omega
        · rw [hfl]
          split at h1
          · rename_i h0
            rw [if_pos h0] at h2
            exact Or.inl ⟨h0, by rw [h2]; exact HR.out.trans h1⟩
          · rename_i h0
            rw [if_neg h0] at h2
            exact Or.inr ⟨h0, HR.out.trans h1, by omega⟩
        · show 2 * (s.size - plc w4 g) + (if (markR r').1 = 0 then 0 else 1) < 2 * (s.size - plc wr g) + (if o = 0 then 0 else 1)
          rw [if_neg h6]
          split at h2
          · rename_i h0
            rw [if_pos h0]
            rw [h2] at h4
            omega
          · rename_i h0
            rw [if_neg h0]
            omega
      clear hp hb hp3 hb3 hp4 hb4 HW HR HZ HPL
      generalize (markR r').1 = o2 at *
      go_wp2_with fail
      exact HE.out
theorem repeated_bad (l : List UInt8) (k : Nat) (h : Fits 117 l (.error k)) : Fits 93 l (.error k) := by
  intro g s ns w hm hp
  have HF := hid (h g s ns w hm hp)
  obtain ⟨v, hv, a0, c0, rfl⟩ := hp.len
  clear h hp hm
  go_enter Tryz.func93, Tryz.ntmps93
  go_wp2_with fail
  refine Calls.mono HF.out ?_
  rintro e w1 ⟨rfl, hs, hb⟩
  exact ⟨rfl, rfl, hs, hb⟩
end Go.Proofs.YtejbififfceamaaGreatDoor
namespace Go.Proofs.YtejbififfceamaaGreatDoor
set_option linter.unusedSimpArgs false
set_option linter.unusedVariables false
set_option maxRecDepth 100000
open Go.RowKit
/-- Atoms are read so, up to a length. -/
def HA (n : Nat) : Prop := ∀ l : List UInt8, l.length ≤ n → ∀ R, Atom l R → Fits 93 l R
def catR : Except Nat (List Rx × List UInt8) → Except Nat (Rx × List UInt8)
  | .ok (xs, r) => .ok (cats xs, r)
  | .error k => .error k
def orR : Except Nat (List Rx × List UInt8) → Except Nat (Rx × List UInt8)
  | .ok (xs, r) => .ok (ors xs, r)
  | .error k => .error k
/-- What is left is what makes R out of it. -/
def Rest (J : List Rx → Rx) (ns P : List Nd) (y : Rx) (R : Except Nat (Rx × List UInt8)) : Except Nat (List Rx × List UInt8) → Prop
  | .ok (xs, r) => ∃ t, R = .ok (t, r) ∧ ns ++ t.flat = P ++ (J (y :: xs)).flat
  | .error k => R = .error k
def ChR (n : Nat) (w : World) (g : Nat) (s : ByteArray) (ns : List Nd) (R : Except Nat (Rx × List UInt8)) (from' : Value) (wr : World) : Prop :=
  ∃ (P : List Nd) (y : Rx) (l : List UInt8) (R' : Except Nat (List Rx × List UInt8)), from' = .int .i64 (P.length : Int) ∧ PAt wr g s l (P ++ y.flat) ∧ Below g w wr ∧ Seq l R' ∧ l.length ≤ n ∧ P.length + y.flat.length + 2 * l.length ≤ 899 ∧ Rest cats ns P y R R'
theorem atom_size {l : List UInt8} {x : Rx} {l1 : List UInt8} (h : Atom l (.ok (x, l1))) : x.flat.length + 1 + 2 * l1.length ≤ 2 * l.length := (sizes l.length l (Nat.le_refl _)).1 x l1 h
set_option maxHeartbeats 2000000 in
theorem chain_any (n : Nat) (hA : HA n) (l : List UInt8) (hl : l.length ≤ n) (R0 : Except Nat (List Rx × List UInt8)) (hS : Seq l R0) : Fits 67 l (catR R0) := by
  intro g s ns w hm hp
  have hlt := hp.lt
  have HP := hid hp
  have HE := hid (chainEnds_any g s l ns w hp)
  have HM := hid hm
  have HAn := hid hA
  clear hp hm hA
  cases hst : stp l with
  | true =>
    have hR : R0 = .ok ([], l) := by
      cases hS with
      | stop _ h => rfl
      | bad _ k h => rw [hst] at h; cases h
      | more _ x l1 xs l2 h => rw [hst] at h; cases h
      | moreBad _ x l1 k h => rw [hst] at h; cases h
    subst hR
    rw [hst] at HE
    clear hS hl hst
    go_enter Tryz.func67, Tryz.ntmps67
    go_wp2_with fail
    refine Calls.mono HE.out ?_
    rintro e w1 ⟨rfl, hb1⟩
    go_wp2_with fail
    refine Calls.mono (putA g s l ns ⟨2, z4⟩ _ (HP.out.below hb1) (by have := HM.out; omega)) ?_
    rintro e w2 ⟨rfl, hp2, hb2⟩
    go_wp2_with fail
    refine bodyPost_ret (results_none rfl _ _ _) rfl ?_
    exact ⟨rfl, hp2, (hb1.mono (Nat.le_of_lt hlt)).trans hb2⟩
  | false =>
    rw [hst] at HE
    have hcs : (∃ k, R0 = .error k ∧ Atom l (.error k)) ∨ (∃ x l1 R', Atom l (.ok (x, l1)) ∧ Seq l1 R' ∧ Rest cats ns ns x (catR R0) R') := by
      cases hS with
      | stop _ h => rw [hst] at h; cases h
      | bad _ k h ha => exact Or.inl ⟨k, rfl, ha⟩
      | more _ x l1 xs l2 h ha hs => exact Or.inr ⟨x, l1, _, ha, hs, ⟨_, rfl, rfl⟩⟩
      | moreBad _ x l1 k h ha hs => exact Or.inr ⟨x, l1, _, ha, hs, rfl⟩
    clear hS hst
    obtain ⟨R, hR⟩ : ∃ R, R = catR R0 := ⟨_, rfl⟩
    rcases hcs with ⟨k, rfl, ha⟩ | ⟨x, l1, R', ha, hs, hrest⟩
    · clear hR
      have HF : Hid (∀ w1, Below w.heap.size w w1 → Calls Tryz.prog 93 #[.pointer (some ⟨g, 0, none⟩)] w1 (TrP w1 g s ns (.error k))) := fun w1 hb => HAn.out l hl _ ha g s ns w1 HM.out (HP.out.below hb)
      have HLN : Hid (∀ w1, Below w.heap.size w w1 → ∃ v, w1.cell? ⟨g, 2, none⟩ = some v ∧ ∃ a c, v = .slice a ns.length c) := fun w1 hb => (HP.out.below hb).len
      clear ha
      go_enter Tryz.func67, Tryz.ntmps67
      go_wp2_with fail
      refine Calls.mono HE.out ?_
      rintro e w1 ⟨rfl, hb1⟩
      obtain ⟨v, hv, a0, c0, rfl⟩ := HLN.out w1 hb1
      go_wp2_with fail
      refine Calls.mono (HF.out w1 hb1) ?_
      rintro e w2 ⟨rfl, hs, hb2⟩
      exact ⟨rfl, rfl, hs, (hb1.mono (Nat.le_of_lt hlt)).trans hb2⟩
    · rw [← hR] at hrest ⊢
      clear hR
      have HF : Hid (∀ w1, Below w.heap.size w w1 → Calls Tryz.prog 93 #[.pointer (some ⟨g, 0, none⟩)] w1 (TrP w1 g s ns (.ok (x, l1)))) := fun w1 hb => HAn.out l hl _ ha g s ns w1 HM.out (HP.out.below hb)
      have HSZ := hid (atom_size ha)
      have HX := hid (And.intro hs hrest)
      clear ha hs hrest
      have HLN : Hid (∀ w1, Below w.heap.size w w1 → ∃ v, w1.cell? ⟨g, 2, none⟩ = some v ∧ ∃ a c, v = .slice a ns.length c) := fun w1 hb => (HP.out.below hb).len
      go_enter Tryz.func67, Tryz.ntmps67
      go_wp2_with fail
      refine Calls.mono HE.out ?_
      rintro e w1 ⟨rfl, hb1⟩
      obtain ⟨v, hv, a0, c0, rfl⟩ := HLN.out w1 hb1
      go_wp2_with fail
      refine Calls.mono (HF.out w1 hb1) ?_
      rintro e w2 ⟨rfl, hp2, hb2⟩
      have HST : Hid (ChR n w g s ns R (.int .i64 (ns.length : Int)) w2) := by
        have h3 := HSZ.out
        have h4 := HM.out
        exact ⟨ns, x, l1, R', rfl, hp2, (hb1.mono (Nat.le_of_lt hlt)).trans hb2, HX.out.1, by have := flat_pos x; omega, by omega, HX.out.2⟩
      clear hb1 hp2 hb2 HF HLN HE HX
      go_wp2_with fail
      go_loopw [2] (fun from' wr => ChR n w g s ns R from' wr) (fun _ wr => s.size - plc wr g)
      case atStart => exact HST.out
      case round =>
        clear HST hv
        obtain ⟨P, y, l', R2, rfl, hp, hb, hs, hln, hz, hrest⟩ := hrel
        have HP' := hid hp
        have HB' := hid hb
        have HE' := hid (chainEnds_any g s l' _ wr hp)
        have hlt' := hp.lt
        have HZ := hid hz
        have HPL := hid (show plc wr g + l'.length = s.size from hp.plc_le)
        clear hp hb hz
        cases hst : stp l' with
        | true =>
          have hR2 : R2 = .ok ([], l') := by
            cases hs with
            | stop _ h => rfl
            | bad _ k h => rw [hst] at h; cases h
            | more _ x l1 xs l2 h => rw [hst] at h; cases h
            | moreBad _ x l1 k h => rw [hst] at h; cases h
          subst hR2
          obtain ⟨t, hRt, htf⟩ := hrest
          have HRT := hid hRt
          have HTF := hid htf
          rw [hst] at HE'
          clear hs hRt htf hst
          go_wp2_with fail
          refine Calls.mono HE'.out ?_
          rintro e w3 ⟨rfl, hb3⟩
          go_wp2_with fail
          go_end0
          rw [HRT.out]
          refine ⟨rfl, ?_, HB'.out.trans (hb3.mono (Nat.le_of_lt hlt'))⟩
          rw [HTF.out]
          exact HP'.out.below hb3
        | false =>
          rw [hst] at HE'
          have hcs : (∃ k, R = .error k ∧ Atom l' (.error k)) ∨ (∃ x l1 R', Atom l' (.ok (x, l1)) ∧ Seq l1 R' ∧ Rest cats ns (P ++ ⟨3, z4⟩ :: y.flat) x R R') := by
            cases hs with
            | stop _ h => rw [hst] at h; cases h
            | bad _ k h ha => exact Or.inl ⟨k, hrest, ha⟩
            | more _ x l1 xs l2 h ha hs =>
              obtain ⟨t, hRt, htf⟩ := hrest
              refine Or.inr ⟨x, l1, _, ha, hs, ⟨t, hRt, ?_⟩⟩
              rw [htf]
              simp [cats, Rx.flat]
            | moreBad _ x l1 k h ha hs => exact Or.inr ⟨x, l1, _, ha, hs, hrest⟩
          clear hs hrest hst
          have HW : Hid (∀ w3, Below wr.heap.size wr w3 → Calls Tryz.prog 69 #[.pointer (some ⟨g, 0, none⟩), .int .i64 (P.length : Int), .int .i64 3] w3 fun e w' => e = .returned (.tuple #[]) ∧ PAt w' g s l' (P ++ ⟨3, z4⟩ :: y.flat) ∧ Below g w3 w') := fun w3 hb => wrapA g s l' P y.flat 3 w3 (HP'.out.below hb) (by have := HZ.out; simp; omega) (flat_pos y)
          have HPz : Hid ((P ++ ⟨3, z4⟩ :: y.flat).length + 2 * l'.length ≤ 900) := by
            have := HZ.out
            show _ ≤ _
            simp
            omega
          obtain ⟨P2, hP2⟩ : ∃ P2, P2 = P ++ ⟨3, z4⟩ :: y.flat := ⟨_, rfl⟩
          rw [← hP2] at hcs HW HPz
          have HL2 : Hid (P2.length = P.length + 1 + y.flat.length) := by
            show _ = _
            rw [hP2]
            simp
            omega
          clear hP2
          have HRP : Hid (∀ (w5 : World) Ra, PAt w5 g s l' P2 → Atom l' Ra → Calls Tryz.prog 93 #[.pointer (some ⟨g, 0, none⟩)] w5 (TrP w5 g s P2 Ra)) := fun w5 Ra hp5 ha => HAn.out l' hln _ ha g s P2 w5 HPz.out hp5
          have HLN0 := hid hln
          clear hln
          go_wp2_with fail
          refine Calls.mono HE'.out ?_
          rintro e w3 ⟨rfl, hb3⟩
          go_wp2_with fail
          refine Calls.mono (HW.out w3 hb3) ?_
          rintro e w4 ⟨rfl, hp4, hb4⟩
          obtain ⟨v4, hv4, a4, c4, rfl⟩ := hp4.len
          have HB4 := hid (HB'.out.trans ((hb3.mono (Nat.le_of_lt hlt')).trans hb4))
          clear HW hb3 hb4 HE'
          rcases hcs with ⟨k, hRk, ha⟩ | ⟨x', l1', R', ha, hs, hrest⟩
          · have HRk := hid hRk
            have HC := hid (HRP.out w4 _ hp4 ha)
            clear hRk ha hp4
            go_wp2_with fail
            refine Calls.mono HC.out ?_
            rintro e w5 ⟨rfl, hs, hb5⟩
            refine ⟨rfl, ?_⟩
            rw [HRk.out]
            exact ⟨rfl, hs, HB4.out.trans hb5⟩
          · have HC := hid (HRP.out w4 _ hp4 ha)
            have HX := hid (And.intro hs hrest)
            have HSZ2 := hid (atom_size ha)
            clear ha hp4 hs hrest
            go_wp2_with fail
            refine Calls.mono HC.out ?_
            rintro e w5 ⟨rfl, hp5, hb5⟩
            have HE5 : Hid (ChR n w g s ns R (.int .i64 (P2.length : Int)) w5 ∧ s.size - plc w5 g < s.size - plc wr g) := by
              have h1 := HSZ2.out
              have h2 := HPz.out
              have h3 := HPL.out
              have h4 := hp5.plc_le
              have h5 := HL2.out
              have h6 := HZ.out
              have h7 := flat_pos x'
              have h8 := HLN0.out
              refine ⟨⟨P2, x', l1', R', rfl, hp5, HB4.out.trans hb5, HX.out.1, ?_, ?_, HX.out.2⟩, ?_⟩
              · omega
              · omega
              · omega
            clear hp5 hb5 HC HX
            go_wp2_with fail
            exact HE5.out
end Go.Proofs.YtejbififfceamaaGreatDoor
namespace Go.Proofs.YtejbififfceamaaGreatDoor
set_option linter.unusedSimpArgs false
set_option linter.unusedVariables false
set_option maxRecDepth 100000
open Go.RowKit
/-- Chains are read so, up to a length. -/
def HCh (n : Nat) : Prop := ∀ l : List UInt8, l.length ≤ n → ∀ R, Seq l R → Fits 67 l (catR R)
/-- One side more, ahead. -/
def conR (x : Rx) : Except Nat (List Rx × List UInt8) → Except Nat (List Rx × List UInt8)
  | .ok (ss, r) => .ok (x :: ss, r)
  | .error k => .error k
theorem alt_cases {l : List UInt8} {R0 : Except Nat (List Rx × List UInt8)} (h : Alt l R0) :
    (∃ k, Seq l (.error k) ∧ R0 = .error k) ∨ (∃ xs l1, Seq l (.ok (xs, l1)) ∧ ((l1.head? ≠ some 124 ∧ R0 = .ok ([cats xs], l1)) ∨ (∃ l2 R', l1 = 124 :: l2 ∧ Alt l2 R' ∧ R0 = conR (cats xs) R'))) := by
  cases h with
  | bad _ k h => exact Or.inl ⟨k, h, rfl⟩
  | last _ xs l1 h hh => exact Or.inr ⟨xs, l1, h, Or.inl ⟨hh, rfl⟩⟩
  | more _ xs l1 ss l2 h ha => exact Or.inr ⟨xs, _, h, Or.inr ⟨l1, _, rfl, ha, rfl⟩⟩
  | moreBad _ xs l1 k h ha => exact Or.inr ⟨xs, _, h, Or.inr ⟨l1, _, rfl, ha, rfl⟩⟩
theorem seq_size {l : List UInt8} {xs : List Rx} {l1 : List UInt8} (h : Seq l (.ok (xs, l1))) : (cats xs).flat.length + 2 * l1.length ≤ 2 * l.length + 1 ∧ l1.length ≤ l.length := by
  have h1 := (sizes l.length l (Nat.le_refl _)).2.1 xs l1 h
  have h2 := catL_len (xs.map Rx.flat)
  rw [cats_flat]
  simp only [List.length_map] at h2
  omega
def ChO (n : Nat) (w : World) (g : Nat) (s : ByteArray) (ns : List Nd) (R : Except Nat (Rx × List UInt8)) (from' : Value) (wr : World) : Prop :=
  ∃ (P : List Nd) (y : Rx) (l : List UInt8), from' = .int .i64 (P.length : Int) ∧ PAt wr g s l (P ++ y.flat) ∧ Below g w wr ∧ l.length ≤ n ∧ P.length + y.flat.length + 2 * l.length ≤ 901 ∧
    ((l.head? ≠ some 124 ∧ ∃ t, R = .ok (t, l) ∧ ns ++ t.flat = P ++ y.flat) ∨ (∃ l2 R', l = 124 :: l2 ∧ Alt l2 R' ∧ Rest ors ns P y R R'))
theorem rest_next {ns P : List Nd} {y z : Rx} {R : Except Nat (Rx × List UInt8)} {R' : Except Nat (List Rx × List UInt8)} (h : Rest ors ns P y R (conR z R')) : Rest ors ns (P ++ ⟨4, z4⟩ :: y.flat) z R R' := by
  cases R' with
  | error k => exact h
  | ok p =>
    obtain ⟨ss, r⟩ := p
    obtain ⟨t, hR, hf⟩ := h
    refine ⟨t, hR, ?_⟩
    rw [hf]
    simp [ors, Rx.flat]
theorem rest_first (ns : List Nd) (z : Rx) (R' : Except Nat (List Rx × List UInt8)) : Rest ors ns ns z (orR (conR z R')) R' := by
  cases R' with
  | error k => rfl
  | ok p => obtain ⟨ss, r⟩ := p; exact ⟨_, rfl, rfl⟩
set_option maxHeartbeats 2000000 in
theorem choice_any (n : Nat) (hC : HCh n) (l : List UInt8) (hl : l.length ≤ n) (R0 : Except Nat (List Rx × List UInt8)) (hS : Alt l R0) : Fits 46 l (orR R0) := by
  intro g s ns w hm hp
  have hlt := hp.lt
  have HP := hid hp
  have HM := hid hm
  have HCn := hid hC
  obtain ⟨v, hv, a0, c0, rfl⟩ := hp.len
  clear hp hm hC
  rcases alt_cases hS with ⟨k, hs, rfl⟩ | ⟨xs, l1, hs, hcs⟩
  · have HF := hid (HCn.out l hl _ hs g s ns w HM.out HP.out)
    clear hs hS
    go_enter Tryz.func46, Tryz.ntmps46
    go_wp2_with fail
    refine Calls.mono HF.out ?_
    rintro e w2 ⟨rfl, hs, hb2⟩
    exact ⟨rfl, rfl, hs, hb2⟩
  · have HF := hid (HCn.out l hl _ hs g s ns w HM.out HP.out)
    have HSZ := hid (seq_size hs)
    obtain ⟨R, hR⟩ : ∃ R, R = orR R0 := ⟨_, rfl⟩
    have hcs2 : (l1.head? ≠ some 124 ∧ ∃ t, R = .ok (t, l1) ∧ ns ++ t.flat = ns ++ (cats xs).flat) ∨ (∃ l2 R', l1 = 124 :: l2 ∧ Alt l2 R' ∧ Rest ors ns ns (cats xs) R R') := by
      rcases hcs with ⟨hh, rfl⟩ | ⟨l2, R', h1, h2, rfl⟩
      · exact Or.inl ⟨hh, _, hR, rfl⟩
      · refine Or.inr ⟨l2, R', h1, h2, ?_⟩
        rw [hR]
        exact rest_first ns _ R'
    rw [← hR]
    have HX := hid hcs2
    have HLl := hid hl
    clear hs hcs hcs2 hS hR hl
    go_enter Tryz.func46, Tryz.ntmps46
    go_wp2_with fail
    refine Calls.mono HF.out ?_
    rintro e w2 ⟨rfl, hp2, hb2⟩
    have HST : Hid (ChO n w g s ns R (.int .i64 (ns.length : Int)) w2) := by
      have h3 := HSZ.out
      have h4 := HM.out
      have h5 := HLl.out
      exact ⟨ns, cats xs, l1, rfl, hp2, hb2, by omega, by omega, HX.out⟩
    clear hp2 hb2 HF HX
    go_wp2_with fail
    go_loopw [2] (fun from' wr => ChO n w g s ns R from' wr) (fun _ wr => s.size - plc wr g)
    case atStart => exact HST.out
    case round =>
      clear HST hv
      obtain ⟨P, y, l', rfl, hp, hb, hln, hz, hor⟩ := hrel
      have HP' := hid hp
      have HB' := hid hb
      have hlt' := hp.lt
      have HZ := hid hz
      have HPL := hid (show plc wr g + l'.length = s.size from hp.plc_le)
      have HLN0 := hid hln
      clear hp hb hz hln
      rcases hor with ⟨hh, t, hRt, htf⟩ | ⟨l2, R', rfl, ha, hrest⟩
      · have HRT := hid hRt
        have HTF := hid htf
        clear hRt htf
        go_wp2_with fail
        refine Calls.mono (skipN g s l' _ 124 _ rfl _ HP'.out hh) ?_
        rintro e w3 ⟨rfl, hp3, hb3⟩
        go_wp2_with fail
        go_end0
        rw [HRT.out]
        refine ⟨rfl, ?_, HB'.out.trans (hb3.mono (Nat.le_of_lt hlt'))⟩
        rw [HTF.out]
        exact hp3
      · have HAL := hid (And.intro ha hrest)
        clear ha hrest
        go_wp2_with fail
        refine Calls.mono (skipY g s l2 _ 124 _ rfl _ HP'.out) ?_
        rintro e w3 ⟨rfl, hp3, hb3⟩
        have HW := hid (wrapA g s l2 P y.flat 4 w3 hp3 (by have := HZ.out; simp; omega) (flat_pos y))
        have HB3 := hid (HB'.out.trans hb3)
        clear hp3 hb3
        have HPz : Hid ((P ++ ⟨4, z4⟩ :: y.flat).length + 2 * l2.length ≤ 900) := by
          have := HZ.out
          show _ ≤ _
          simp at this ⊢
          omega
        have HRN := hid (fun (z : Rx) (R2 : Except Nat (List Rx × List UInt8)) (h : Rest ors ns P y R (conR z R2)) => rest_next h)
        have HR1 : Hid (∀ (z : Rx) (r : List UInt8), Rest ors ns P y R (.ok ([z], r)) → ∃ t, R = .ok (t, r) ∧ ns ++ t.flat = (P ++ ⟨4, z4⟩ :: y.flat) ++ z.flat) := by
          rintro z r ⟨t, h1, h2⟩
          refine ⟨t, h1, ?_⟩
          rw [h2]
          simp [ors, Rx.flat]
        obtain ⟨P2, hP2⟩ : ∃ P2, P2 = P ++ ⟨4, z4⟩ :: y.flat := ⟨_, rfl⟩
        rw [← hP2] at HW HPz HRN HR1
        have HL2 : Hid (P2.length = P.length + 1 + y.flat.length) := by
          show _ = _
          rw [hP2]
          simp
          omega
        clear hP2
        go_wp2_with fail
        refine Calls.mono HW.out ?_
        rintro e w4 ⟨rfl, hp4, hb4⟩
        obtain ⟨v4, hv4, a4, c4, rfl⟩ := hp4.len
        have HB4 := hid (HB3.out.trans hb4)
        have HLl2 : Hid (l2.length ≤ n) := by have := HLN0.out; show _ ≤ _; simp at this; omega
        clear HW hb4
        rcases alt_cases HAL.out.1 with ⟨k, hs, hRk⟩ | ⟨xs', l1', hs, hcs⟩
        · have HC := hid (HCn.out l2 HLl2.out _ hs g s P2 w4 HPz.out hp4)
          have HRk : Hid (R = .error k) := by
            have h := HAL.out.2
            rw [hRk] at h
            exact h
          clear hs hRk hp4
          go_wp2_with fail
          refine Calls.mono HC.out ?_
          rintro e w5 ⟨rfl, hs, hb5⟩
          refine ⟨rfl, ?_⟩
          rw [HRk.out]
          exact ⟨rfl, hs, HB4.out.trans hb5⟩
        · have HC := hid (HCn.out l2 HLl2.out _ hs g s P2 w4 HPz.out hp4)
          have HSZ2 := hid (seq_size hs)
          have HX : Hid ((l1'.head? ≠ some 124 ∧ ∃ t, R = .ok (t, l1') ∧ ns ++ t.flat = P2 ++ (cats xs').flat) ∨ (∃ l3 R2, l1' = 124 :: l3 ∧ Alt l3 R2 ∧ Rest ors ns P2 (cats xs') R R2)) := by
            have h := HAL.out.2
            rcases hcs with ⟨hh, rfl⟩ | ⟨l3, R2, h1, h2, rfl⟩
            · exact Or.inl ⟨hh, HR1.out _ _ h⟩
            · exact Or.inr ⟨l3, R2, h1, h2, HRN.out _ _ h⟩
          clear hs hcs hp4
          go_wp2_with fail
          refine Calls.mono HC.out ?_
          rintro e w5 ⟨rfl, hp5, hb5⟩
          have HE5 : Hid (ChO n w g s ns R (.int .i64 (P2.length : Int)) w5 ∧ s.size - plc w5 g < s.size - plc wr g) := by
            have h1 := HSZ2.out
            have h2 := HPz.out
            have h3 := HPL.out
            have h4 := hp5.plc_le
            have h5 := HL2.out
            have h6 := HZ.out
            have h8 := HLl2.out
            simp at h3 h6
            refine ⟨⟨P2, cats xs', l1', rfl, hp5, HB4.out.trans hb5, ?_, ?_, HX.out⟩, ?_⟩
            · omega
            · omega
            · omega
          clear hp5 hb5 HC HX
          go_wp2_with fail
          exact HE5.out
end Go.Proofs.YtejbififfceamaaGreatDoor
namespace Go.Proofs.YtejbififfceamaaGreatDoor
set_option linter.unusedSimpArgs false
set_option linter.unusedVariables false
set_option maxRecDepth 100000
open Go.RowKit
def grR : Except Nat (List Rx × List UInt8) → Except Nat (Rx × List UInt8)
  | .ok (ss, r) => if r.head? = some 41 then .ok (ors ss, r.tail) else .error r.length
  | .error k => .error k
set_option maxHeartbeats 1000000 in
theorem group_any (l : List UInt8) (R0 : Except Nat (List Rx × List UInt8)) (h : Fits 46 l (orR R0)) : Fits 133 l (grR R0) := by
  intro g s ns w hm hp
  have hlt := hp.lt
  have HF := hid (h g s ns w hm hp)
  clear h hp hm
  cases R0 with
  | error k =>
    go_enter_defers Tryz.func133, Tryz.ntmps133
    go_wp2_with fail
    refine Calls.mono HF.out ?_
    rintro e w2 ⟨rfl, hs, hb2⟩
    refine door_stuck _ _ _ _ _ g _ hs ?_
    intro w6 hb6
    exact ⟨rfl, hs.below hb6, hb2.trans (hb6.mono (Nat.le_trans (Nat.le_of_lt hlt) hb2.size))⟩
  | ok p =>
    obtain ⟨ss, r⟩ := p
    by_cases hr : r.head? = some 41
    · have HR : Hid (grR (.ok (ss, r)) = .ok (ors ss, r.tail)) := by show _ = _; rw [grR, if_pos hr]
      have HT := hid (tail_len r _ hr).1
      rw [HR.out]
      clear hr
      go_enter_defers Tryz.func133, Tryz.ntmps133
      go_wp2_with fail
      refine Calls.mono HF.out ?_
      rintro e w2 ⟨rfl, hp2, hb2⟩
      obtain ⟨a2, v2, hp2, hO2⟩ := hp2
      go_wp2_with fail
      rw [HT.out] at hp2
      refine door_yes _ _ _ 41 g s a2 v2 r.tail _ hp2 ?_
      intro w4 hp4 hg4
      exact ⟨_, results_none rfl _ _ _, rfl, ⟨_, v2, hp4, hO2.keptG hg4 (Nat.lt_succ_self g)⟩, hb2.trans (below_of_grown hg4 (Nat.le_refl _) (Nat.le_of_lt hp2.lt))⟩
    · have HR : Hid (grR (.ok (ss, r)) = .error r.length) := by show _ = _; rw [grR, if_neg hr]
      rw [HR.out]
      go_enter_defers Tryz.func133, Tryz.ntmps133
      go_wp2_with fail
      refine Calls.mono HF.out ?_
      rintro e w2 ⟨rfl, hp2, hb2⟩
      obtain ⟨a2, v2, hp2, hO2⟩ := hp2
      go_wp2_with fail
      refine door_no _ _ _ 41 g s a2 v2 r _ hp2 hr ?_
      intro w4 hs hg4
      exact ⟨rfl, hs, hb2.trans (below_of_grown hg4 (Nat.le_refl _) (Nat.le_of_lt hp2.lt))⟩
set_option maxHeartbeats 1000000 in
theorem single_group (r : List UInt8) (R : Except Nat (Rx × List UInt8)) (h : Fits 133 r R) : Fits 117 (40 :: r) R := by
  intro g s ns w hm hp
  have hlt := hp.lt
  have HP := hid hp
  have HB := hid (Below.refl g w)
  have HF : Hid (∀ w5, PAt w5 g s r ns → Calls Tryz.prog 133 #[.pointer (some ⟨g, 0, none⟩)] w5 (TrP w5 g s ns R)) := fun w5 hp5 => h g s ns w5 (by simp at hm; omega) hp5
  clear h hp hm
  go_enter Tryz.func117, Tryz.ntmps117
  go_wp2_with fail
  refine Calls.mono (skipN g s _ ns 94 _ rfl _ HP.out (by simp)) ?_
  rintro e w1 ⟨rfl, hp, hb⟩
  replace HP := hid hp
  replace HB := hid (HB.out.trans (hb.mono (Nat.le_trans (Nat.le_of_lt hlt) HB.out.size)))
  clear hp hb
  go_wp2_with fail
  refine Calls.mono (skipN g s _ ns 36 _ rfl _ HP.out (by simp)) ?_
  rintro e w2 ⟨rfl, hp, hb⟩
  replace HP := hid hp
  replace HB := hid (HB.out.trans (hb.mono (Nat.le_trans (Nat.le_of_lt hlt) HB.out.size)))
  clear hp hb
  go_wp2_with fail
  refine Calls.mono (skipN g s _ ns 46 _ rfl _ HP.out (by simp)) ?_
  rintro e w3 ⟨rfl, hp, hb⟩
  replace HP := hid hp
  replace HB := hid (HB.out.trans (hb.mono (Nat.le_trans (Nat.le_of_lt hlt) HB.out.size)))
  clear hp hb
  go_wp2_with fail
  refine Calls.mono (skipN g s _ ns 91 _ rfl _ HP.out (by simp)) ?_
  rintro e w4 ⟨rfl, hp, hb⟩
  replace HP := hid hp
  replace HB := hid (HB.out.trans (hb.mono (Nat.le_trans (Nat.le_of_lt hlt) HB.out.size)))
  clear hp hb
  go_wp2_with fail
  refine Calls.mono (skipY g s r ns 40 _ rfl _ HP.out) ?_
  rintro e w5 ⟨rfl, hp, hb⟩
  replace HP := hid hp
  replace HB := hid (HB.out.trans hb)
  clear hp hb
  go_wp2_with fail
  refine Calls.mono (HF.out _ HP.out) ?_
  intro e w6 h6
  cases R with
  | error k =>
    obtain ⟨rfl, hs, hb6⟩ := h6
    exact ⟨rfl, rfl, hs, HB.out.trans hb6⟩
  | ok p =>
    obtain ⟨t, r2⟩ := p
    obtain ⟨rfl, hp6, hb6⟩ := h6
    go_wp2
    go_end0
    exact ⟨rfl, hp6, HB.out.trans hb6⟩
/-- What is read where no bracket opens, as a tree. -/
theorem single_fits (l : List UInt8) (h40 : l.head? ≠ some 40) : Fits 117 l (match base l with | .ok (n, r) => .ok (.leaf n, r) | .error k => .error k) := by
  intro g s ns w hm hp
  have h := single_any g s l ns (by omega) h40 w hp
  cases hb : base l with
  | error k => rw [hb] at h; exact h
  | ok p => obtain ⟨n, r⟩ := p; rw [hb] at h; exact h
theorem read_all : ∀ n, HA n ∧ HCh n ∧ (∀ l : List UInt8, l.length ≤ n → ∀ R, Alt l R → Fits 46 l (orR R)) := by
  intro n
  induction n with
  | zero =>
    have hA : HA 0 := by
      intro l hl R hR
      have : l = [] := List.eq_nil_of_length_eq_zero (by omega)
      subst this
      cases hR with
      | bad _ k h hb =>
        have hf := single_fits [] h
        rw [hb] at hf
        exact repeated_bad [] k hf
      | ok _ m l1 h hb =>
        have := base_len _ _ _ hb
        simp at this
    have hC : HCh 0 := fun l hl R hR => chain_any 0 hA l hl R hR
    exact ⟨hA, hC, fun l hl R hR => choice_any 0 hC l hl R hR⟩
  | succ n ih =>
    have hA : HA (n + 1) := by
      intro l hl R hR
      cases hR with
      | bad _ k h hb =>
        have hf := single_fits l h
        rw [hb] at hf
        exact repeated_bad l k hf
      | ok _ m l1 h hb =>
        have hf := single_fits l h
        rw [hb] at hf
        refine repeated_ok l (.leaf m) l1 hf ?_
        have := base_len _ _ _ hb
        simp [Rx.flat]
        omega
      | inBad l0 k ha =>
        have hc := ih.2.2 l0 (by simp at hl; omega) _ ha
        exact repeated_bad _ k (single_group l0 _ (group_any l0 _ hc))
      | inOpen l0 ss l1 ha hh =>
        have hc := ih.2.2 l0 (by simp at hl; omega) _ ha
        have hg := group_any l0 _ hc
        rw [grR, if_neg hh] at hg
        exact repeated_bad _ _ (single_group l0 _ hg)
      | inOk l0 ss l1 ha =>
        have hc := ih.2.2 l0 (by simp at hl; omega) _ ha
        have hg := group_any l0 _ hc
        rw [grR, if_pos (show (41 :: l1).head? = some 41 from rfl)] at hg
        refine repeated_ok _ (ors ss) l1 (single_group l0 _ hg) ?_
        have h1 := (sizes l0.length l0 (Nat.le_refl _)).2.2 ss _ ha
        have h2 := orL_len (ss.map Rx.flat)
        rw [ors_flat ss (alt_ne l0 ss _ ha)]
        simp only [List.length_map, List.length_cons] at h1 h2 ⊢
        omega
    have hC : HCh (n + 1) := fun l hl R hR => chain_any (n + 1) hA l hl R hR
    exact ⟨hA, hC, fun l hl R hR => choice_any (n + 1) hC l hl R hR⟩
end Go.Proofs.YtejbififfceamaaGreatDoor
namespace Go.Proofs.YtejbififfceamaaGreatDoor
set_option linter.unusedSimpArgs false
set_option linter.unusedVariables false
set_option maxRecDepth 100000
open Go.RowKit
set_option maxHeartbeats 1000000 in
theorem catch_idle (p q t : Addr) (w : World) :
    CallsD Tryz.prog 45 #[.pointer (some p), .pointer (some q), .pointer (some t)] .returning w fun e u' w' => e = .returned (.tuple #[]) ∧ u' = .returning ∧ w' = w := by
  refine callsD_of_wpS Tryz.func45 rfl fun c₀ cs hu => ?_
  apply wpS_seq
  apply wpS_region
  simp [wpOpsS, go_sem, recoverD, hu, Tryz.ntmps45, Exit.thenS]
  refine wpS_of_wp ?_
  generalize hQ : (fun (e : Exit) (a' : Act) (w' : World) => bodyPostS Tryz.prog _ c₀ cs _ e a' (c₀ :: cs) w') = Q
  change Code.wp _ _ Q { tmps := #[.pointer (some p), .pointer (some q), .pointer (some t), .nilIface, undef, undef, .nilIface, undef, undef, undef, undef, undef, undef, undef, undef, undef, undef, undef, undef, undef], defers := [] } w
  have HQ := hid hQ
  clear hQ
  go_wp2
  rw [← HQ.out]
  refine ⟨rfl, .returning, ?_, .tuple #[], results_none rfl _ _ _, rfl, rfl, rfl⟩
  cases c₀
  simp only at hu
  subst hu
  rfl
set_option maxHeartbeats 1000000 in
theorem catch_mis (b0 b1 b2 : Nat) (z : Int) (u0 : Value) (u1 : Int) (u2 : Value) (w : World) (h0 : w.cell? ⟨b0, 0, none⟩ = some u0) (h1 : w.cell? ⟨b1, 0, none⟩ = some (.int .i64 u1)) (h2 : w.cell? ⟨b2, 0, none⟩ = some u2)
    (f0 : w.frozen? ⟨b0, 0, none⟩ = false) (f1 : w.frozen? ⟨b1, 0, none⟩ = false) (f2 : w.frozen? ⟨b2, 0, none⟩ = false) (n01 : ¬ b0 = b1) (n02 : ¬ b0 = b2) (n12 : ¬ b1 = b2) :
    CallsD Tryz.prog 45 #[.pointer (some ⟨b0, 0, none⟩), .pointer (some ⟨b1, 0, none⟩), .pointer (some ⟨b2, 0, none⟩)] (.panicking (mis z)) w fun e u' w' => e = .returned (.tuple #[]) ∧ u' = .panicking [{ v := .iface 113 (.agg #[.int .i64 z]), recovered := true }] ∧ w' = ((((w.setCell ⟨b0, 0, none⟩ (.slice none 0 0)).setCell ⟨b1, 0, none⟩ (.int .i64 z)).setCell ⟨b2, 0, none⟩ (.iface 32 (.int .i64 5))).alloc (.cells #[.int .i64 z] 113)).drew := by
  have l0 := block_lt_of_cell h0
  have l1 := block_lt_of_cell h1
  have l2 := block_lt_of_cell h2
  simp only at l0 l1 l2
  have m0 : ¬ b0 = w.heap.size := by omega
  have m1 : ¬ b1 = w.heap.size := by omega
  have m2 : ¬ b2 = w.heap.size := by omega
  have m0' : ¬ w.heap.size = b0 := by omega
  have m1' : ¬ w.heap.size = b1 := by omega
  have m2' : ¬ w.heap.size = b2 := by omega
  have n10 : ¬ b1 = b0 := fun e => n01 e.symm
  have n20 : ¬ b2 = b0 := fun e => n02 e.symm
  have n21 : ¬ b2 = b1 := fun e => n12 e.symm
  have k0 : ∀ o, (w.alloc o).cell? ⟨b0, 0, none⟩ = some u0 := fun o => by rw [World.cell?_alloc_past (w := w) _ b0 0 l0]; exact h0
  have k1 : ∀ o, (w.alloc o).cell? ⟨b1, 0, none⟩ = some (.int .i64 u1) := fun o => by rw [World.cell?_alloc_past (w := w) _ b1 0 l1]; exact h1
  have k2 : ∀ o, (w.alloc o).cell? ⟨b2, 0, none⟩ = some u2 := fun o => by rw [World.cell?_alloc_past (w := w) _ b2 0 l2]; exact h2
  have z0 : ∀ o, (w.alloc o).frozen? ⟨b0, 0, none⟩ = false := fun o => (World.frozen?_of_block (a := ⟨b0, 0, none⟩) (Below.heap_alloc w o b0 l0)).trans f0
  have z1 : ∀ o, (w.alloc o).frozen? ⟨b1, 0, none⟩ = false := fun o => (World.frozen?_of_block (a := ⟨b1, 0, none⟩) (Below.heap_alloc w o b1 l1)).trans f1
  have z2 : ∀ o, (w.alloc o).frozen? ⟨b2, 0, none⟩ = false := fun o => (World.frozen?_of_block (a := ⟨b2, 0, none⟩) (Below.heap_alloc w o b2 l2)).trans f2
  refine callsD_of_wpS Tryz.func45 rfl fun c₀ cs hu => ?_
  apply wpS_seq
  apply wpS_region
  simp [wpOpsS, go_sem, recoverD, hu, mis, Tryz.ntmps45, Exit.thenS]
  refine wpS_of_wp ?_
  generalize hQ : (fun (e : Exit) (a' : Act) (w' : World) => bodyPostS Tryz.prog _ c₀ cs _ e a' _ w') = Q
  change Code.wp _ _ Q { tmps := #[.pointer (some ⟨b0, 0, none⟩), .pointer (some ⟨b1, 0, none⟩), .pointer (some ⟨b2, 0, none⟩), .iface 113 (.agg #[.int .i64 z]), undef, undef, .iface 113 (.agg #[.int .i64 z]), undef, undef, undef, undef, undef, undef, undef, undef, undef, undef, undef, undef, undef], defers := [] } w
  have HQ := hid hQ
  clear hQ
  have hta : ∀ w : World, (Instr.typeAssert (.iface 113 (.agg #[.int .i64 z])) 20 113 true).run Tryz.prog w = .ok (.tuple #[.agg #[.int .i64 z], .bool true]) w := fun _ => by kernel_rfl
  go_wp2
  go_region
  rw [← HQ.out]
  exact ⟨rfl, .panicking [{ v := .iface 113 (.agg #[.int .i64 z]), recovered := true }], rfl, .tuple #[], results_none rfl _ _ _, rfl, rfl, rfl⟩
end Go.Proofs.YtejbififfceamaaGreatDoor
