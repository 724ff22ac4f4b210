/- What the document's own reader does: all and atom together; ParseOf. The law SynIs: from what package syn answers. Library functions that the program calls (strings.Builder, strings.IndexByte), as the shelf's contracts say them of this program. The landed reader of package syn: in memory; more, sees, skip, misfitAt, take. -/
import Derived.Test.YtmdfdlljeggbbaaGreatDoorY13
import Derived.Test.YtmdfdlljeggbbaaGreatDoorY04
import Derived.Test.YtmdfdlljeggbbaaGreatDoorY03
import Derived.Test.YtmdfdlljeggbbaaGreatDoorY05
import Derived.Test.YtmdfdlljeggbbaaGreatDoorY06
import Derived.Shelf.Strings.Builder1
import Derived.Shelf.Small.Strs
import Derived.WalkKit
import Derived.WalkSpells
import Derived.WalkLawsBesides
import Derived.Test.YtmdfdlljeggbbaaGreatDoorProg
import Derived.Lib.BufferOwn
namespace Go.Proofs.YtmdfdlljeggbbaaGreatDoor
set_option linter.unusedSimpArgs false
set_option linter.unusedVariables false
set_option maxRecDepth 100000
open Go.RowKit

theorem all_ok (g : Nat) (s : ByteArray) (l : List UInt8) (hs : s.size ≤ 1000) (hC : AtomsC g s l) (ss : List Rx) (l1 : List UInt8) (h : Alt l (.ok (ss, l1))) : AllOkC g s l ss l1 := by
  intro w hA
  refine (all_walk g s l hs hC _ h w hA).mono ?_
  rintro e w' ⟨hg, u, nss, rfl, ho, ⟨ss', m, h1, h2, h3⟩ | ⟨k, h1, _⟩⟩
  · injection h1 with h1
    injection h1 with h4 h5
    subst h4; subst h5
    refine ⟨hg, u, rfl, ?_, h3⟩
    rw [ors_flat ss (alt_ne _ _ _ h), ← h2]
    exact ho
  · cases h1
theorem all_bad (g : Nat) (s : ByteArray) (l : List UInt8) (hs : s.size ≤ 1000) (hC : AtomsC g s l) (k : Nat) (h : Alt l (.error k)) : AllBadC g s l k := by
  intro w hA
  refine (all_walk g s l hs hC _ h w hA).mono ?_
  rintro e w' ⟨hg, u, nss, rfl, ho, ⟨ss', m, h1, h2, h3⟩ | ⟨k', h1, hne, hsz, hB, hpos⟩⟩
  · cases h1
  · injection h1 with h1
    subst h1
    have := orL_len1 nss hne
    exact ⟨hg, u, orL nss, rfl, ho, ⟨hpos, by omega⟩, hB⟩
theorem base_ok (l : List UInt8) (n : Nd) (l1 : List UInt8) (h : base l = .ok (n, l1)) : (l.head? = some 91 ∧ ∃ c, bracket l.tail = .ok (c, l1) ∧ n = ⟨1, c⟩) ∨ (l.head? = some 46 ∧ n = ⟨1, dotC⟩ ∧ l1 = l.tail) ∨ (l.head? = some 94 ∧ n = ⟨8, z4⟩ ∧ l1 = l.tail) ∨ (l.head? = some 36 ∧ n = ⟨9, z4⟩ ∧ l1 = l.tail) ∨ (¬ l.head? = some 91 ∧ ¬ l.head? = some 46 ∧ ¬ l.head? = some 94 ∧ ¬ l.head? = some 36 ∧ ∃ b, rd1 l = .ok (b, l1) ∧ n = ⟨1, z4.add ((b : Nat) : Int)⟩) := by
  unfold base at h
  split at h
  · rename_i h0
    cases h1 : bracket l.tail with
    | error e => rw [h1] at h; simp at h
    | ok p =>
      obtain ⟨c, r⟩ := p
      rw [h1] at h
      injection h with h
      injection h with h2 h3
      subst h3
      exact Or.inl ⟨h0, c, rfl, h2.symm⟩
  · rename_i h91
    split at h
    · rename_i h0
      injection h with h
      injection h with h2 h3
      exact Or.inr (Or.inl ⟨h0, h2.symm, h3.symm⟩)
    · rename_i h46
      split at h
      · rename_i h0
        injection h with h
        injection h with h2 h3
        exact Or.inr (Or.inr (Or.inl ⟨h0, h2.symm, h3.symm⟩))
      · rename_i h94
        split at h
        · rename_i h0
          injection h with h
          injection h with h2 h3
          exact Or.inr (Or.inr (Or.inr (Or.inl ⟨h0, h2.symm, h3.symm⟩)))
        · rename_i h36
          cases h1 : rd1 l with
          | error e => rw [h1] at h; simp at h
          | ok p =>
            obtain ⟨b, r⟩ := p
            rw [h1] at h
            injection h with h
            injection h with h2 h3
            subst h3
            exact Or.inr (Or.inr (Or.inr (Or.inr ⟨h91, h46, h94, h36, b, rfl, h2.symm⟩)))
theorem base_bad (l : List UInt8) (k : Nat) (h : base l = .error k) : (l.head? = some 91 ∧ bracket l.tail = .error k) ∨ (¬ l.head? = some 91 ∧ ¬ l.head? = some 46 ∧ ¬ l.head? = some 94 ∧ ¬ l.head? = some 36 ∧ rd1 l = .error k) := by
  unfold base at h
  split at h
  · rename_i h0
    cases h1 : bracket l.tail with
    | error e => rw [h1] at h; injection h with h; subst h; exact Or.inl ⟨h0, rfl⟩
    | ok p => rw [h1] at h; cases h
  · rename_i h91
    split at h
    · cases h
    · rename_i h46
      split at h
      · cases h
      · rename_i h94
        split at h
        · cases h
        · rename_i h36
          cases h1 : rd1 l with
          | error e => rw [h1] at h; injection h with h; subst h; exact Or.inr ⟨h91, h46, h94, h36, rfl⟩
          | ok p => rw [h1] at h; cases h
theorem atom_both (g : Nat) (s : ByteArray) (hs : s.size ≤ 1000) : ∀ (n : Nat), n ≤ 1000 → ∀ m : List UInt8, m.length ≤ n → (∀ p, Atom m (.ok p) → AtomOkC g s m p) ∧ (∀ k, Atom m (.error k) → AtomBadC g s m k) := by
  intro n
  induction n with
  | zero =>
    intro _ m hm
    have hm0 : m = [] := List.eq_nil_of_length_eq_zero (by omega)
    subst hm0
    constructor
    · intro p h
      cases h with
      | ok _ nd l1 h40 hb => simp [base, rd1] at hb
    · intro k h
      cases h with
      | bad _ _ h40 hb =>
        rcases base_bad _ _ hb with ⟨h1, _⟩ | ⟨h91, h46, h94, h36, h1⟩
        · cases h1
        · exact atom_one_bad g s [] hs h40 h91 h46 h94 h36 k h1
  | succ n ih =>
    intro hn m hm
    have hatoms : ∀ l' : List UInt8, l'.length ≤ n → AtomsC g s l' := fun l' hl' m' hm' => ih (by omega) m' (by omega)
    constructor
    · intro p h
      cases h with
      | ok _ nd l1 h40 hb =>
        rcases base_ok _ _ _ hb with ⟨h0, c, h1, rfl⟩ | ⟨h0, rfl, rfl⟩ | ⟨h0, rfl, rfl⟩ | ⟨h0, rfl, rfl⟩ | ⟨h91, h46, h94, h36, b, h1, rfl⟩
        · exact atom_class g s m hs h0 c l1 h1
        · exact atom_dot g s m hs h0
        · exact atom_begin g s m hs h0
        · exact atom_end g s m hs h0
        · exact atom_one g s m hs h40 h91 h46 h94 h36 b l1 h1 _ rfl
      | inOk l' ss l1 h1 =>
        simp at hm
        have hz := (sizes _ l' (Nat.le_refl _)).2.2 ss _ h1
        have ho := orL_len (ss.map Rx.flat)
        rw [← ors_flat ss (alt_ne _ _ _ h1)] at ho
        simp at hz ho
        exact atom_inOk g s l' hs ss l1 (all_ok g s l' hs (hatoms l' (by omega)) ss _ h1) (by omega)
    · intro k h
      cases h with
      | bad _ _ h40 hb =>
        rcases base_bad _ _ hb with ⟨h0, h1⟩ | ⟨h91, h46, h94, h36, h1⟩
        · exact atom_class_bad g s m hs h0 k h1
        · exact atom_one_bad g s m hs h40 h91 h46 h94 h36 k h1
      | inBad l' _ h1 =>
        simp at hm
        exact atom_inBad g s l' hs k (all_bad g s l' hs (hatoms l' (by omega)) k h1)
      | inOpen l' ss l1 h1 h2 =>
        simp at hm
        have hz := (sizes _ l' (Nat.le_refl _)).2.2 ss _ h1
        have ho := orL_len (ss.map Rx.flat)
        rw [← ors_flat ss (alt_ne _ _ _ h1)] at ho
        simp at hz ho
        exact atom_inOpen g s l' hs ss l1 (all_ok g s l' hs (hatoms l' (by omega)) ss _ h1) h2 (by omega)
theorem atomsC_any (g : Nat) (s : ByteArray) (hs : s.size ≤ 1000) (l : List UInt8) (hl : l.length ≤ 1000) : AtomsC g s l := fun m hm => atom_both g s hs 1000 (Nat.le_refl _) m (by omega)
set_option maxHeartbeats 2000000 in
theorem parseOf_full (s : ByteArray) (w : World) (h : 200 < s.size) (hm : s.size ≤ maxLen) :
    Calls Tryz.prog 8 #[.string s] w fun e w' => e = .returned (.tuple #[.slice none 0 0, .int .i64 0, .int .i64 3]) ∧ w' = w := by
  unfold maxLen at hm
  have h1 : (200 : Int) < (s.size : Int) := by omega
  go_enter Tryz.func8, Tryz.ntmps8
  go_wp2
  go_ret3
  exact ⟨rfl, rfl⟩
/-- The reader at the text's beginning. -/
theorem at_begin (s : ByteArray) (w : World) (hg : Nat) (hh : hg = w.heap.size) : At (w.alloc (.cells #[.string s, .int .i64 0, .int .i64 (-1)] 59)) hg s s.data.toList := by
  subst hh
  refine ⟨0, by rw [len_str]; omega, rfl, ?_⟩
  show (w.heap.push _)[w.heap.size]? = _
  simp
theorem below_all {w w' : World} {o : Obj} (hg : (w.alloc o).grownBy w' (some w.heap.size)) : Below w.heap.size w w' := by
  have h1 := below_one w o
  refine ⟨hg.os.trans h1.os, hg.tape.trans h1.tape, hg.output.trans h1.output, Nat.le_trans h1.size hg.size, fun k hk => ?_⟩
  exact (hg.block k (by simp; omega) (by intro e; injection e with e; omega)).trans (h1.block k hk)
set_option maxHeartbeats 4000000 in
theorem parseOf_bad (s : ByteArray) (w : World) (h : s.size ≤ 200) (k : Nat) (hW : Whole s.data.toList (.error k)) :
    Calls Tryz.prog 8 #[.string s] w fun e w' => e = .returned (.tuple #[.slice none 0 0, .int .i64 ((s.size : Int) - (k : Int)), .int .i64 5]) ∧ Below w.heap.size w w' := by
  have h1 : ¬ (200 : Int) < (s.size : Int) := by omega
  have hA := at_begin s w _ rfl
  have hll := len_str s
  have hat := atomsC_any w.heap.size s (by omega) s.data.toList (by omega)
  cases hW with
  | bad _ h2 =>
    have CA : Hid _ := all_bad _ s _ (by omega) hat k h2 _ hA
    clear hA hat
    go_enter Tryz.func8, Tryz.ntmps8
    go_wp2_with fail
    refine Calls.mono CA.out ?_
    rintro e w1 ⟨hg1, u, ms, rfl, ho, hms, hB⟩
    have HBel : Hid _ := below_all hg1
    obtain ⟨ua, ucap, hu⟩ := NsOwn.form0 ho
    obtain ⟨a, bd, ha, hbd, hR⟩ := hB
    obtain ⟨c0, c1, c2, f1, f2⟩ := hR.all
    have hbq : decide ((bd : Int) < 0) = false := by simp
    have HV : Hid ((s.size : Int) - (k : Int) = (bd : Int)) := by show _ = _; omega
    clear hg1 ho hR CA
    go_wp2_with fail
    go_quiet (fail)
    go_wp2
    go_ret3
    exact ⟨by rw [HV.out]; rfl, HBel.out.trans ((below_drewN' _ _).mono HBel.out.size)⟩
  | more ss l1 h2 h3 =>
    have CA : Hid _ := all_ok _ s _ (by omega) hat ss l1 h2 _ hA
    clear hA hat
    go_enter Tryz.func8, Tryz.ntmps8
    go_wp2_with fail
    refine Calls.mono CA.out ?_
    rintro e w1 ⟨hg1, u, rfl, ho, hA1⟩
    have HG : Hid _ := hg1
    obtain ⟨ua, ucap, hu⟩ := NsOwn.form0 ho
    obtain ⟨a, ha, hd, hR⟩ := hA1
    have hl1 : 0 < l1.length := List.length_pos_iff.2 h3
    obtain ⟨c0, c1, c2, f1, f2⟩ := hR.all
    have ia : (a : Int) < (s.size : Int) := by omega
    have ib : decide (a < s.size) = true := by simp; omega
    have CF : Hid _ := fail_first w.heap.size s a (-1) a w1 hR (by omega)
    have HV : Hid ((s.size : Int) - (l1.length : Int) = (a : Int)) := by show _ = _; omega
    clear hg1 ho hR hd CA
    go_wp2_with fail
    refine Calls.mono CF.out ?_
    rintro e w2 ⟨rfl, hR2, hg2⟩
    clear c0 c1 c2 f1 f2
    obtain ⟨c0, c1, c2, f1, f2⟩ := hR2.all
    have HBel : Hid _ := below_all (HG.out.trans hg2)
    clear hR2 hg2 CF
    go_wp2_with fail
    go_quiet (fail)
    go_wp2
    go_ret3
    exact ⟨by rw [HV.out]; rfl, HBel.out.trans ((below_drewN' _ _).mono HBel.out.size)⟩
set_option maxHeartbeats 4000000 in
theorem parseOf_ok (s : ByteArray) (w : World) (h : s.size ≤ 200) (t : Rx) (hW : Whole s.data.toList (.ok t)) :
    Calls Tryz.prog 8 #[.string s] w fun e w' => ∃ u, e = .returned (.tuple #[u, .int .i64 0, .int .i64 (if 60 < t.flat.length then 3 else 0)]) ∧ Below w.heap.size w w' ∧ NsIn w' u (if 60 < t.flat.length then [] else t.flat) := by
  have h1 : ¬ (200 : Int) < (s.size : Int) := by omega
  have hA := at_begin s w _ rfl
  have hll := len_str s
  have hat := atomsC_any w.heap.size s (by omega) s.data.toList (by omega)
  cases hW with
  | ok ss h2 =>
    have hz := (sizes _ _ (Nat.le_refl _)).2.2 ss _ h2
    have hol := orL_len (ss.map Rx.flat)
    rw [← ors_flat ss (alt_ne _ _ _ h2)] at hol
    simp at hz hol
    have CA : Hid _ := all_ok _ s _ (by omega) hat ss [] h2 _ hA
    clear hA hat
    go_enter Tryz.func8, Tryz.ntmps8
    go_wp2_with fail
    refine Calls.mono CA.out ?_
    rintro e w1 ⟨hg1, u, rfl, ho, hA1⟩
    have HBel : Hid _ := below_all hg1
    have HO : Hid _ := ho.isIn (by unfold maxLen; omega)
    obtain ⟨ua, ucap, hu⟩ := NsOwn.form0 ho
    obtain ⟨a, ha, hd, hR⟩ := hA1
    obtain ⟨c0, c1, c2, f1, f2⟩ := hR.all
    simp at ha
    have ib : decide (a < s.size) = false := by simp; omega
    clear hg1 ho hR hd CA
    by_cases h60 : 60 < (ors ss).flat.length
    · have h6 : (60 : Int) < ((ors ss).flat.length : Int) := by omega
      have H60 : Hid _ := h60
      subst hu
      clear h60
      go_wp2
      go_ret3
      exact ⟨.slice none 0 0, by first | rfl | (rw [if_pos H60.out]; rfl), HBel.out, by first | exact ⟨none, 0, rfl, by simp, Or.inl rfl⟩ | (rw [if_pos H60.out]; exact ⟨none, 0, rfl, by simp, Or.inl rfl⟩)⟩
    · have h6 : ¬ (60 : Int) < ((ors ss).flat.length : Int) := by omega
      have H60 : Hid _ := h60
      subst hu
      clear h60
      go_wp2
      go_ret3
      exact ⟨.slice ua (ors ss).flat.length ucap, by first | rfl | (rw [if_neg H60.out]; rfl), HBel.out, by first | exact HO.out | (rw [if_neg H60.out]; exact HO.out)⟩
end Go.Proofs.YtmdfdlljeggbbaaGreatDoor
namespace Go.Proofs.YtmdfdlljeggbbaaGreatDoor
set_option linter.unusedSimpArgs false
set_option linter.unusedVariables false
set_option maxRecDepth 100000
open Go.RowKit

theorem parseOf_psR (s : ByteArray) (w : World) (ms : List Nd) (k e : Int) (hm : s.size ≤ maxLen) (h : PsR s ms k e) :
    Calls Tryz.prog 8 #[.string s] w fun x w' => ∃ u, x = .returned (.tuple #[u, .int .i64 k, .int .i64 e]) ∧ Below w.heap.size w w' ∧ NsIn w' u ms := by
  cases h with
  | full h => exact (parseOf_full s w h hm).mono fun x w' ⟨h1, h2⟩ => ⟨_, h1, by rw [h2]; exact Below.refl _ _, nsIn_nil _⟩
  | bad k h hW => exact (parseOf_bad s w h k hW).mono fun x w' ⟨h1, h2⟩ => ⟨_, h1, h2, nsIn_nil _⟩
  | many t h hW h6 =>
    have := parseOf_ok s w h t hW
    rw [if_pos h6, if_pos h6] at this
    exact this
  | ok t h hW h6 =>
    have := parseOf_ok s w h t hW
    rw [if_neg h6, if_neg h6] at this
    exact this
set_option maxHeartbeats 4000000 in
theorem synIs_bad (P : SynP) (Q : SynR) (ns : List Nd) (v : Value) (s : ByteArray) (hs : s.size ≤ maxLen) (w : World) (hN : NsIn w v ns) (hw : ∀ n ∈ ns, n.wf) (hE : w.cell? ⟨0, 0, none⟩ = some (rty 27)) (h0 : 0 < w.heap.size) (hf : ¬ faultL ns = 0) :
    Calls Tryz.prog 3 #[v, .string s] w fun e w' => e = .returned (.bool true) ∧ Below w.heap.size w w' := by
  have HO : Hid (NdOk ns) := fun n hn => C4.wf_ok (hw n hn).2
  have H0 : Hid _ := h0
  have S0 : Hid (Stay w w) := ⟨Below.refl _ _, hE⟩
  have C1 : Hid (∀ w', Below w.heap.size w w' → Calls Tryz.prog 6 #[v] w' fun e w'' => e = .returned (.tuple #[.string ⟨[].toArray⟩, errV (faultL ns)]) ∧ Below w'.heap.size w' w'') := fun w' hb => P.bad ns v w' (hN.below hb) hw hf
  have CF : Hid _ := fault_any ns HO.out v w hN
  obtain ⟨ms, k, er, hps⟩ := psR_total s
  have R1 : Hid (∀ w, _) := fun w => parseOf_psR s w ms k er hs hps
  have R2 : Hid (∀ w, _) := fun w => Q.parse s w ms k er hs hps
  obtain ⟨a, cap, rfl, hm⟩ := nsIn_form hN
  have pf : (faultL ns == 0) = false := by simp [hf]
  clear hw P Q hN hE h0 hf hps
  generalize faultL ns = ft at *
  go_enter Tryz.func3, Tryz.ntmps3
  go_wp2_with fail
  refine Calls.mono (CF.out) ?_
  rintro e w1 ⟨rfl, hb⟩
  have S1 : Hid (Stay w w1) := S0.out.more H0.out hb
  clear hb
  go_wp2_with fail
  refine Calls.mono (C1.out _ S1.out.b) ?_
  rintro e w2 ⟨rfl, hb⟩
  have S2 : Hid (Stay w w2) := S1.out.more H0.out hb
  clear hb
  go_wp2_with fail
  refine Calls.mono (error_self _ _ S2.out.e) ?_
  rintro e w3 ⟨rfl, hb⟩
  have S3 : Hid (Stay w w3) := S2.out.more H0.out hb
  clear hb
  go_wp2_with fail
  refine Calls.mono (R1.out _) ?_
  rintro e w4 ⟨u, rfl, hb, hu⟩
  have S4 : Hid (Stay w w4) := S3.out.more H0.out hb
  have U4 : Hid _ := hu
  clear hb hu
  go_wp2_with fail
  refine Calls.mono (R2.out _) ?_
  rintro e w5 ⟨x, rfl, hb, hx⟩
  have S5 : Hid (Stay w w5) := S4.out.more H0.out hb
  have U5 : Hid (NsIn w5 u ms) := NsIn.below U4.out hb
  have X5 : Hid (NsIn w5 x ms) := hx
  clear hb hx
  go_wp2_with fail
  refine Calls.mono (error_self _ _ S5.out.e) ?_
  rintro e w6 ⟨rfl, hb⟩
  have S6 : Hid (Stay w w6) := S5.out.more H0.out hb
  have U6 : Hid (NsIn w6 u ms) := NsIn.below U5.out hb
  have X6 : Hid (NsIn w6 x ms) := NsIn.below X5.out hb
  clear hb
  have CN : Hid _ := nodes_any ms ms x u w6 X6.out U6.out
  rw [nsEq_refl] at CN
  go_wp2_with fail
  refine Calls.mono (CN.out) ?_
  rintro e w7 ⟨rfl, hb⟩
  have S7 : Hid (Stay w w7) := S6.out.more H0.out hb
  clear hb
  go_wp2
  go_ret
  exact ⟨rfl, S7.out.b⟩
set_option maxHeartbeats 4000000 in
theorem synIs_long (P : SynP) (Q : SynR) (t : Rx) (ht : t.Ok) (v : Value) (s : ByteArray) (hs : s.size ≤ maxLen) (w : World) (hN : NsIn w v t.flat) (hw : ∀ n ∈ t.flat, n.wf) (hE : w.cell? ⟨0, 0, none⟩ = some (rty 27)) (h0 : 0 < w.heap.size) (hf : faultL t.flat = 0) (h200 : 200 < t.txt.length) :
    Calls Tryz.prog 3 #[v, .string s] w fun e w' => e = .returned (.bool true) ∧ Below w.heap.size w w' := by
  have HO : Hid (NdOk t.flat) := fun n hn => C4.wf_ok (hw n hn).2
  have H0 : Hid _ := h0
  have S0 : Hid (Stay w w) := ⟨Below.refl _ _, hE⟩
  obtain ⟨hl, hr, hv⟩ := (faultL_zero t.flat).1 hf
  have C1 : Hid (∀ w', Below w.heap.size w w' → _) := fun w' hb => P.ok t v w' ht (hN.below hb) hw hf
  have CT : Hid (∀ w', Below w.heap.size w w' → _) := fun w' hb => textOf_any t ht v w' (hN.below hb) (fun n hn => ⟨(hr n hn).1, HO.out n hn⟩) hl
  have CF : Hid (Calls Tryz.prog 4 #[v] w fun e w' => e = .returned (.int .i64 0) ∧ Below w.heap.size w w') := by
    have := fault_any t.flat HO.out v w hN
    rw [hf] at this
    exact this
  obtain ⟨ms, k, er, hps⟩ := psR_total s
  have R1 : Hid (∀ w, _) := fun w => parseOf_psR s w ms k er hs hps
  have R2 : Hid (∀ w, _) := fun w => Q.parse s w ms k er hs hps
  obtain ⟨a, cap, rfl, hm⟩ := nsIn_form hN
  have hz := size_str t.txt
  have htl := Rx.txt_len t
  have g200 : (200 : Int) < (t.txt.length : Int) := by omega
  have e1 : prtL t = [] := if_pos h200
  have e2 : prtE t = 3 := if_pos h200
  rw [e1, e2] at C1
  clear h200 e1 e2
  clear hw P Q hN hE h0 hf hps hl hr hv ht
  go_enter Tryz.func3, Tryz.ntmps3
  go_wp2_with fail
  refine Calls.mono (CF.out) ?_
  rintro e w0 ⟨rfl, hb⟩
  have S00 : Hid (Stay w w0) := S0.out.more H0.out hb
  clear hb
  go_wp2_with fail
  refine Calls.mono (CT.out _ S00.out.b) ?_
  rintro e w1 ⟨rfl, hb⟩
  have S1 : Hid (Stay w w1) := S00.out.more H0.out hb
  clear hb
  go_wp2_with fail
  refine Calls.mono (C1.out _ S1.out.b) ?_
  rintro e w2 ⟨rfl, hb⟩
  have S2 : Hid (Stay w w2) := S1.out.more H0.out hb
  clear hb
  go_wp2_with fail
  refine Calls.mono (error_self _ _ S2.out.e) ?_
  rintro e w3 ⟨rfl, hb⟩
  have S3 : Hid (Stay w w3) := S2.out.more H0.out hb
  clear hb
  go_wp2_with fail
  refine Calls.mono (R1.out _) ?_
  rintro e w4 ⟨u, rfl, hb, hu⟩
  have S4 : Hid (Stay w w4) := S3.out.more H0.out hb
  have U4 : Hid _ := hu
  clear hb hu
  go_wp2_with fail
  refine Calls.mono (R2.out _) ?_
  rintro e w5 ⟨x, rfl, hb, hx⟩
  have S5 : Hid (Stay w w5) := S4.out.more H0.out hb
  have U5 : Hid (NsIn w5 u ms) := NsIn.below U4.out hb
  have X5 : Hid (NsIn w5 x ms) := hx
  clear hb hx
  go_wp2_with fail
  refine Calls.mono (error_self _ _ S5.out.e) ?_
  rintro e w6 ⟨rfl, hb⟩
  have S6 : Hid (Stay w w6) := S5.out.more H0.out hb
  have U6 : Hid (NsIn w6 u ms) := NsIn.below U5.out hb
  have X6 : Hid (NsIn w6 x ms) := NsIn.below X5.out hb
  clear hb
  have CN : Hid _ := nodes_any ms ms x u w6 X6.out U6.out
  rw [nsEq_refl] at CN
  go_wp2_with fail
  refine Calls.mono (CN.out) ?_
  rintro e w7 ⟨rfl, hb⟩
  have S7 : Hid (Stay w w7) := S6.out.more H0.out hb
  clear hb
  go_wp2
  go_ret
  exact ⟨rfl, S7.out.b⟩
set_option maxHeartbeats 4000000 in
theorem synIs_short (P : SynP) (Q : SynR) (t : Rx) (ht : t.Ok) (v : Value) (s : ByteArray) (hs : s.size ≤ maxLen) (w : World) (hN : NsIn w v t.flat) (hw : ∀ n ∈ t.flat, n.wf) (hE : w.cell? ⟨0, 0, none⟩ = some (rty 27)) (h0 : 0 < w.heap.size) (hf : faultL t.flat = 0) (h200 : ¬ 200 < t.txt.length) :
    Calls Tryz.prog 3 #[v, .string s] w fun e w' => e = .returned (.bool true) ∧ Below w.heap.size w w' := by
  have HO : Hid (NdOk t.flat) := fun n hn => C4.wf_ok (hw n hn).2
  have H0 : Hid _ := h0
  have S0 : Hid (Stay w w) := ⟨Below.refl _ _, hE⟩
  obtain ⟨hl, hr, hv⟩ := (faultL_zero t.flat).1 hf
  have C1 : Hid (∀ w', Below w.heap.size w w' → _) := fun w' hb => P.ok t v w' ht (hN.below hb) hw hf
  have CT : Hid (∀ w', Below w.heap.size w w' → _) := fun w' hb => textOf_any t ht v w' (hN.below hb) (fun n hn => ⟨(hr n hn).1, HO.out n hn⟩) hl
  have CF : Hid (Calls Tryz.prog 4 #[v] w fun e w' => e = .returned (.int .i64 0) ∧ Below w.heap.size w w') := by
    have := fault_any t.flat HO.out v w hN
    rw [hf] at this
    exact this
  obtain ⟨ms, k, er, hps⟩ := psR_total s
  have R1 : Hid (∀ w, _) := fun w => parseOf_psR s w ms k er hs hps
  have R2 : Hid (∀ w, _) := fun w => Q.parse s w ms k er hs hps
  obtain ⟨a, cap, rfl, hm⟩ := nsIn_form hN
  have hz := size_str t.txt
  have htl := Rx.txt_len t
  have g200 : ¬ (200 : Int) < (t.txt.length : Int) := by omega
  have e1 : prtL t = t.txt := if_neg h200
  have e2 : prtE t = 0 := if_neg h200
  rw [e1, e2] at C1
  clear h200 e1 e2
  clear hw P Q hN hE h0 hf hps hl hr hv ht
  go_enter Tryz.func3, Tryz.ntmps3
  go_wp2_with fail
  refine Calls.mono (CF.out) ?_
  rintro e w0 ⟨rfl, hb⟩
  have S00 : Hid (Stay w w0) := S0.out.more H0.out hb
  clear hb
  go_wp2_with fail
  refine Calls.mono (CT.out _ S00.out.b) ?_
  rintro e w1 ⟨rfl, hb⟩
  have S1 : Hid (Stay w w1) := S00.out.more H0.out hb
  clear hb
  go_wp2_with fail
  refine Calls.mono (C1.out _ S1.out.b) ?_
  rintro e w2 ⟨rfl, hb⟩
  have S2 : Hid (Stay w w2) := S1.out.more H0.out hb
  clear hb
  go_wp2_with fail
  refine Calls.mono (error_self _ _ S2.out.e) ?_
  rintro e w3 ⟨rfl, hb⟩
  have S3 : Hid (Stay w w3) := S2.out.more H0.out hb
  clear hb
  go_wp2_with fail
  refine Calls.mono (R1.out _) ?_
  rintro e w4 ⟨u, rfl, hb, hu⟩
  have S4 : Hid (Stay w w4) := S3.out.more H0.out hb
  have U4 : Hid _ := hu
  clear hb hu
  go_wp2_with fail
  refine Calls.mono (R2.out _) ?_
  rintro e w5 ⟨x, rfl, hb, hx⟩
  have S5 : Hid (Stay w w5) := S4.out.more H0.out hb
  have U5 : Hid (NsIn w5 u ms) := NsIn.below U4.out hb
  have X5 : Hid (NsIn w5 x ms) := hx
  clear hb hx
  go_wp2_with fail
  refine Calls.mono (error_self _ _ S5.out.e) ?_
  rintro e w6 ⟨rfl, hb⟩
  have S6 : Hid (Stay w w6) := S5.out.more H0.out hb
  have U6 : Hid (NsIn w6 u ms) := NsIn.below U5.out hb
  have X6 : Hid (NsIn w6 x ms) := NsIn.below X5.out hb
  clear hb
  have CN : Hid _ := nodes_any ms ms x u w6 X6.out U6.out
  rw [nsEq_refl] at CN
  go_wp2_with fail
  refine Calls.mono (CN.out) ?_
  rintro e w7 ⟨rfl, hb⟩
  have S7 : Hid (Stay w w7) := S6.out.more H0.out hb
  clear hb
  go_wp2
  go_ret
  exact ⟨rfl, S7.out.b⟩
theorem synIs_any (P : SynP) (Q : SynR) (ns : List Nd) (v : Value) (s : ByteArray) (hs : s.size ≤ maxLen) (w : World) (hN : NsIn w v ns) (hw : ∀ n ∈ ns, n.wf) (hE : w.cell? ⟨0, 0, none⟩ = some (rty 27)) (h0 : 0 < w.heap.size) :
    Calls Tryz.prog 3 #[v, .string s] w fun e w' => e = .returned (.bool true) ∧ Below w.heap.size w w' := by
  by_cases hf : faultL ns = 0
  · obtain ⟨_, _, hv⟩ := (faultL_zero ns).1 hf
    obtain ⟨t, ht, rfl⟩ := tree_of ns hv
    by_cases h200 : 200 < t.txt.length
    · exact synIs_long P Q t ht v s hs w hN hw hE h0 hf h200
    · exact synIs_short P Q t ht v s hs w hN hw hE h0 hf h200
  · exact synIs_bad P Q ns v s hs w hN hw hE h0 hf
end Go.Proofs.YtmdfdlljeggbbaaGreatDoor
namespace Go.Proofs.YtmdfdlljeggbbaaGreatDoor
set_option linter.unusedSimpArgs false
set_option linter.unusedVariables false
open Go.Shelf Go.RowKit

def strRen : Go.Shelf.Ren := ⟨fun | 169 => 18 | n => n, fun | 70 => 47 | 9 => 9 | 0 => 0 | 72 => 50 | 37 => 48 | 127 => 75 | 3 => 3 | 5 => 5 | n => n, fun | n => n⟩
theorem strLays : Go.Proofs.Lays.n169 Tryz.prog strRen := {
  mixed := by kernel_rfl
  f169 := Tryz.func18.trans (congrArg some (by kernel_rfl))
  t0 := Tryz.underlying0
  a0 := Tryz.isAgg0
  z0 := Tryz.sizeOf0
  v0 := Tryz.zeroValue0
  t3 := Tryz.underlying3
  a3 := Tryz.isAgg3
  z3 := Tryz.sizeOf3
  v3 := Tryz.zeroValue3
  t9 := Tryz.underlying9
  a9 := Tryz.isAgg9
  z9 := Tryz.sizeOf9
  v9 := Tryz.zeroValue9
  t37 := Tryz.underlying48
  a37 := Tryz.isAgg48
  z37 := Tryz.sizeOf48
  v37 := Tryz.zeroValue48
  t70 := Tryz.underlying47
  a70 := Tryz.isAgg47
  z70 := Tryz.sizeOf47
  v70 := Tryz.zeroValue47
  t72 := Tryz.underlying50
  a72 := Tryz.isAgg50
  z72 := Tryz.sizeOf50
  v72 := Tryz.zeroValue50
  t127 := Tryz.underlying75
  a127 := Tryz.isAgg75
  z127 := Tryz.sizeOf75
  v127 := Tryz.zeroValue75 }
theorem strExtra : Builder.Extra Tryz.prog strRen := {
  sizeBuilder := by kernel_rfl
  liesBuilder := by kernel_rfl
  t5 := Tryz.underlying5
  a5 := Tryz.isAgg5
  z5 := Tryz.sizeOf5
  v5 := Tryz.zeroValue5
  infoByte := by kernel_rfl
  cellsByte := by kernel_rfl
  sizeByte := by kernel_rfl
  neB5 := by decide }
theorem string_any (B b : Nat) (l : List UInt8) (w : World) (h : Lib.IsBuilder 50 5 B b (Lib.byteCells l) w) (hBw : B ≤ w.heap.size) :
    Calls Tryz.prog 18 #[.pointer (some ⟨b, 0, none⟩)] w fun e w' => e = .returned (.string ⟨l.toArray⟩) ∧ Below B w w' := Any.Builder_String_any strLays strExtra B b l w h hBw

def ixRen : Go.Shelf.Ren := ⟨fun | 137 => 82 | 217 => 87 | 266 => 94 | n => n, fun | 9 => 9 | 5 => 5 | 3 => 3 | n => n, fun | n => n⟩
theorem ixLays : Go.Proofs.Lays.n137 Tryz.prog ixRen := {
  mixed := by kernel_rfl
  f137 := Tryz.func82.trans (congrArg some (by kernel_rfl))
  f217 := Tryz.func87.trans (congrArg some (by kernel_rfl))
  f266 := Tryz.func94.trans (congrArg some (by kernel_rfl))
  t3 := Tryz.underlying3
  a3 := Tryz.isAgg3
  z3 := Tryz.sizeOf3
  v3 := Tryz.zeroValue3
  t5 := Tryz.underlying5
  a5 := Tryz.isAgg5
  z5 := Tryz.sizeOf5
  v5 := Tryz.zeroValue5
  t9 := Tryz.underlying9
  a9 := Tryz.isAgg9
  z9 := Tryz.sizeOf9
  v9 := Tryz.zeroValue9 }
theorem indexByte_any (s : ByteArray) (c : Int) (w : World) :
    Calls Tryz.prog 82 #[.string s, .int .u8 c] w fun e w' => e = .returned (.int .i64 (Lib.indexByte s.data.toList c.toNat.toUInt8)) ∧ w' = w := Any.strings_IndexByte ixLays s c w

/-! strings.Builder's writing: copyCheck, WriteString -/
set_option maxHeartbeats 1000000 in
set_option maxRecDepth 100000 in
theorem copyCheck_used (b : Nat) (w : World) (h0 : w.cell? ⟨b, 0, none⟩ = some (.pointer (some ⟨b, 0, none⟩))) :
    Calls Tryz.prog 44 #[.pointer (some ⟨b, 0, none⟩)] w fun e w' => e = .returned (.tuple #[]) ∧ w' = w := by
  obtain ⟨j, hj, _⟩ := Option.map_eq_some_iff.1 strExtra.sizeBuilder
  go_enter Tryz.func44, Tryz.ntmps44
  go_wp2
  rw [Lib.run_neq_ptr_same w _ Tryz.underlying47 hj]
  go_wp2
  go_end0
  exact ⟨rfl, rfl⟩
set_option maxHeartbeats 1000000 in
set_option maxRecDepth 100000 in
theorem copyCheck_fresh (b : Nat) (w : World) (h0 : w.cell? ⟨b, 0, none⟩ = some (.pointer none)) (hsh : w.shape? b = some (50, 2)) (hfz : w.frozen? ⟨b, 0, none⟩ = false) :
    Calls Tryz.prog 44 #[.pointer (some ⟨b, 0, none⟩)] w fun e w' => e = .returned (.tuple #[]) ∧ w' = w.setCell ⟨b, 0, none⟩ (.pointer (some ⟨b, 0, none⟩)) := by
  obtain ⟨j, hj, hjs⟩ := Option.map_eq_some_iff.1 strExtra.sizeBuilder
  go_enter Tryz.func44, Tryz.ntmps44
  go_wp2
  rw [Lib.run_to_unsafe w ⟨b, 0, none⟩ Tryz.underlying47 Tryz.underlying90 hj (by rw [hjs]; decide) hsh (Nat.zero_lt_succ 1)]
  simp only [Result.andThen]
  rw [Oper.upon_value]
  go_wp2
  rw [run_callFunc_extern Tryz.func60 (by kernel_rfl) (by kernel_rfl) (by kernel_rfl) (e := Extern.AbiNoEscape.same) (by kernel_rfl)]
  rw [Lib.run_noEscape]
  simp only [Result.andThen]
  rw [Oper.upon_value]
  go_wp2
  rw [Lib.run_from_unsafe w ⟨b, 0, none⟩ Tryz.underlying90 Tryz.underlying47 hj hsh strExtra.liesBuilder]
  simp only [Result.andThen]
  rw [Oper.upon_value]
  go_wp2
  go_end0
  exact ⟨rfl, rfl⟩
theorem copyCheck_any (B b : Nat) (bs : List Value) (w : World) (h : Lib.IsBuilder 50 5 B b bs w) :
    Calls Tryz.prog 44 #[.pointer (some ⟨b, 0, none⟩)] w fun e w' => e = .returned (.tuple #[]) ∧ (Lib.BuilderAt 50 5 B b (.pointer (some ⟨b, 0, none⟩)) bs w' ∧ Below B w w') := by
  rcases h with h | h
  · refine (copyCheck_fresh b w h.cell0 h.shape h.frozen0).mono ?_
    rintro e w' ⟨rfl, rfl⟩
    exact ⟨rfl, h.used _, (Below.refl B w).setCell (p := ⟨b, 0, none⟩) h.1 _⟩
  · refine (copyCheck_used b w h.cell0).mono ?_
    rintro e w' ⟨rfl, rfl⟩
    exact ⟨rfl, h, Below.refl B _⟩
set_option maxHeartbeats 1000000 in
set_option maxRecDepth 100000 in
theorem writeString_any (B b : Nat) (bs : List Value) (s : ByteArray) (w : World) (h : Lib.IsBuilder 50 5 B b bs w) (hlen : bs.length + s.size ≤ 140737488355328) (hBw : B ≤ w.heap.size) :
    Calls Tryz.prog 30 #[.pointer (some ⟨b, 0, none⟩), .string s] w fun e w' => e = .returned (.tuple #[.int .i64 s.size, .nilIface]) ∧ (Lib.BuilderAt 50 5 B b (.pointer (some ⟨b, 0, none⟩)) (bs ++ Lib.strCells s) w' ∧ Below B w w') := by
  obtain ⟨i0, hi, hz0, hz1, hz2⟩ := info_parts strExtra.infoByte
  go_enter Tryz.func30, Tryz.ntmps30
  go_wp2_with (go_at_call 44; refine (copyCheck_any B b bs _ h).mono ?_)
  rintro e w1 ⟨rfl, h1, hb1⟩
  obtain ⟨hB, v, hbk, hown, hne⟩ := h1
  have c0 : w1.cell? ⟨b, 0, none⟩ = some (.pointer (some ⟨b, 0, none⟩)) := by rw [Lib.cell_of_heap hbk]; rfl
  have c1 : w1.cell? ⟨b, 1, none⟩ = some v := by rw [Lib.cell_of_heap hbk]; rfl
  go_wp2_with (at_builtin; refine Lib.wpList_append_own_string _ rfl _ _ 48 9 rfl B 5 i0 Tryz.underlying48 Tryz.underlying9 hi hz0 hz1 hz2 _ _ _ rfl hown s rfl ?c3 ?c4 ?c5 ?_)
  case c3 => unfold maxLen; omega
  case c4 => omega
  case c5 => have := hb1.size; omega
  intro v' w2 hown' hgrow _
  have hlt : b < w1.heap.size := by
    rcases Nat.lt_or_ge b w1.heap.size with h' | h'
    · exact h'
    · simp [Array.getElem?_eq_none h'] at hbk
  have hb2 : w2.heap[b]? = some (.cells #[.pointer (some ⟨b, 0, none⟩), v] 50 (0, 0)) := by
    rw [hgrow.block b hlt (fun e => hne e.symm)]
    exact hbk
  have d0 : w2.cell? ⟨b, 0, none⟩ = some (.pointer (some ⟨b, 0, none⟩)) := by rw [Lib.cell_of_heap hb2]; rfl
  have d1 : w2.cell? ⟨b, 1, none⟩ = some v := by rw [Lib.cell_of_heap hb2]; rfl
  have f1 : w2.frozen? ⟨b, 1, none⟩ = false := Lib.frozen_of_heap hb2 1
  obtain ⟨ao, n', cap, rfl⟩ : ∃ ao n' cap, v' = .slice ao n' cap := by
    rcases hown'.2 with ⟨hv, _⟩ | ⟨g, cap, cur, hv, _⟩
    · exact ⟨_, _, _, hv⟩
    · exact ⟨_, _, _, hv⟩
  go_wp2
  go_ret2
  refine ⟨rfl, ?_, ?_⟩
  · exact Lib.BuilderAt.put (T := 50) (e := 5) hB hb2 (bs' := bs ++ Lib.strCells s) (by simpa [Lib.strCells_length] using hown') strExtra.neB5
  · exact (hb1.grown hgrow (by have := hb1.size; omega) (fun k hk => (hown.lt k hk).1)).setCell (p := ⟨b, 1, none⟩) hB _
end Go.Proofs.YtmdfdlljeggbbaaGreatDoor
namespace Go.Proofs.YtmdfdlljeggbbaaGreatDoor
set_option linter.unusedSimpArgs false
set_option linter.unusedVariables false
set_option maxRecDepth 100000
open Go.RowKit

theorem hid {p : Prop} (h : p) : Hid p := h
/-- Block g holds a reader. -/
def Rdr (w : World) (g : Nat) (s : ByteArray) (a : Int) (v : Value) (st : Bool) : Prop := w.heap[g]? = some (.cells #[.string s, .int .i64 a, v, .bool st] 84 (0, 0))
theorem Rdr.all {w : World} {g : Nat} {s : ByteArray} {a : Int} {v : Value} {st : Bool} (h : Rdr w g s a v st) : w.cell? ⟨g, 0, none⟩ = some (.string s) ∧ w.cell? ⟨g, 1, none⟩ = some (.int .i64 a) ∧ w.cell? ⟨g, 2, none⟩ = some v ∧ w.cell? ⟨g, 3, none⟩ = some (.bool st) ∧ w.frozen? ⟨g, 1, none⟩ = false ∧ w.frozen? ⟨g, 2, none⟩ = false ∧ w.frozen? ⟨g, 3, none⟩ = false := by
  refine ⟨?_, ?_, ?_, ?_, Lib.frozen_of_heap h 1, Lib.frozen_of_heap h 2, Lib.frozen_of_heap h 3⟩ <;> (rw [Lib.cell_of_heap h]; rfl)
theorem Rdr.lt {w : World} {g : Nat} {s : ByteArray} {a : Int} {v : Value} {st : Bool} (h : Rdr w g s a v st) : g < w.heap.size := by
  rcases Nat.lt_or_ge g w.heap.size with h' | h'
  · exact h'
  · simp [Rdr, Array.getElem?_eq_none h'] at h
theorem Rdr.setPlace {w : World} {g : Nat} {s : ByteArray} {a : Int} {v : Value} {st : Bool} (h : Rdr w g s a v st) (z : Int) : Rdr (w.setCell ⟨g, 1, none⟩ (.int .i64 z)) g s z v st := by
  simp only [Rdr] at h ⊢
  simp [World.setCell, Array.getElem?_modify, h]
theorem Rdr.setNodes {w : World} {g : Nat} {s : ByteArray} {a : Int} {v : Value} {st : Bool} (h : Rdr w g s a v st) (u : Value) : Rdr (w.setCell ⟨g, 2, none⟩ u) g s a u st := by
  simp only [Rdr] at h ⊢
  simp [World.setCell, Array.getElem?_modify, h]
theorem Rdr.setStuck {w : World} {g : Nat} {s : ByteArray} {a : Int} {v : Value} {st : Bool} (h : Rdr w g s a v st) (z : Bool) : Rdr (w.setCell ⟨g, 3, none⟩ (.bool z)) g s a v z := by
  simp only [Rdr] at h ⊢
  simp [World.setCell, Array.getElem?_modify, h]
theorem Rdr.below {w w' : World} {g : Nat} {s : ByteArray} {a : Int} {v : Value} {st : Bool} (h : Rdr w g s a v st) (hb : Below w.heap.size w w') : Rdr w' g s a v st := (hb.block g h.lt).trans h
theorem Rdr.alloc {w : World} {g : Nat} {s : ByteArray} {a : Int} {v : Value} {st : Bool} (h : Rdr w g s a v st) (o : Obj) : Rdr (w.alloc o) g s a v st := (Below.heap_alloc w o g h.lt).trans h
theorem Rdr.ca {w : World} {g : Nat} {s : ByteArray} {a : Int} {v : Value} {st : Bool} (h : Rdr w g s a v st) : (∀ o, (w.alloc o).cell? ⟨g, 0, none⟩ = some (.string s)) ∧ (∀ o, (w.alloc o).cell? ⟨g, 1, none⟩ = some (.int .i64 a)) ∧ (∀ o, (w.alloc o).cell? ⟨g, 2, none⟩ = some v) ∧ (∀ o, (w.alloc o).cell? ⟨g, 3, none⟩ = some (.bool st)) ∧ (∀ o, (w.alloc o).frozen? ⟨g, 1, none⟩ = false) ∧ (∀ o, (w.alloc o).frozen? ⟨g, 2, none⟩ = false) ∧ (∀ o, (w.alloc o).frozen? ⟨g, 3, none⟩ = false) :=
  ⟨fun o => (h.alloc o).all.1, fun o => (h.alloc o).all.2.1, fun o => (h.alloc o).all.2.2.1, fun o => (h.alloc o).all.2.2.2.1, fun o => (h.alloc o).all.2.2.2.2.1, fun o => (h.alloc o).all.2.2.2.2.2.1, fun o => (h.alloc o).all.2.2.2.2.2.2⟩
theorem grown_cell (w : World) (g : Nat) (i : Nat) (v : Value) : w.grownBy (w.setCell ⟨g, i, none⟩ v) (some g) := Lib.grownBy_setB (World.grownBy.refl w _) i v
theorem grown_of_below {w w' : World} (hb : Below w.heap.size w w') (row : Option Nat) : w.grownBy w' row := ⟨hb.os, hb.tape, hb.output, hb.size, fun k hk _ => hb.block k hk⟩
theorem grown_trans {w w1 w2 : World} {row : Option Nat} (h1 : w.grownBy w1 row) (h2 : w1.grownBy w2 row) : w.grownBy w2 row :=
  ⟨h2.os.trans h1.os, h2.tape.trans h1.tape, h2.output.trans h1.output, Nat.le_trans h1.size h2.size, fun k hk hn => (h2.block k (Nat.lt_of_lt_of_le hk h1.size) hn).trans (h1.block k hk hn)⟩
theorem below_of_grown {w w' : World} {g B : Nat} (h : w.grownBy w' (some g)) (hB : B ≤ g) (hg : g ≤ w.heap.size) : Below B w w' :=
  ⟨h.os, h.tape, h.output, h.size, fun k hk => h.block k (by omega) (by intro e; injection e with e; omega)⟩
theorem str_len (s : ByteArray) : s.data.toList.length = s.size := Array.length_toList
theorem str_idx (s : ByteArray) (a : Nat) (c : UInt8) (h : s.data.toList[a]? = some c) (w : World) : (Instr.index 9 (.string s) (.int .i64 (a : Int))).run Tryz.prog w = .ok (.int .u8 (c.toNat : Int)) w := by
  have hl : a < s.data.toList.length := by
    rcases Nat.lt_or_ge a s.data.toList.length with h' | h'
    · exact h'
    · rw [List.getElem?_eq_none h'] at h; cases h
  have hs : a < s.size := by rw [← str_len]; exact hl
  rw [run_index_string w 9 s .i64 (a : Int) Tryz.underlying9, dif_pos ⟨by omega, by omega⟩]
  rw [List.getElem?_eq_getElem hl] at h
  have e : s[(a : Int).toNat]'(by simpa using hs) = c := by
    exact Option.some.inj h
  rw [e]
theorem dropc (L : List UInt8) (a : Nat) (c : UInt8) (r : List UInt8) (h : L.drop a = c :: r) : L[a]? = some c ∧ L.drop (a + 1) = r ∧ a < L.length := by
  have hl : a < L.length := by
    rcases Nat.lt_or_ge a L.length with h' | h'
    · exact h'
    · rw [List.drop_eq_nil_of_le h'] at h; cases h
  rw [List.drop_eq_getElem_cons hl] at h
  injection h with h1 h2
  exact ⟨by rw [List.getElem?_eq_getElem hl, h1], h2, hl⟩
theorem dropn (L : List UInt8) (a : Nat) (h : L.drop a = []) : L.length ≤ a := by
  rcases Nat.lt_or_ge a L.length with h' | h'
  · rw [List.drop_eq_getElem_cons h'] at h; cases h
  · exact h'
/-- The reader at g stands ahead of l in the text s, at the place a, with the nodes v. -/
structure PA (w : World) (g : Nat) (s : ByteArray) (a : Nat) (v : Value) (l : List UInt8) : Prop where
  rd : Rdr w g s a v false
  at' : s.data.toList.drop a = l
  le : a + l.length = s.size
  small : s.size ≤ 200
theorem PA.below {w w' : World} {g : Nat} {s : ByteArray} {a : Nat} {v : Value} {l : List UInt8} (h : PA w g s a v l) (hb : Below w.heap.size w w') : PA w' g s a v l := ⟨h.rd.below hb, h.at', h.le, h.small⟩
theorem PA.lt {w : World} {g : Nat} {s : ByteArray} {a : Nat} {v : Value} {l : List UInt8} (h : PA w g s a v l) : g < w.heap.size := h.rd.lt
theorem PA.next {w : World} {g : Nat} {s : ByteArray} {a : Nat} {v : Value} {c : UInt8} {r : List UInt8} (h : PA w g s a v (c :: r)) (z : Int) (hz : z = ((a + 1 : Nat) : Int)) : PA (w.setCell ⟨g, 1, none⟩ (.int .i64 z)) g s (a + 1) v r := by
  subst hz
  have := h.le
  exact ⟨h.rd.setPlace _, (dropc _ _ _ _ h.at').2.1, by simp at this; omega, h.small⟩
/-- A misfit is on its way up. -/
def Stk (w : World) (g : Nat) : Prop := ∃ s a v, Rdr w g s a v true
theorem Stk.below {w w' : World} {g : Nat} (h : Stk w g) (hb : Below w.heap.size w w') : Stk w' g := by
  obtain ⟨s, a, v, h⟩ := h
  exact ⟨s, a, v, h.below hb⟩
/-- What is panicked with. -/
def mis (z : Int) : List PanicEntry := [{ v := .iface 81 (.agg #[.int .i64 z]), recovered := false }]
end Go.Proofs.YtmdfdlljeggbbaaGreatDoor
