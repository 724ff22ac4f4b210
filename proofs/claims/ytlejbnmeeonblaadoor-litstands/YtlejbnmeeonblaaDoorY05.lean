/- What LitStands asks, of texts in memory: plain mathematics. Lists of numbers in memory. What the document asks of package mean. The law LitStands, walked from what the document asks of packages lit and mean. (Made by wip/tools/genlts.py.) Sets of places in memory: of no Go function. -/
import Derived.Test.YtlejbnmeeonblaaDoorY04
import Derived.Test.YtlejbnmeeonblaaDoorY02
import Derived.Test.YtlejbnmeeonblaaDoorY03
import Derived.Test.YtlejbnmeeonblaaDoorY01
import Derived.Maps.AppendAt
namespace Go.Proofs.YtlejbnmeeonblaaDoor
set_option linter.unusedSimpArgs false
set_option linter.unusedVariables false
set_option maxRecDepth 100000
open Go.RowKit
theorem whl_lenT : ∀ (t : Rx) (x : List UInt8), t.whl = some x → x.length ≤ t.flat.length
  | .leaf n, x, h => by
    simp only [Rx.whl] at h
    split at h
    · cases hc : n.c.only with
      | none => rw [hc] at h; cases h
      | some c => rw [hc] at h; simp at h; subst h; simp [Rx.flat]
    · split at h
      · simp at h; subst h; simp
      · cases h
  | .one n a, x, h => by simp [Rx.whl] at h
  | .two n a b, x, h => by
    simp only [Rx.whl] at h
    split at h
    · cases ha : a.whl with
      | none => rw [ha] at h; cases h
      | some p =>
        cases hb : b.whl with
        | none => rw [ha, hb] at h; cases h
        | some q =>
          rw [ha, hb] at h
          simp at h
          subst h
          have := whl_lenT a p ha
          have := whl_lenT b q hb
          simp [Rx.flat]
          omega
    · cases h
theorem ned_lenT : ∀ (t : Rx), t.ned.length ≤ t.flat.length
  | .leaf n => by
    simp only [Rx.ned]
    cases h : (Rx.leaf n).whl with
    | none => simp
    | some x => exact whl_lenT _ x h
  | .one n a => by
    simp only [Rx.ned]
    split
    · have := ned_lenT a; simp [Rx.flat]; omega
    · simp
  | .two n a b => by
    simp only [Rx.ned]
    split
    · rename_i x h
      exact whl_lenT _ x h
    · split
      · have := ned_lenT a
        have := ned_lenT b
        unfold longer
        split <;> (simp [Rx.flat]; omega)
      · simp
/-- A piece of a text has what it needs. -/
theorem need_there (s : ByteArray) (t : Rx) (ht : t.Ok) (ho : ∀ n ∈ t.flat, 1 ≤ n.op ∧ n.op ≤ 9) (i j : Nat) (hf : Fit s.data.toList t i j) (T nd : ByteArray) (hT : s.extract i j = T) (hn : nd.data.toList = t.ned) : ∃ m, m + nd.size ≤ T.size ∧ T.extract m (m + nd.size) = nd := by
  obtain ⟨p, q, hpq⟩ := ned_fit s.data.toList t ht ho i j hf
  have hTl : T.data.toList = p ++ t.ned ++ q := by rw [← hT, cut_extract, hpq]
  have hnl : nd.size = t.ned.length := by rw [← hn]; simp
  have hTs : T.size = p.length + t.ned.length + q.length := by
    have := congrArg List.length hTl
    simpa [Nat.add_assoc] using this
  refine ⟨p.length, by omega, ba_ext ?_⟩
  rw [cut_extract, hTl, hn]
  unfold cut
  rw [hnl, List.append_assoc, List.drop_append_of_le_length (Nat.le_refl _), List.drop_length, List.nil_append, Nat.add_sub_cancel_left, List.take_append_of_le_length (Nat.le_refl _), List.take_length]
/-- A piece that is fitted is the whole. -/
theorem whole_is (s : ByteArray) (t : Rx) (ht : t.Ok) (ho : ∀ n ∈ t.flat, 1 ≤ n.op ∧ n.op ≤ 9) (i j : Nat) (hf : Fit s.data.toList t i j) (y : List UInt8) (hy : t.whl = some y) (T wh : ByteArray) (hT : s.extract i j = T) (hw : wh.data.toList = y) : T = wh := by
  obtain ⟨_, _, h⟩ := (whl_fit s.data.toList t ht ho y hy i j).1 hf
  exact ba_ext (by rw [← hT, cut_extract, h, hw])
/-- It stands just if there is one end. -/
theorem whole_one (s : ByteArray) (t : Rx) (ht : t.Ok) (ho : ∀ n ∈ t.flat, 1 ≤ n.op ∧ n.op ≤ 9) (i : Nat) (l : List Nat) (hl : EndsR s.data.toList t i l) (y : List UInt8) (hy : t.whl = some y) (wh : ByteArray) (hw : wh.data.toList = y) : StA s i wh ↔ l.length = 1 := by
  have hws : wh.size = y.length := by rw [← hw]; simp
  have hss : s.data.toList.length = s.size := by simp
  have hfit : ∀ j, Fit s.data.toList t i j ↔ (j = i + y.length ∧ StA s i wh) := fun j => by
    rw [whl_fit s.data.toList t ht ho y hy i j]
    unfold StA
    constructor
    · rintro ⟨h1, h2, h3⟩
      subst h1
      exact ⟨rfl, by omega, ba_ext (by rw [cut_extract, hws, h3, hw])⟩
    · rintro ⟨h1, h2, h3⟩
      subst h1
      refine ⟨rfl, by omega, ?_⟩
      have : (s.extract i (i + wh.size)).data.toList = wh.data.toList := by rw [h3]
      rw [cut_extract, hws, hw] at this
      exact this
  constructor
  · intro h
    have : l = [i + y.length] := rise_eq l _ hl.1 (by simp) (fun j => by rw [hl.2, hfit, List.mem_singleton]; exact ⟨fun h' => h'.1, fun h' => ⟨h', h⟩⟩)
    rw [this]
    rfl
  · intro h
    obtain ⟨j, rfl⟩ := List.length_eq_one_iff.1 h
    exact ((hfit j).1 ((hl.2 j).1 (by simp))).2
/-- The law's own pattern: an a, and as many b as one likes. -/
abbrev tAb : Rx := .two ⟨3, z4⟩ (.leaf ⟨1, kA⟩) (.one ⟨5, z4⟩ (.leaf ⟨1, kB⟩))
theorem kA_only : kA.only = some 97 := by decide +kernel
theorem tAb_ned : tAb.ned = [97] := by
  simp [Rx.ned, Rx.whl, kA_only, longer]
theorem kB_wfF : kB.wf := ⟨by decide, by decide, by decide, by decide⟩
theorem tAb_ok : tAb.Ok := ⟨rfl, rfl, rfl, rfl⟩
theorem tAb_wf : ∀ n ∈ tAb.flat, n.wf := by
  intro n hn
  simp [Rx.flat] at hn
  rcases hn with rfl | rfl | rfl | rfl
  · exact ⟨by decide, z4_wfF⟩
  · exact ⟨by decide, kA_wfF⟩
  · exact ⟨by decide, z4_wfF⟩
  · exact ⟨by decide, kB_wfF⟩
theorem tAb_fault : faultL tAb.flat = 0 := by
  rw [faultL_zero]
  refine ⟨by simp [Rx.flat], ?_, ?_⟩
  · intro n hn
    simp [Rx.flat] at hn
    rcases hn with rfl | rfl | rfl | rfl
    · exact ⟨by simp, Or.inr (show z4.eqb z4 = true by decide)⟩
    · exact ⟨by simp, Or.inl rfl⟩
    · exact ⟨by simp, Or.inr (show z4.eqb z4 = true by decide)⟩
    · exact ⟨by simp, Or.inl rfl⟩
  · have := endF_flat tAb tAb_ok [] [] (tAb.flat.length + 1) (by omega)
    simpa [endE] using this
end Go.Proofs.YtlejbnmeeonblaaDoor
namespace Go.Proofs.YtlejbnmeeonblaaDoor
set_option linter.unusedSimpArgs false
set_option linter.unusedVariables false
set_option maxRecDepth 100000
open Go.RowKit
/-- The numbers l lie in block b from off on. -/
def IsAt (w : World) (b off : Nat) (l : List Nat) : Prop := ∀ (i x : Nat), l[i]? = some x → w.cell? ⟨b, off + i, none⟩ = some (.int .i64 (x : Int))
/-- A slice that reads as the numbers l. -/
def IsIn (w : World) (v : Value) (l : List Nat) : Prop := ∃ a cap, v = .slice a l.length cap ∧ l.length ≤ maxLen ∧ (l = [] ∨ ∃ b off, a = some ⟨b, off, none⟩ ∧ b < w.heap.size ∧ IsAt w b off l)
theorem IsAt.below {w w' : World} {B b off : Nat} {l : List Nat} (h : IsAt w b off l) (hb : Below B w w') (hlt : b < B) : IsAt w' b off l :=
  fun i n hn => (hb.cell (p := ⟨b, _, none⟩) hlt).trans (h i n hn)
theorem IsIn.below {w w' : World} {v : Value} {l : List Nat} (h : IsIn w v l) (hb : Below w.heap.size w w') : IsIn w' v l := by
  obtain ⟨a, cap, rfl, hm, h | ⟨b, off, rfl, hlt, hn⟩⟩ := h
  · exact ⟨a, cap, rfl, hm, Or.inl h⟩
  · exact ⟨_, cap, rfl, hm, Or.inr ⟨b, off, rfl, Nat.lt_of_lt_of_le hlt hb.size, hn.below hb hlt⟩⟩
theorem isIn_nil (w : World) : IsIn w (.slice none 0 0) [] := ⟨none, 0, rfl, by simp, Or.inl rfl⟩
theorem isIn_form {w : World} {v : Value} {l : List Nat} (h : IsIn w v l) : ∃ a cap, v = .slice a l.length cap ∧ l.length ≤ maxLen := by
  obtain ⟨a, cap, h1, h2, _⟩ := h
  exact ⟨a, cap, h1, h2⟩
theorem drop_at {α : Type} (x : List α) (i : Nat) (n : α) (hn : x[i]? = some n) : x.drop i = n :: x.drop (i + 1) := by
  have hi : i < x.length := by
    rcases Nat.lt_or_ge i x.length with h | h
    · exact h
    · rw [List.getElem?_eq_none h] at hn; cases hn
  rw [List.drop_eq_getElem_cons hi]
  rw [List.getElem?_eq_getElem hi] at hn
  rw [Option.some.inj hn]
/-- New memory of numbers. -/
theorem is_new (w : World) (l : List Nat) (o : Obj) (ho : o = .cells (l.map fun x : Nat => Value.int .i64 (x : Int)).toArray 3 (0, 0)) (hm : l.length ≤ maxLen) : IsIn (w.alloc o) (.slice (some ⟨w.heap.size, 0, none⟩) l.length l.length) l := by
  refine ⟨_, _, rfl, hm, Or.inr ⟨w.heap.size, 0, rfl, by simp, fun i x hx => ?_⟩⟩
  subst ho
  rw [World.cell?_alloc_at (w := w) _ _ w.heap.size (0 + i) rfl]
  simp [hx]
end Go.Proofs.YtlejbnmeeonblaaDoor
namespace Go.Proofs.YtlejbnmeeonblaaDoor
set_option linter.unusedSimpArgs false
set_option linter.unusedVariables false
set_option maxRecDepth 100000
open Go.RowKit
/-- What is wrong with a pattern or a text of n bytes. -/
def meanF (ns : List Nd) (n : Nat) : Int := if faultL ns = 0 then (if 400 < n then 3 else 0) else faultL ns
/-- What is wrong with them or a place. -/
def meanE (ns : List Nd) (n : Nat) (i : Int) : Int := if meanF ns n = 0 then (if 0 ≤ i ∧ i ≤ n then 0 else 1) else meanF ns n
theorem meanF_zero (ns : List Nd) (n : Nat) : meanF ns n = 0 ↔ faultL ns = 0 ∧ n ≤ 400 := by
  unfold meanF
  by_cases h : faultL ns = 0
  · rw [if_pos h]
    by_cases h4 : 400 < n
    · rw [if_pos h4]; simp; omega
    · rw [if_neg h4]; simp [h]; omega
  · rw [if_neg h]; simp [h]
theorem meanE_zero (ns : List Nd) (n : Nat) (i : Int) : meanE ns n i = 0 ↔ faultL ns = 0 ∧ n ≤ 400 ∧ 0 ≤ i ∧ i ≤ n := by
  unfold meanE
  by_cases h : meanF ns n = 0
  · rw [if_pos h]
    obtain ⟨h1, h2⟩ := (meanF_zero ns n).1 h
    by_cases h3 : 0 ≤ i ∧ i ≤ n
    · rw [if_pos h3]; simp [h1, h2, h3]
    · rw [if_neg h3]; simp [h1, h2]; omega
  · rw [if_neg h]
    constructor
    · intro h'; exact absurd h' h
    · rintro ⟨h1, h2, _⟩; exact absurd ((meanF_zero ns n).2 ⟨h1, h2⟩) h
/-- What the document asks of Ends. -/
structure MeanN : Prop where
  bad : ∀ ns v (s : ByteArray) (i : Int) w, NsIn w v ns → (∀ n ∈ ns, n.wf) → s.size ≤ maxLen → ¬ meanE ns s.size i = 0 → Calls Tryd.prog 12 #[v, .string s, .int .i64 i] w fun e w' => ∃ u, e = .returned (.tuple #[u, errV (meanE ns s.size i)]) ∧ Below w.heap.size w w' ∧ IsIn w' u []
  ends : ∀ (t : Rx) v (s : ByteArray) (i : Nat) l w, Tab w → t.Ok → NsIn w v t.flat → (∀ n ∈ t.flat, n.wf) → meanE t.flat s.size i = 0 → EndsR s.data.toList t i l → Calls Tryd.prog 12 #[v, .string s, .int .i64 (i : Int)] w fun e w' => ∃ u, e = .returned (.tuple #[u, .nilIface]) ∧ Below w.heap.size w w' ∧ IsIn w' u l
end Go.Proofs.YtlejbnmeeonblaaDoor
namespace Go.Proofs.YtlejbnmeeonblaaDoor
set_option linter.unusedSimpArgs false
set_option linter.unusedVariables false
set_option maxRecDepth 100000
open Go.RowKit
theorem fact_ab {X : World → Prop} (hXb : ∀ w w', X w → Below w.heap.size w w' → X w') (NN : LitN X) (w : World) (hX : X w) :
    Calls Tryd.prog 10 #[.slice (some ⟨w.heap.size, 0, none⟩) 4 4] (w.alloc (.cells #[.int .i64 3, .int .u64 0, .int .u64 0, .int .u64 0, .int .u64 0, .int .i64 1, .int .u64 kA.a, .int .u64 kA.b, .int .u64 kA.c, .int .u64 kA.d, .int .i64 5, .int .u64 0, .int .u64 0, .int .u64 0, .int .u64 0, .int .i64 1, .int .u64 kB.a, .int .u64 kB.b, .int .u64 kB.c, .int .u64 kB.d] 40)) fun e w' => e = .returned (.tuple #[.string ⟨#[97]⟩, .nilIface]) ∧ Below w.heap.size w w' := by
  have hb : Below w.heap.size w (w.alloc (.cells #[.int .i64 3, .int .u64 0, .int .u64 0, .int .u64 0, .int .u64 0, .int .i64 1, .int .u64 kA.a, .int .u64 kA.b, .int .u64 kA.c, .int .u64 kA.d, .int .i64 5, .int .u64 0, .int .u64 0, .int .u64 0, .int .u64 0, .int .i64 1, .int .u64 kB.a, .int .u64 kB.b, .int .u64 kB.c, .int .u64 kB.d] 40)) := (Below.refl _ _).alloc (Nat.le_refl _) _
  refine (NN.need tAb _ _ (hXb w _ hX hb) tAb_ok (ns_newF w tAb.flat (by simp [Rx.flat, maxLen])) tAb_wf tAb_fault).mono ?_
  rintro e w' ⟨rfl, h⟩
  exact ⟨by rw [tAb_ned], hb.trans (h.mono hb.size)⟩
set_option maxHeartbeats 8000000 in
theorem litStands_bad {X : World → Prop} (hXb : ∀ w w', X w → Below w.heap.size w w' → X w') (NN : LitN X) (WW : LitW X) (N : MeanN) (ns : List Nd) (v : Value) (s : ByteArray) (hs : s.size ≤ maxLen) (i : Int) (w : World) (hX : X w) (hN : NsIn w v ns) (wN : ∀ n ∈ ns, n.wf) (hf : ¬ meanE ns s.size i = 0) :
    Calls Tryd.prog 4 #[v, .string s, .int .i64 i] w fun e w' => e = .returned (.bool true) ∧ Below w.heap.size w w' := by
  have HOA : Hid (∀ w', Below w.heap.size w w' → _) := fun w' _ => ofA w'
  have HOB : Hid (∀ w', Below w.heap.size w w' → _) := fun w' _ => ofB w'
  have HF1 : Hid (∀ w', Below w.heap.size w w' → _) := fun w' hb => fact_ab hXb NN w' (hXb w w' hX hb)
  have HEN : Hid (∀ w', Below w.heap.size w w' → _) := fun w' hb => N.bad ns v s i w' (hN.below hb) wN hs hf
  rw [show errV (meanE ns s.size i) = .iface 23 (.int .i64 (meanE ns s.size i)) by unfold errV; rw [if_neg hf]] at HEN
  have B := hid (Below.refl w.heap.size w)
  obtain ⟨va, vc, rfl, vm⟩ := nsIn_form hN
  clear hN NN WW N hX hXb
  go_enter Tryd.func4, Tryd.ntmps4
  go_wp2_with fail
  refine Calls.mono (HOA.out _ B.out) ?_
  rintro e w1 ⟨rfl, hb⟩
  replace B := hid (B.out.trans (hb.mono B.out.size))
  clear hb
  go_wp2_with fail
  refine Calls.mono (HOB.out _ B.out) ?_
  rintro e w2 ⟨rfl, hb⟩
  replace B := hid (B.out.trans (hb.mono B.out.size))
  clear hb
  go_wp2_with fail
  refine Calls.mono (HF1.out _ B.out) ?_
  rintro e w3 ⟨rfl, hb⟩
  replace B := hid (B.out.trans (hb.mono B.out.size))
  clear hb
  go_wp2_with fail
  refine Calls.mono (HEN.out _ B.out) ?_
  rintro e w4 ⟨u, rfl, hb, hu⟩
  replace B := hid (B.out.trans (hb.mono B.out.size))
  clear hb
  obtain ⟨ua, uc, rfl, um⟩ := isIn_form hu
  clear hu
  go_wp2
  go_ret
  exact ⟨rfl, B.out⟩
/-- What there is of the word ahead of a place. -/
def Thr (T nd : ByteArray) (k : Nat) : Prop := ∃ m, m < k ∧ T.extract m (m + nd.size) = nd
theorem Thr.yes {T nd : ByteArray} {k : Nat} (h : T.extract k (k + nd.size) = nd) : Thr T nd (k + 1) := ⟨k, by omega, h⟩
theorem Thr.more {T nd : ByteArray} {k : Nat} (h : Thr T nd k) : Thr T nd (k + 1) := by
  obtain ⟨m, h1, h2⟩ := h
  exact ⟨m, by omega, h2⟩
theorem Thr.no {T nd : ByteArray} {k : Nat} (h : ¬ Thr T nd k) (h2 : ¬ T.extract k (k + nd.size) = nd) : ¬ Thr T nd (k + 1) := by
  rintro ⟨m, h3, h4⟩
  rcases Nat.lt_or_ge m k with h5 | h5
  · exact h ⟨m, h5, h4⟩
  · obtain rfl : m = k := by omega
    exact h2 h4
set_option maxHeartbeats 16000000 in
theorem litStands_none {X : World → Prop} (hXb : ∀ w w', X w → Below w.heap.size w w' → X w') (NN : LitN X) (WW : LitW X) (N : MeanN) (t : Rx) (ht : t.Ok) (v : Value) (s : ByteArray) (ii : Nat) (w : World) (hX : X w) (hT : Tab w) (hN : NsIn w v t.flat) (wN : ∀ n ∈ t.flat, n.wf) (hf : faultL t.flat = 0) (h4 : s.size ≤ 400) (hi : ii ≤ s.size) (hy : t.whl = none) :
    Calls Tryd.prog 4 #[v, .string s, .int .i64 (ii : Int)] w fun e w' => e = .returned (.bool true) ∧ Below w.heap.size w w' := by
  have HOA : Hid (∀ w', Below w.heap.size w w' → _) := fun w' _ => ofA w'
  have HOB : Hid (∀ w', Below w.heap.size w w' → _) := fun w' _ => ofB w'
  have HF1 : Hid (∀ w', Below w.heap.size w w' → _) := fun w' hb => fact_ab hXb NN w' (hXb w w' hX hb)
  have ho : ∀ n ∈ t.flat, 1 ≤ n.op ∧ n.op ≤ 9 := fun n hn => (((faultL_zero t.flat).1 hf).2.1 n hn).1
  have h60 := ((faultL_zero t.flat).1 hf).1
  obtain ⟨l, hl⟩ := ends_total s.data.toList t ii
  have HEN : Hid (∀ w', Below w.heap.size w w' → _) := fun w' hb => N.ends t v s ii l w' (hT.below hb (Nat.le_refl _)) ht (hN.below hb) wN ((meanE_zero _ _ _).2 ⟨hf, h4, by omega, by omega⟩) hl
  have HNE : Hid (∀ w', Below w.heap.size w w' → _) := fun w' hb => NN.need t v w' (hXb w w' hX hb) ht (hN.below hb) wN hf
  have HWH : Hid (∀ w', Below w.heap.size w w' → _) := fun w' hb => WW.whole t v w' (hXb w w' hX hb) ht (hN.below hb) wN hf
  rw [hy] at HWH
  simp only [Option.getD_none, Option.getD_some, Option.isSome_none, Option.isSome_some] at HWH
  obtain ⟨nd, hnd⟩ : ∃ nd : ByteArray, nd = ⟨t.ned.toArray⟩ := ⟨_, rfl⟩
  rw [← hnd] at HNE
  have hnl : nd.data.toList = t.ned := by rw [hnd]
  have hns : nd.size ≤ 60 := by
    have := ned_lenT t
    have e : nd.size = t.ned.length := by rw [← hnl]; simp
    omega
  have HTH : Hid (∀ x T, x ∈ l → s.extract ii x = T → ∃ m, m + nd.size ≤ T.size ∧ T.extract m (m + nd.size) = nd) := fun x T hx hT => need_there s t ht ho ii x ((hl.2 x).1 hx) T nd hT hnl
  have HLE : Hid (∀ x ∈ l, ii ≤ x ∧ x ≤ s.size) := fun x hx => by
    have := hl.le x hx
    have e : s.data.toList.length = s.size := by simp
    omega
  have hll : l.length ≤ 401 := by
    have := hl.len
    have e : s.data.toList.length = s.size := by simp
    omega
  have i0 : (0 : Int) ≤ (ii : Int) := by omega
  have i1 : (ii : Int) ≤ (s.size : Int) := by omega
  have B := hid (Below.refl w.heap.size w)
  obtain ⟨va, vc, rfl, vm⟩ := nsIn_form hN
  clear hN NN WW N hX hXb hT hl ho hnd hnl hy hf
  go_enter Tryd.func4, Tryd.ntmps4
  go_wp2_with fail
  refine Calls.mono (HOA.out _ B.out) ?_
  rintro e w1 ⟨rfl, hb⟩
  replace B := hid (B.out.trans (hb.mono B.out.size))
  clear hb
  go_wp2_with fail
  refine Calls.mono (HOB.out _ B.out) ?_
  rintro e w2 ⟨rfl, hb⟩
  replace B := hid (B.out.trans (hb.mono B.out.size))
  clear hb
  go_wp2_with fail
  refine Calls.mono (HF1.out _ B.out) ?_
  rintro e w3 ⟨rfl, hb⟩
  replace B := hid (B.out.trans (hb.mono B.out.size))
  clear hb
  go_wp2_with fail
  refine Calls.mono (HEN.out _ B.out) ?_
  rintro e w4 ⟨u, rfl, hb, hu⟩
  replace B := hid (B.out.trans (hb.mono B.out.size))
  clear hb
  have HU := hid hu
  obtain ⟨ua, uc, rfl, um⟩ := isIn_form hu
  clear hu
  have BU := hid (Below.refl w4.heap.size w4)
  go_wp2_with fail
  refine Calls.mono (HNE.out _ B.out) ?_
  rintro e w5 ⟨rfl, hb⟩
  replace BU := hid (BU.out.trans (hb.mono BU.out.size))
  replace B := hid (B.out.trans (hb.mono B.out.size))
  clear hb
  go_wp2_with fail
  refine Calls.mono (HWH.out _ B.out) ?_
  rintro e w6 ⟨rfl, hb⟩
  replace BU := hid (BU.out.trans (hb.mono BU.out.size))
  replace B := hid (B.out.trans (hb.mono B.out.size))
  clear hb
  have HU6 := hid (HU.out.below BU.out)
  clear HU BU
  go_wp2_with fail
  go_loopw [17] (fun v' wr => ∃ j : Nat, j ≤ l.length ∧ v' = .int .i64 (j : Int) ∧ wr = w6) (fun v' _ => l.length - (intOf v').toNat)
  case atStart => exact ⟨0, by omega, rfl, rfl⟩
  case round =>
    obtain ⟨j, hj, rfl, rfl⟩ := hrel
    by_cases hjl : j < l.length
    · obtain ⟨x, hx⟩ : ∃ x, l[j]? = some x := ⟨l[j], List.getElem?_eq_getElem hjl⟩
      have hxl : x ∈ l := List.mem_of_getElem? hx
      obtain ⟨hx1, hx2⟩ := HLE.out x hxl
      obtain ⟨T, hT⟩ : ∃ T, s.extract ii x = T := ⟨_, rfl⟩
      have hTs : T.size = x - ii := by
        have h1 := cut_extract s ii x
        rw [hT] at h1
        have h2 := congrArg List.length h1
        rw [cut_len hx1 (by simpa using hx2)] at h2
        simpa using h2
      have HM := hid (HTH.out x T hxl hT)
      obtain ⟨gb, go, hua, hgc⟩ : ∃ b o, ua = some ⟨b, o, none⟩ ∧ wr.cell? ⟨b, o + j, none⟩ = some (.int .i64 (x : Int)) := by
        obtain ⟨a', c', e1, _, e2 | ⟨b', o', e3, e4, e5⟩⟩ := HU6.out
        · rw [e2] at hjl; simp at hjl
        · injection e1 with e1 _ _
          exact ⟨b', o', by rw [e1, e3], e5 j x hx⟩
      subst hua
      have g1 : (j : Int) < (l.length : Int) := by omega
      have g2 : ¬ (x : Int) < (ii : Int) := by omega
      have g3 : ¬ (s.size : Int) < (x : Int) := by omega
      have g4 : (x : Int) ≤ (s.size : Int) := by omega
      have g5 : (ii : Int) ≤ (x : Int) := by omega
      clear hx hxl
      go_wp2_with fail
      clear hT
      go_loopw [19, 20] (fun vy vk wz => ∃ (k : Nat) (yy : Bool), k ≤ T.size + 1 ∧ vk = .int .i64 (k : Int) ∧ vy = .bool yy ∧ Hid (yy = true ↔ Thr T nd k) ∧ wz = wr) (fun _ vk _ => T.size + 1 - (intOf vk).toNat)
      case atStart => exact ⟨0, false, by omega, rfl, rfl, (by constructor; (intro h; cases h); (rintro ⟨m, h, _⟩; omega)), rfl⟩
      case round =>
        obtain ⟨k, yy, hk, rfl, rfl, HY, rfl⟩ := hrel
        have k0 : (0 : Int) ≤ (k : Int) := by omega
        by_cases hkn : k + nd.size ≤ T.size
        · have g6 : (k : Int) + (nd.size : Int) ≤ (T.size : Int) := by omega
          have g7 : (k : Int) ≤ (k : Int) + (nd.size : Int) := by omega
          have g8 : ((k : Int) + (nd.size : Int)).toNat = k + nd.size := by omega
          cases yy with
          | true =>
            have HY2 : Hid (true = true ↔ Thr T nd (k + 1)) := ⟨fun _ => (HY.out.1 rfl).more, fun _ => rfl⟩
            go_wp2
            exact ⟨⟨k + 1, true, by omega, by go_num, rfl, HY2, by first | rfl | trivial⟩, by simp [intOf]; omega⟩
          | false =>
            obtain ⟨Tk, hTk⟩ : ∃ Tk, T.extract k (k + nd.size) = Tk := ⟨_, rfl⟩
            have HNT : Hid (¬ Thr T nd k) := fun h => by have := HY.out.2 h; cases this
            obtain ⟨bb, hbb⟩ : ∃ bb, (Tk.toList == nd.toList) = bb := ⟨_, rfl⟩
            have HY2 : Hid (bb = true ↔ Thr T nd (k + 1)) := by
              show _ ↔ _
              rw [← hbb, ba_beq, ← hTk]
              exact ⟨fun h => Thr.yes h, fun h => Classical.byContradiction fun h' => Thr.no HNT.out h' h⟩
            go_wp2
            exact ⟨⟨k + 1, bb, by omega, by go_num, by first | rfl | (rw [hbb]), HY2, by first | rfl | trivial⟩, by simp [intOf]; omega⟩
        · have g6 : ¬ (k : Int) + (nd.size : Int) ≤ (T.size : Int) := by omega
          obtain rfl : yy = true := HY.out.2 (by
            obtain ⟨m, h1, h2⟩ := HM.out
            exact ⟨m, by omega, h2⟩)
          clear HY
          go_wp2
          exact ⟨⟨j + 1, by omega, by first | omega | exact ⟨by go_num, rfl⟩⟩, by simp [intOf]; omega⟩
    · have g1 : ¬ (j : Int) < (l.length : Int) := by omega
      go_wp2
      go_ret
      exact ⟨rfl, B.out⟩
set_option maxHeartbeats 16000000 in
theorem litStands_some {X : World → Prop} (hXb : ∀ w w', X w → Below w.heap.size w w' → X w') (NN : LitN X) (WW : LitW X) (N : MeanN) (t : Rx) (ht : t.Ok) (v : Value) (s : ByteArray) (ii : Nat) (w : World) (hX : X w) (hT : Tab w) (hN : NsIn w v t.flat) (wN : ∀ n ∈ t.flat, n.wf) (hf : faultL t.flat = 0) (h4 : s.size ≤ 400) (hi : ii ≤ s.size) (y : List UInt8) (hy : t.whl = some y) :
    Calls Tryd.prog 4 #[v, .string s, .int .i64 (ii : Int)] w fun e w' => e = .returned (.bool true) ∧ Below w.heap.size w w' := by
  have HOA : Hid (∀ w', Below w.heap.size w w' → _) := fun w' _ => ofA w'
  have HOB : Hid (∀ w', Below w.heap.size w w' → _) := fun w' _ => ofB w'
  have HF1 : Hid (∀ w', Below w.heap.size w w' → _) := fun w' hb => fact_ab hXb NN w' (hXb w w' hX hb)
  have ho : ∀ n ∈ t.flat, 1 ≤ n.op ∧ n.op ≤ 9 := fun n hn => (((faultL_zero t.flat).1 hf).2.1 n hn).1
  have h60 := ((faultL_zero t.flat).1 hf).1
  obtain ⟨l, hl⟩ := ends_total s.data.toList t ii
  have HEN : Hid (∀ w', Below w.heap.size w w' → _) := fun w' hb => N.ends t v s ii l w' (hT.below hb (Nat.le_refl _)) ht (hN.below hb) wN ((meanE_zero _ _ _).2 ⟨hf, h4, by omega, by omega⟩) hl
  have HNE : Hid (∀ w', Below w.heap.size w w' → _) := fun w' hb => NN.need t v w' (hXb w w' hX hb) ht (hN.below hb) wN hf
  have HWH : Hid (∀ w', Below w.heap.size w w' → _) := fun w' hb => WW.whole t v w' (hXb w w' hX hb) ht (hN.below hb) wN hf
  rw [hy] at HWH
  simp only [Option.getD_none, Option.getD_some, Option.isSome_none, Option.isSome_some] at HWH
  obtain ⟨nd, hnd⟩ : ∃ nd : ByteArray, nd = ⟨t.ned.toArray⟩ := ⟨_, rfl⟩
  rw [← hnd] at HNE
  have hnl : nd.data.toList = t.ned := by rw [hnd]
  have hns : nd.size ≤ 60 := by
    have := ned_lenT t
    have e : nd.size = t.ned.length := by rw [← hnl]; simp
    omega
  obtain ⟨wh, hwh⟩ : ∃ wh : ByteArray, wh = ⟨y.toArray⟩ := ⟨_, rfl⟩
  rw [← hwh] at HWH
  have hwl : wh.data.toList = y := by rw [hwh]
  have hws : wh.size ≤ 60 := by
    have := whl_lenT t y hy
    have e : wh.size = y.length := by rw [← hwl]; simp
    omega
  have HST : Hid (∀ w', Calls Tryd.prog 13 #[.string s, .int .i64 (ii : Int), .string wh] w' (StP s ii wh w')) := fun w' => stands_any s wh (by omega) (by omega) ii hi w'
  have HONE : Hid (StA s ii wh ↔ l.length = 1) := whole_one s t ht ho ii l hl y hy wh hwl
  have HIS : Hid (∀ x T, x ∈ l → s.extract ii x = T → T = wh) := fun x T hx hT => whole_is s t ht ho ii x ((hl.2 x).1 hx) y hy T wh hT hwl
  clear hwh hwl
  have HTH : Hid (∀ x T, x ∈ l → s.extract ii x = T → ∃ m, m + nd.size ≤ T.size ∧ T.extract m (m + nd.size) = nd) := fun x T hx hT => need_there s t ht ho ii x ((hl.2 x).1 hx) T nd hT hnl
  have HLE : Hid (∀ x ∈ l, ii ≤ x ∧ x ≤ s.size) := fun x hx => by
    have := hl.le x hx
    have e : s.data.toList.length = s.size := by simp
    omega
  have hll : l.length ≤ 401 := by
    have := hl.len
    have e : s.data.toList.length = s.size := by simp
    omega
  have i0 : (0 : Int) ≤ (ii : Int) := by omega
  have i1 : (ii : Int) ≤ (s.size : Int) := by omega
  have B := hid (Below.refl w.heap.size w)
  obtain ⟨va, vc, rfl, vm⟩ := nsIn_form hN
  clear hN NN WW N hX hXb hT hl ho hnd hnl hy hf
  go_enter Tryd.func4, Tryd.ntmps4
  go_wp2_with fail
  refine Calls.mono (HOA.out _ B.out) ?_
  rintro e w1 ⟨rfl, hb⟩
  replace B := hid (B.out.trans (hb.mono B.out.size))
  clear hb
  go_wp2_with fail
  refine Calls.mono (HOB.out _ B.out) ?_
  rintro e w2 ⟨rfl, hb⟩
  replace B := hid (B.out.trans (hb.mono B.out.size))
  clear hb
  go_wp2_with fail
  refine Calls.mono (HF1.out _ B.out) ?_
  rintro e w3 ⟨rfl, hb⟩
  replace B := hid (B.out.trans (hb.mono B.out.size))
  clear hb
  go_wp2_with fail
  refine Calls.mono (HEN.out _ B.out) ?_
  rintro e w4 ⟨u, rfl, hb, hu⟩
  replace B := hid (B.out.trans (hb.mono B.out.size))
  clear hb
  have HU := hid hu
  obtain ⟨ua, uc, rfl, um⟩ := isIn_form hu
  clear hu
  have BU := hid (Below.refl w4.heap.size w4)
  go_wp2_with fail
  refine Calls.mono (HNE.out _ B.out) ?_
  rintro e w5 ⟨rfl, hb⟩
  replace BU := hid (BU.out.trans (hb.mono BU.out.size))
  replace B := hid (B.out.trans (hb.mono B.out.size))
  clear hb
  go_wp2_with fail
  refine Calls.mono (HWH.out _ B.out) ?_
  rintro e w6 ⟨rfl, hb⟩
  replace BU := hid (BU.out.trans (hb.mono BU.out.size))
  replace B := hid (B.out.trans (hb.mono B.out.size))
  clear hb
  have HU6 := hid (HU.out.below BU.out)
  clear HU BU
  go_wp2_with fail
  go_loopw [17] (fun v' wr => ∃ j : Nat, j ≤ l.length ∧ v' = .int .i64 (j : Int) ∧ wr = w6) (fun v' _ => l.length - (intOf v').toNat)
  case atStart => exact ⟨0, by omega, rfl, rfl⟩
  case round =>
    obtain ⟨j, hj, rfl, rfl⟩ := hrel
    by_cases hjl : j < l.length
    · obtain ⟨x, hx⟩ : ∃ x, l[j]? = some x := ⟨l[j], List.getElem?_eq_getElem hjl⟩
      have hxl : x ∈ l := List.mem_of_getElem? hx
      obtain ⟨hx1, hx2⟩ := HLE.out x hxl
      obtain ⟨T, hT⟩ : ∃ T, s.extract ii x = T := ⟨_, rfl⟩
      have hTs : T.size = x - ii := by
        have h1 := cut_extract s ii x
        rw [hT] at h1
        have h2 := congrArg List.length h1
        rw [cut_len hx1 (by simpa using hx2)] at h2
        simpa using h2
      have HM := hid (HTH.out x T hxl hT)
      have hWT : T = wh := HIS.out x T hxl hT
      subst hWT
      obtain ⟨gb, go, hua, hgc⟩ : ∃ b o, ua = some ⟨b, o, none⟩ ∧ wr.cell? ⟨b, o + j, none⟩ = some (.int .i64 (x : Int)) := by
        obtain ⟨a', c', e1, _, e2 | ⟨b', o', e3, e4, e5⟩⟩ := HU6.out
        · rw [e2] at hjl; simp at hjl
        · injection e1 with e1 _ _
          exact ⟨b', o', by rw [e1, e3], e5 j x hx⟩
      subst hua
      have g1 : (j : Int) < (l.length : Int) := by omega
      have g2 : ¬ (x : Int) < (ii : Int) := by omega
      have g3 : ¬ (s.size : Int) < (x : Int) := by omega
      have g4 : (x : Int) ≤ (s.size : Int) := by omega
      have g5 : (ii : Int) ≤ (x : Int) := by omega
      clear hx hxl
      go_wp2_with fail
      clear hT
      go_loopw [19, 20] (fun vy vk wz => ∃ (k : Nat) (yy : Bool), k ≤ T.size + 1 ∧ vk = .int .i64 (k : Int) ∧ vy = .bool yy ∧ Hid (yy = true ↔ Thr T nd k) ∧ wz = wr) (fun _ vk _ => T.size + 1 - (intOf vk).toNat)
      case atStart => exact ⟨0, false, by omega, rfl, rfl, (by constructor; (intro h; cases h); (rintro ⟨m, h, _⟩; omega)), rfl⟩
      case round =>
        obtain ⟨k, yy, hk, rfl, rfl, HY, rfl⟩ := hrel
        have k0 : (0 : Int) ≤ (k : Int) := by omega
        by_cases hkn : k + nd.size ≤ T.size
        · have g6 : (k : Int) + (nd.size : Int) ≤ (T.size : Int) := by omega
          have g7 : (k : Int) ≤ (k : Int) + (nd.size : Int) := by omega
          have g8 : ((k : Int) + (nd.size : Int)).toNat = k + nd.size := by omega
          cases yy with
          | true =>
            have HY2 : Hid (true = true ↔ Thr T nd (k + 1)) := ⟨fun _ => (HY.out.1 rfl).more, fun _ => rfl⟩
            go_wp2
            exact ⟨⟨k + 1, true, by omega, by go_num, rfl, HY2, by first | rfl | trivial⟩, by simp [intOf]; omega⟩
          | false =>
            obtain ⟨Tk, hTk⟩ : ∃ Tk, T.extract k (k + nd.size) = Tk := ⟨_, rfl⟩
            have HNT : Hid (¬ Thr T nd k) := fun h => by have := HY.out.2 h; cases this
            obtain ⟨bb, hbb⟩ : ∃ bb, (Tk.toList == nd.toList) = bb := ⟨_, rfl⟩
            have HY2 : Hid (bb = true ↔ Thr T nd (k + 1)) := by
              show _ ↔ _
              rw [← hbb, ba_beq, ← hTk]
              exact ⟨fun h => Thr.yes h, fun h => Classical.byContradiction fun h' => Thr.no HNT.out h' h⟩
            go_wp2
            exact ⟨⟨k + 1, bb, by omega, by go_num, by first | rfl | (rw [hbb]), HY2, by first | rfl | trivial⟩, by simp [intOf]; omega⟩
        · have g6 : ¬ (k : Int) + (nd.size : Int) ≤ (T.size : Int) := by omega
          obtain rfl : yy = true := HY.out.2 (by
            obtain ⟨m, h1, h2⟩ := HM.out
            exact ⟨m, by omega, h2⟩)
          clear HY
          go_wp2
          exact ⟨⟨j + 1, by omega, by first | omega | exact ⟨by go_num, rfl⟩⟩, by simp [intOf]; omega⟩
    · have g1 : ¬ (j : Int) < (l.length : Int) := by omega
      go_wp2_with fail
      refine Calls.mono (HST.out _) ?_
      rintro e w9 ⟨yy, rfl, hyy, rfl⟩
      have hfin : (yy == ((l.length : Int) == 1)) = true := by
        have h1 := hyy.trans HONE.out
        cases yy with
        | true =>
          have h2 := h1.1 rfl
          rw [h2]
          rfl
        | false =>
          have h2 : ¬ l.length = 1 := fun h => by have := h1.2 h; cases this
          have h3 : ((l.length : Int) == 1) = false := by rw [beq_eq_false_iff_ne]; omega
          rw [h3]
          rfl
      have HFIN := hid hfin
      clear hyy hfin
      go_wp2
      go_ret
      exact ⟨by show Ending.returned (Value.bool _) = _; rw [HFIN.out], B.out⟩
theorem litStands_any {X : World → Prop} (hXb : ∀ w w', X w → Below w.heap.size w w' → X w') (NN : LitN X) (WW : LitW X) (N : MeanN) (ns : List Nd) (v : Value) (s : ByteArray) (hs : s.size ≤ maxLen) (i : Int) (w : World) (hX : X w) (hT : Tab w) (hN : NsIn w v ns) (wN : ∀ n ∈ ns, n.wf) :
    Calls Tryd.prog 4 #[v, .string s, .int .i64 i] w fun e w' => e = .returned (.bool true) ∧ Below w.heap.size w w' := by
  by_cases hE' : meanE ns s.size i = 0
  · obtain ⟨hf, h4, hi0, hi1⟩ := (meanE_zero _ _ _).1 hE'
    obtain ⟨t, ht, rfl⟩ := tree_of ns ((faultL_zero ns).1 hf).2.2
    obtain ⟨ii, rfl⟩ : ∃ ii : Nat, i = (ii : Int) := ⟨i.toNat, by omega⟩
    cases hy : t.whl with
    | none => exact litStands_none hXb NN WW N t ht v s ii w hX hT hN wN hf h4 (by omega) hy
    | some y => exact litStands_some hXb NN WW N t ht v s ii w hX hT hN wN hf h4 (by omega) y hy
  · exact litStands_bad hXb NN WW N ns v s hs i w hX hN wN hE'
end Go.Proofs.YtlejbnmeeonblaaDoor
namespace Go.Proofs.YtlejbnmeeonblaaDoor
set_option linter.unusedSimpArgs false
set_option linter.unusedVariables false
open Go.RowKit

/-- Block b holds a set of places. -/
def Hp (w : World) (b : Nat) (p : Nat → Bool) : Prop := w.heap[b]? = some (.cells #[.int .u64 (wd p 0), .int .u64 (wd p 1), .int .u64 (wd p 2), .int .u64 (wd p 3), .int .u64 (wd p 4), .int .u64 (wd p 5), .int .u64 (wd p 6)] 62 (0, 0))
theorem Hp.cell {w : World} {b : Nat} {p : Nat → Bool} (h : Hp w b p) (i : Nat) (hi : i < 7) : w.cell? ⟨b, i, none⟩ = some (.int .u64 (wd p i)) := by
  rw [Lib.cell_of_heap h]
  have := cellsP_get p i hi
  simpa [cellsP] using this
theorem Hp.frozen {w : World} {b : Nat} {p : Nat → Bool} (h : Hp w b p) (i : Nat) : w.frozen? ⟨b, i, none⟩ = false := Lib.frozen_of_heap h i
theorem Hp.all {w : World} {b : Nat} {p : Nat → Bool} (h : Hp w b p) : w.cell? ⟨b, 0, none⟩ = some (.int .u64 (wd p 0)) ∧ w.cell? ⟨b, 1, none⟩ = some (.int .u64 (wd p 1)) ∧ w.cell? ⟨b, 2, none⟩ = some (.int .u64 (wd p 2)) ∧ w.cell? ⟨b, 3, none⟩ = some (.int .u64 (wd p 3)) ∧ w.cell? ⟨b, 4, none⟩ = some (.int .u64 (wd p 4)) ∧ w.cell? ⟨b, 5, none⟩ = some (.int .u64 (wd p 5)) ∧ w.cell? ⟨b, 6, none⟩ = some (.int .u64 (wd p 6)) :=
  ⟨h.cell 0 (by decide), h.cell 1 (by decide), h.cell 2 (by decide), h.cell 3 (by decide), h.cell 4 (by decide), h.cell 5 (by decide), h.cell 6 (by decide)⟩
theorem Hp.frz {w : World} {b : Nat} {p : Nat → Bool} (h : Hp w b p) : w.frozen? ⟨b, 0, none⟩ = false ∧ w.frozen? ⟨b, 1, none⟩ = false ∧ w.frozen? ⟨b, 2, none⟩ = false ∧ w.frozen? ⟨b, 3, none⟩ = false ∧ w.frozen? ⟨b, 4, none⟩ = false ∧ w.frozen? ⟨b, 5, none⟩ = false ∧ w.frozen? ⟨b, 6, none⟩ = false :=
  ⟨h.frozen 0, h.frozen 1, h.frozen 2, h.frozen 3, h.frozen 4, h.frozen 5, h.frozen 6⟩
theorem Hp.lt {w : World} {b : Nat} {p : Nat → Bool} (h : Hp w b p) : b < w.heap.size := by
  rcases Nat.lt_or_ge b w.heap.size with h' | h'
  · exact h'
  · simp [Hp, Array.getElem?_eq_none h'] at h
theorem Hp.drew {w : World} {b : Nat} {p : Nat → Bool} (h : Hp w b p) : Hp w.drew b p := h
theorem Hp.below {w w' : World} {B b : Nat} {p : Nat → Bool} (h : Hp w b p) (hb : Below B w w') (hlt : b < B) : Hp w' b p := (hb.block b hlt).trans h
theorem Hp.grown {w w' : World} {b : Nat} {p : Nat → Bool} {row : Option Nat} (h : Hp w b p) (hg : w.grownBy w' row) (hne : some b ≠ row) : Hp w' b p := (hg.block b h.lt hne).trans h
theorem Hp.alloc {w : World} {b : Nat} {p : Nat → Bool} (h : Hp w b p) (o : Obj) : Hp (w.alloc o) b p := (Below.heap_alloc w o b h.lt).trans h
theorem Hp.new (w : World) (p : Nat → Bool) (b : Nat) (hb : b = w.heap.size) : Hp (w.alloc (.cells #[.int .u64 (wd p 0), .int .u64 (wd p 1), .int .u64 (wd p 2), .int .u64 (wd p 3), .int .u64 (wd p 4), .int .u64 (wd p 5), .int .u64 (wd p 6)] 62)) b p := by subst hb; exact heap_alloc_new w _
theorem Hp.zero (w : World) (b : Nat) (hb : b = w.heap.size) : Hp (w.alloc (.cells #[.int .u64 0, .int .u64 0, .int .u64 0, .int .u64 0, .int .u64 0, .int .u64 0, .int .u64 0] 62)) b noP := by
  subst hb
  unfold Hp
  rw [wd_no, wd_no, wd_no, wd_no, wd_no, wd_no, wd_no]
  exact heap_alloc_new w _
theorem Hp.congr {w : World} {b : Nat} {p q : Nat → Bool} (h : Hp w b p) (hpq : ∀ j, j < 448 → p j = q j) : Hp w b q := by
  have e := cellsP_congr hpq
  unfold cellsP at e
  unfold Hp at h ⊢
  rw [h]
  simp only [Option.some.injEq, Obj.cells.injEq, and_true]
  simpa using e
theorem Hp.other {w : World} {b : Nat} {p : Nat → Bool} (h : Hp w b p) (a : Addr) (v : Value) (hp : b ≠ a.block) : Hp (w.setCell a v) b p := (Below.heap_setCell w a v b hp).trans h
/-- One word is set. -/
theorem Hp.store {w : World} {b : Nat} {p q : Nat → Bool} (h : Hp w b p) (i : Nat) (hi : i < 7) (z : Int) (hs : (cellsP p).set i (.int .u64 z) = cellsP q) : Hp (w.setCell ⟨b, i, none⟩ (.int .u64 z)) b q := by
  unfold cellsP at hs
  unfold Hp at h ⊢
  simp [World.setCell, Array.getElem?_modify, h, hs]
/-- All seven words are set. -/
abbrev put7 (w : World) (b : Nat) (q : Nat → Bool) : World := ((((((w.setCell ⟨b, 0, none⟩ (.int .u64 (wd q 0))).setCell ⟨b, 1, none⟩ (.int .u64 (wd q 1))).setCell ⟨b, 2, none⟩ (.int .u64 (wd q 2))).setCell ⟨b, 3, none⟩ (.int .u64 (wd q 3))).setCell ⟨b, 4, none⟩ (.int .u64 (wd q 4))).setCell ⟨b, 5, none⟩ (.int .u64 (wd q 5))).setCell ⟨b, 6, none⟩ (.int .u64 (wd q 6))
theorem Hp.put7 {w : World} {b : Nat} {p : Nat → Bool} (h : Hp w b p) (q : Nat → Bool) : Hp (put7 w b q) b q := by
  unfold Hp at h ⊢
  simp [World.setCell, Array.getElem?_modify, h]
theorem Hp.other7 {w : World} {b c : Nat} {p : Nat → Bool} (h : Hp w b p) (q : Nat → Bool) (hc : b ≠ c) : Hp (Go.Proofs.YtlejbnmeeonblaaDoor.put7 w c q) b p :=
  ((((((h.other _ _ hc).other _ _ hc).other _ _ hc).other _ _ hc).other _ _ hc).other _ _ hc).other _ _ hc
theorem below_put7 {w0 w : World} {B b : Nat} (h : Below B w0 w) (hb : B ≤ b) (q : Nat → Bool) : Below B w0 (put7 w b q) :=
  ((((((h.setCell hb _).setCell hb _).setCell hb _).setCell hb _).setCell hb _).setCell hb _).setCell hb _
theorem put7_size (w : World) (b : Nat) (q : Nat → Bool) : (put7 w b q).heap.size = w.heap.size := by simp [World.setCell]
theorem grown_set (w : World) (b i : Nat) (v : Value) : w.grownBy (w.setCell ⟨b, i, none⟩ v) (some b) :=
  ⟨rfl, rfl, rfl, by simp [World.setCell], fun k _ hk => Below.heap_setCell _ _ _ _ (fun e => hk (by rw [e]))⟩
theorem grown_put7 (w : World) (b : Nat) (q : Nat → Bool) : w.grownBy (put7 w b q) (some b) :=
  ((((((grown_set w b 0 _).trans (grown_set _ b 1 _)).trans (grown_set _ b 2 _)).trans (grown_set _ b 3 _)).trans (grown_set _ b 4 _)).trans (grown_set _ b 5 _)).trans (grown_set _ b 6 _)
theorem below_grown {w w' : World} (h : Below w.heap.size w w') (row : Option Nat) : w.grownBy w' row := ⟨h.1, h.2, h.3, h.size, fun i hi _ => h.block i hi⟩
theorem agg7 {p q : Nat → Bool} (h : p = q) : Ending.returned (plV p) = .returned (plV q) := by rw [h]
end Go.Proofs.YtlejbnmeeonblaaDoor
