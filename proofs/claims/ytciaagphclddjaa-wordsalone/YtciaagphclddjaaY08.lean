/- A net of words, in memory. Package words: step. Contracts of the library, laid at this program as the kit's own tools print them. Package words: slices.Clone of numbers; end: a word's number is put into its place. -/
import Derived.Test.YtciaagphclddjaaY07
import Derived.Maps.OwnSet
import Derived.Maps.Range
import Derived.RangeFuncRecord
import Derived.Deep.LoopGhost
import Derived.Shelf.Sort.Plain
import Derived.Shelf.Bits.Mul64
import Derived.Test.YtciaagphclddjaaProg
import Derived.Deep.AppendLies
import Derived.Sort.OwnSortedInts
namespace Go.Proofs.Ytciaagphclddjaa
set_option linter.unusedSimpArgs false
set_option linter.unusedVariables false
set_option maxRecDepth 100000
open Go.RowKit
theorem hpLt {W : World} {k : Nat} {o : Obj} (h : W.heap[k]? = some o) : k < W.heap.size := (Array.getElem?_eq_some_iff.1 h).1
def byL (c : UInt8) : Lit := .int .u8 (c.toNat : Int)
theorem wf_byte (c : UInt8) : (Lit.int .u8 (c.toNat : Int)).wf = true := WalkArith.wf_u8 (by have := c.toNat_lt; omega)
theorem byte_keyed : Maps.Keyed Try.prog 5 := Maps.int_keyed Try.underlying5
theorem byte_key (c : UInt8) : keyOf Try.prog 5 (.int .u8 (c.toNat : Int)) = some (byL c) := Maps.keyOf_int_mk Try.underlying5 (wf_byte c)
theorem byL_inj {c d : UInt8} (h : byL c = byL d) : c = d := by
  unfold byL at h
  injection h with _ h
  exact UInt8.toNat_inj.1 (by omega)
/-- As many as there are names for. -/
theorem pigeonW {α : Type} (f : Nat → α) : ∀ (N : Nat) (l : List α), l.Pairwise (fun a b => a ≠ b) → (∀ k ∈ l, ∃ c, c < N ∧ k = f c) → l.length ≤ N
  | 0, [], _, _ => Nat.le_refl _
  | 0, a :: l, _, h => by obtain ⟨c, hc, _⟩ := h a (by simp); omega
  | N + 1, l, hp, h => by
    haveI : DecidableEq α := fun a b => Classical.propDecidable (a = b)
    have h1 := pigeonW f N (l.filter fun a => !decide (a = f N)) (hp.filter _) (fun k hk => by
      rw [List.mem_filter] at hk
      obtain ⟨c, hc, rfl⟩ := h k hk.1
      refine ⟨c, ?_, rfl⟩
      rcases Nat.lt_or_ge c N with h' | h'
      · exact h'
      · obtain rfl : c = N := by omega
        simp at hk)
    have h2 : ∀ (l : List α), l.Pairwise (fun a b => a ≠ b) → l.length ≤ (l.filter fun a => !decide (a = f N)).length + 1 := by
      intro l
      induction l with
      | nil => intro _; simp
      | cons a l ih =>
        intro hp
        rw [List.pairwise_cons] at hp
        by_cases ha : a = f N
        · have e : l.filter (fun a => !decide (a = f N)) = l := List.filter_eq_self.2 fun b hb => by
            have := hp.1 b hb
            simp
            intro e
            exact this (ha.trans e.symm)
          rw [List.filter_cons, e]
          simp [ha]
        · rw [List.filter_cons]
          have := ih hp.2
          simp [ha]
          omega
    have := h2 l hp
    omega
/-- How an element of a map reads: as itself. -/
def asIt (v : Value) : Option (DataW Value × List MemPlace) := some (.held v, [])
/-- A place of a block, or none. -/
abbrev ptO (o : Option Nat) : Value := .pointer (o.map fun b => ⟨b, 0, none⟩)
/-- The map in block M leads at each byte just to the block that f names. -/
def Kw (w : World) (M : Nat) (f : UInt8 → Option Nat) : Prop :=
  ∃ D : DataW Value, w.ownsMap Try.prog 5 asIt M (Maps.size D) D ∧ (∀ kl, Maps.has D kl = true → ∃ c, kl = byL c) ∧ ∀ c z, D.atKey (byL c) z = match f c with
    | some b => .held (.pointer (some ⟨b, 0, none⟩))
    | none => z
theorem Kw.made (w : World) : Kw (w.alloc (.map #[] 0)) w.heap.size (fun _ => none) :=
  ⟨.map [], World.ownsMap_made w _ _ _, fun kl h => by simp [Maps.has] at h, fun c z => Maps.atKey_of_not_has (D := .map []) (k := byL c) rfl z⟩
theorem Kw.heap {w : World} {M : Nat} {f : UInt8 → Option Nat} (h : Kw w M f) : ∃ es clock, w.heap[M]? = some (.map es clock) := by
  obtain ⟨D, ⟨es, clock, hb, _⟩, _⟩ := h
  exact ⟨es, clock, hb⟩
theorem Kw.lt {w : World} {M : Nat} {f : UInt8 → Option Nat} (h : Kw w M f) : M < w.heap.size := by
  obtain ⟨D, h, _⟩ := h
  exact h.lt
theorem Kw.same {w w' : World} {M : Nat} {f : UInt8 → Option Nat} (h : Kw w M f) (e : w'.heap[M]? = w.heap[M]?) : Kw w' M f := by
  obtain ⟨D, ⟨es, clock, hb, r⟩, hk⟩ := h
  exact ⟨D, ⟨es, clock, e.trans hb, r⟩, hk⟩
theorem zero_knot (w : World) : (zeroValue 53).run Try.prog w = .ok (.pointer none) w := by kernel_rfl
/-- What is looked up. -/
theorem Kw.look {w : World} {M : Nat} {f : UInt8 → Option Nat} (h : Kw w M f) (c : UInt8) : (Instr.lookup 56 (.map (some M)) (.int .u8 (c.toNat : Int)) false).run Try.prog w = .ok (ptO (f c)) w := by
  obtain ⟨D, h, hk, hat⟩ := h
  obtain ⟨v, ps, hrun, hv⟩ := h.lookup byte_keyed Try.underlying56 (zero_knot w) (zd := .held _) (zp := []) rfl (byte_key c)
  rw [hat c] at hv
  cases hf : f c with
  | none =>
    rw [hf] at hv
    simp [asIt] at hv
    rw [hv.1] at hrun
    exact hrun
  | some b =>
    rw [hf] at hv
    simp [asIt] at hv
    rw [hv.1] at hrun
    exact hrun
theorem Kw.small {w : World} {M : Nat} {D : DataW Value} {n : Nat} (h : w.ownsMap Try.prog 5 asIt M n D) (hk : ∀ kl, Maps.has D kl = true → ∃ c, kl = byL c) : Maps.size D ≤ 256 := by
  obtain ⟨es, rfl, hp, hl⟩ := h.entries byte_keyed
  have h1 : (es.map (·.1)).length ≤ 256 := by
    refine pigeonW (fun i => byL (UInt8.ofNat i)) 256 _ (List.pairwise_map.2 hp) (fun kl hm => ?_)
    obtain ⟨q, hq, rfl⟩ := List.mem_map.1 hm
    have : Maps.has (DataW.map es) q.1 = true := by
      rw [Maps.has_eq, List.any_eq_true]
      exact ⟨q, hq, WideAt.sameKey_self (hl q hq)⟩
    obtain ⟨c, hc⟩ := hk _ this
    exact ⟨c.toNat, c.toNat_lt, by rw [hc]; simp⟩
  simpa [Maps.size] using h1
/-- One key more. -/
theorem Kw.put {w : World} {M : Nat} {f : UInt8 → Option Nat} (h : Kw w M f) (c : UInt8) (b : Nat) : ∃ w', (Instr.mapUpdate 56 (.map (some M)) (.int .u8 (c.toNat : Int)) (.pointer (some ⟨b, 0, none⟩))).run Try.prog w = .ok () w' ∧ Kw w' M (fun d => if d = c then some b else f d) ∧ w.grownBy w' (some M) := by
  obtain ⟨D, h, hk, hat⟩ := h
  have hsm := Kw.small h hk
  obtain ⟨w', hrun, hown', hg⟩ := h.update byte_keyed Try.underlying56 (by unfold maxLen; omega) (byte_key c) (val := .pointer (some ⟨b, 0, none⟩)) (d := .held (.pointer (some ⟨b, 0, none⟩))) (ps := []) rfl
  have hkl := byte_keyed.key (byte_key c)
  have hsz : Maps.size (D.put (byL c) (.held (.pointer (some ⟨b, 0, none⟩)))) ≤ Maps.size D + 1 := by
    rw [Maps.size_put (h.tidy byte_keyed)]
    split <;> omega
  refine ⟨w', hrun, ⟨D.put (byL c) (.held (.pointer (some ⟨b, 0, none⟩))), ?_, fun kl hh => ?_, fun d z => ?_⟩, hg⟩
  · obtain ⟨es, clock, hb, r⟩ := hown'
    obtain ⟨r1, r2, r3⟩ := r
    refine ⟨es, clock, hb, r1, ?_, r3⟩
    rw [r3]
    show es.size ≤ List.length _
    rw [length_read]
    exact Nat.le_refl _
  · by_cases e : kl = byL c
    · exact ⟨c, e⟩
    · rw [Maps.has_put_other e] at hh
      exact hk _ hh
  · by_cases e : d = c
    · subst e
      simp only [if_pos rfl]
      exact Maps.atKey_put_same h.isMap hkl _ _
    · simp only [if_neg e]
      rw [Maps.atKey_put_other (fun he => e (byL_inj he))]
      exact hat d z
/-- A slice of numbers whose block lies as it lay. -/
theorem IsOwn.same {w w' : World} {B : Nat} {v : Value} {l : List Nat} (h : IsOwn w B v l) (e : ∀ b, v.ownBlock = some b → w'.heap[b]? = w.heap[b]?) : IsOwn w' B v l := by
  refine ⟨h.1, ?_⟩
  rcases h.2 with h0 | ⟨g, cap, cur, hv, hb, hg, hr⟩
  · exact Or.inl h0
  · exact Or.inr ⟨g, cap, cur, hv, hb, (e g (by rw [hv]; rfl)).trans hg, hr⟩
theorem IsOwn.blk {w : World} {B : Nat} {v : Value} {l : List Nat} (h : IsOwn w B v l) {b : Nat} (hb : v.ownBlock = some b) : B ≤ b ∧ ∃ cur, w.heap[b]? = some (.cells cur 3 (0, 0)) := by
  rcases h.2 with ⟨hv, _⟩ | ⟨g, cap, cur, hv, hB, hg, hr⟩
  · rw [hv] at hb; cases hb
  · rw [hv] at hb
    injection hb with hb
    simp only at hb
    subst hb
    exact ⟨hB, cur, hg⟩
theorem IsOwn.mono {w : World} {B B' : Nat} {v : Value} {l : List Nat} (h : IsOwn w B v l) (hb : B' ≤ B) : IsOwn w B' v l := by
  refine ⟨h.1, ?_⟩
  rcases h.2 with h0 | ⟨g, cap, cur, hv, hB, hg, hr⟩
  · exact Or.inl h0
  · exact Or.inr ⟨g, cap, cur, hv, Nat.le_trans hb hB, hg, hr⟩
/-- A knot's cells. -/
abbrev knC (M : Nat) (back : Option Nat) (v : Value) : Obj := .cells #[.map (some M), ptO back, v] 59 (0, 0)
/-- The knot to which one leads back. -/
def bkO (D : List UInt8 → Bool) (kb : List UInt8 → Nat) (q : List UInt8) : Option Nat := if q = [] then none else some (kb (bkF D q))
/-- The knots that are one byte further. -/
def nxO (D : List UInt8 → Bool) (kb : List UInt8 → Nat) (q : List UInt8) (c : UInt8) : Option Nat := if D (q ++ [c]) then some (kb (q ++ [c])) else none
/-- The net in memory: D: what is in it; E: the words' numbers; kb, mb: where each knot and its map lie; ev: its slice. -/
structure Net (D : List UInt8 → Bool) (E : List UInt8 → List Nat) (kb mb : List UInt8 → Nat) (ev : List UInt8 → Value) (B : Nat) (w : World) : Prop where
  nil : D [] = true
  pcl : Pcl D
  kn : ∀ q, D q = true → w.heap[kb q]? = some (knC (mb q) (bkO D kb q) (ev q))
  mp : ∀ q, D q = true → Kw w (mb q) (nxO D kb q)
  en : ∀ q, D q = true → IsOwn w B (ev q) (E q)
  enil : ∀ q, D q = true → E q = [] → ev q = .slice none 0 0
  short : ∀ q, D q = true → (E q).length ≤ 20
  kinj : ∀ p q, D p = true → D q = true → kb p = kb q → p = q
  minj : ∀ p q, D p = true → D q = true → mb p = mb q → p = q
  einj : ∀ p q, D p = true → D q = true → ∀ b, (ev p).ownBlock = some b → (ev q).ownBlock = some b → p = q
  lo : ∀ q, D q = true → B ≤ kb q ∧ B ≤ mb q
/-- Two names of a block that holds cells of two types. -/
theorem two_cells {w : World} {a b : Nat} {x y : Array Value} {s t : TypeId} {f g : Nat × Nat} (ha : w.heap[a]? = some (.cells x s f)) (hb : w.heap[b]? = some (.cells y t g)) (hst : s ≠ t) : a ≠ b := by
  rintro rfl
  rw [ha] at hb
  injection hb with hb
  injection hb with _ hb _
  exact hst hb
theorem cells_not_map {w : World} {a b : Nat} {x : Array Value} {s : TypeId} {f : Nat × Nat} {es : Array MapEntry} {cl : Nat} (ha : w.heap[a]? = some (.cells x s f)) (hb : w.heap[b]? = some (.map es cl)) : a ≠ b := by
  rintro rfl
  rw [ha] at hb
  cases hb
theorem Net.same {D : List UInt8 → Bool} {E : List UInt8 → List Nat} {kb mb : List UInt8 → Nat} {ev : List UInt8 → Value} {B : Nat} {w w' : World} (h : Net D E kb mb ev B w) (e : ∀ k, B ≤ k → k < w.heap.size → w'.heap[k]? = w.heap[k]?) : Net D E kb mb ev B w' where
  nil := h.nil
  pcl := h.pcl
  kn := fun q hq => (e _ (h.lo q hq).1 (hpLt (h.kn q hq))).trans (h.kn q hq)
  mp := fun q hq => (h.mp q hq).same (e _ (h.lo q hq).2 (h.mp q hq).lt)
  en := fun q hq => (h.en q hq).same fun b hb => by
    obtain ⟨h1, cur, h2⟩ := (h.en q hq).blk hb
    exact e b h1 (hpLt h2)
  enil := h.enil
  short := h.short
  kinj := h.kinj
  minj := h.minj
  einj := h.einj
  lo := h.lo
theorem Net.below {D : List UInt8 → Bool} {E : List UInt8 → List Nat} {kb mb : List UInt8 → Nat} {ev : List UInt8 → Value} {B : Nat} {w w' : World} (h : Net D E kb mb ev B w) (hb : Below w.heap.size w w') : Net D E kb mb ev B w' := h.same fun k _ hk => hb.block k hk
theorem Net.size {D : List UInt8 → Bool} {E : List UInt8 → List Nat} {kb mb : List UInt8 → Nat} {ev : List UInt8 → Value} {B : Nat} {w : World} (h : Net D E kb mb ev B w) : B < w.heap.size := by
  have := hpLt (h.kn [] h.nil)
  have := (h.lo [] h.nil).1
  omega
/-- A new row of cells of another kind, or an old one that is none of the net's, is turned. -/
theorem Net.other {D : List UInt8 → Bool} {E : List UInt8 → List Nat} {kb mb : List UInt8 → Nat} {ev : List UInt8 → Value} {B : Nat} {w w' : World} (h : Net D E kb mb ev B w) {b : Nat} {x : Array Value} {t : TypeId} {f : Nat × Nat} (hb : w.heap[b]? = some (.cells x t f)) (h1 : t ≠ 59) (h2 : t ≠ 3) (e : ∀ k, k ≠ b → k < w.heap.size → w'.heap[k]? = w.heap[k]?) : Net D E kb mb ev B w' where
  nil := h.nil
  pcl := h.pcl
  kn := fun q hq => (e _ (two_cells (h.kn q hq) hb (Ne.symm h1)) (hpLt (h.kn q hq))).trans (h.kn q hq)
  mp := fun q hq => (h.mp q hq).same (by obtain ⟨es, cl, hm⟩ := (h.mp q hq).heap; exact e _ (Ne.symm (cells_not_map hb hm)) (h.mp q hq).lt)
  en := fun q hq => (h.en q hq).same fun b' hb' => by
    obtain ⟨_, cur, h3⟩ := (h.en q hq).blk hb'
    exact e b' (two_cells h3 hb (Ne.symm h2)) (hpLt h3)
  enil := h.enil
  short := h.short
  kinj := h.kinj
  minj := h.minj
  einj := h.einj
  lo := h.lo
/-- What is put at one text. -/
def putL {α : Type} (f : List UInt8 → α) (q : List UInt8) (v : α) : List UInt8 → α := fun s => if s = q then v else f s
theorem putL_same {α : Type} (f : List UInt8 → α) (q : List UInt8) (v : α) : putL f q v q = v := if_pos rfl
theorem putL_ne {α : Type} (f : List UInt8 → α) {q s : List UInt8} (v : α) (h : s ≠ q) : putL f q v s = f s := if_neg h
/-- A KNOT MORE: w' holds the new knot, in w'' its parent's map leads to it. -/
theorem Net.grow {D : List UInt8 → Bool} {E : List UInt8 → List Nat} {kb mb : List UInt8 → Nat} {ev : List UInt8 → Value} {B : Nat} {w w' w'' : World} (h : Net D E kb mb ev B w) (p : List UInt8) (c : UInt8) (hp : D p = true) (hq : D (p ++ [c]) = false) (hlen : ∀ s, D s = true → s.length ≤ p.length + 1)
    (hb : Below w.heap.size w w') (σ M : Nat) (v : Value) (h1 : w.heap.size ≤ σ) (h2 : w.heap.size ≤ M) (hσ : w'.heap[σ]? = some (knC M (some (kb (bkF D (p ++ [c])))) v)) (hM : Kw w' M (fun _ => none))
    (hv : IsOwn w' w.heap.size v (E (bkF D (p ++ [c])))) (hvn : E (bkF D (p ++ [c])) = [] → v = .slice none 0 0)
    (hg : w'.grownBy w'' (some (mb p))) (hpm : Kw w'' (mb p) (fun d => if d = c then some σ else nxO D kb p d)) :
    Net (putL D (p ++ [c]) true) (putL E (p ++ [c]) (E (bkF D (p ++ [c])))) (putL kb (p ++ [c]) σ) (putL mb (p ++ [c]) M) (putL ev (p ++ [c]) v) B w'' := by
  obtain ⟨q, hqq⟩ : ∃ q, p ++ [c] = q := ⟨_, rfl⟩
  have hql : q.length = p.length + 1 := by rw [← hqq]; simp
  have hqn : q ≠ [] := by rw [← hqq]; simp
  rw [hqq] at hq hσ hv hvn ⊢
  have hB := h.size
  have pn : p ≠ q := fun e => by rw [← e] at hql; omega
  have old : ∀ s, putL D q true s = true → s = q ∨ (s ≠ q ∧ D s = true) := fun s hs => by
    by_cases e : s = q
    · exact Or.inl e
    · rw [putL_ne _ _ e] at hs
      exact Or.inr ⟨e, hs⟩
  have ne : ∀ s, D s = true → s ≠ q := fun s hs e => by rw [e, hq] at hs; cases hs
  have dle : ∀ s, D s = true → putL D q true s = true := fun s hs => by rw [putL_ne _ _ (ne s hs)]; exact hs
  have bkeq : ∀ s, s.length ≤ q.length → bkF (putL D q true) s = bkF D s := fun s hs => bkF_congr s (fun t ht => putL_ne _ _ (fun e => by rw [e] at ht; omega))
  have bke : ∀ s, D s = true → bkO (putL D q true) (putL kb q σ) s = bkO D kb s := fun s hs => by
    unfold bkO
    by_cases e : s = []
    · rw [if_pos e, if_pos e]
    · rw [if_neg e, if_neg e, bkeq s (by have := hlen s hs; omega), putL_ne _ _ (ne _ (bkF_in h.nil s))]
  have mbp := h.mp p hp
  obtain ⟨es, cl, hmh⟩ := mbp.heap
  have hmh' : w'.heap[mb p]? = some (.map es cl) := (hb.block _ mbp.lt).trans hmh
  have keep : ∀ k o, w'.heap[k]? = some o → k ≠ mb p → w''.heap[k]? = some o := fun k o hk hne => (hg.block k (hpLt hk) (by intro e; injection e with e; exact hne e)).trans hk
  have keepC : ∀ {k : Nat} {x : Array Value} {t : TypeId} {f : Nat × Nat}, w'.heap[k]? = some (.cells x t f) → w''.heap[k]? = some (.cells x t f) := fun hk => keep _ _ hk (cells_not_map hk hmh')
  have keepM : ∀ {k : Nat} {f : UInt8 → Option Nat}, Kw w' k f → k ≠ mb p → Kw w'' k f := fun hk hne => by
    refine hk.same ?_
    obtain ⟨es', cl', hh⟩ := hk.heap
    rw [keep _ _ hh hne, hh]
  have keepE : ∀ {b : Nat} {v : Value} {l : List Nat}, IsOwn w' b v l → IsOwn w'' b v l := fun hk => hk.same fun b hb => by
    obtain ⟨_, cur, h3⟩ := hk.blk hb
    rw [keepC h3, h3]
  have kM : Kw w'' M (fun _ => none) := keepM hM (by have := mbp.lt; omega)
  have nxe : ∀ s, D s = true → s ≠ p → nxO (putL D q true) (putL kb q σ) s = nxO D kb s := fun s hs hne => by
    funext d
    unfold nxO
    have e : s ++ [d] ≠ q := fun e => by
      rw [← hqq] at e
      exact hne (List.append_inj_left' e rfl)
    rw [putL_ne _ _ e, putL_ne _ _ e]
  have nxp : nxO (putL D q true) (putL kb q σ) p = fun d => if d = c then some σ else nxO D kb p d := by
    funext d
    unfold nxO
    by_cases e : d = c
    · rw [if_pos e, e, hqq, putL_same, putL_same]
      rfl
    · have e' : p ++ [d] ≠ q := fun h => by
        rw [← hqq] at h
        have := List.append_inj_right h rfl
        exact e (by simpa using this)
      rw [if_neg e, putL_ne _ _ e', putL_ne _ _ e']
  have nxq : nxO (putL D q true) (putL kb q σ) q = fun _ => none := by
    funext d
    unfold nxO
    have e : q ++ [d] ≠ q := fun e => by have := congrArg List.length e; simp at this
    rw [putL_ne _ _ e, if_neg]
    intro hd
    have := hlen _ hd
    simp at this
    omega
  refine ⟨dle [] h.nil, fun s d hs => ?_, fun s hs => ?_, fun s hs => ?_, fun s hs => ?_, fun s hs => ?_, fun s hs => ?_, fun a b ha hb' => ?_, fun a b ha hb' => ?_, fun a b ha hb' => ?_, fun s hs => ?_⟩
  · rcases old _ hs with e | ⟨_, hs⟩
    · rw [← hqq] at e
      rw [List.append_inj_left' e rfl]
      exact dle p hp
    · exact dle s (h.pcl s d hs)
  · rcases old s hs with rfl | ⟨e, hs⟩
    · rw [putL_same, putL_same, putL_same]
      have : bkO (putL D s true) (putL kb s σ) s = some (kb (bkF D s)) := by
        unfold bkO
        rw [if_neg hqn, bkeq s (Nat.le_refl _), putL_ne _ _ (ne _ (bkF_in h.nil s))]
      rw [this]
      exact keepC hσ
    · rw [putL_ne _ _ e, putL_ne _ _ e, putL_ne _ _ e, bke s hs]
      have hk := h.kn s hs
      exact keepC ((hb.block _ (hpLt hk)).trans hk)
  · rcases old s hs with rfl | ⟨e, hs⟩
    · rw [putL_same, nxq]
      exact kM
    · rw [putL_ne _ _ e]
      by_cases ep : s = p
      · rw [ep, nxp]
        exact hpm
      · rw [nxe s hs ep]
        have hk := h.mp s hs
        exact keepM (hk.same (hb.block _ hk.lt)) (fun em => ep (h.minj s p hs hp em))
  · rcases old s hs with rfl | ⟨e, hs⟩
    · rw [putL_same, putL_same]
      exact (keepE hv).mono (by omega)
    · rw [putL_ne _ _ e, putL_ne _ _ e]
      exact keepE ((h.en s hs).same fun b hb' => by
        obtain ⟨_, cur, h3⟩ := (h.en s hs).blk hb'
        exact hb.block _ (hpLt h3))
  · rcases old s hs with rfl | ⟨e, hs⟩
    · rw [putL_same, putL_same]
      exact hvn
    · rw [putL_ne _ _ e, putL_ne _ _ e]
      exact h.enil s hs
  · rcases old s hs with rfl | ⟨e, hs⟩
    · rw [putL_same]
      exact h.short _ (bkF_in h.nil s)
    · rw [putL_ne _ _ e]
      exact h.short s hs
  · rcases old a ha with rfl | ⟨ea, ha2⟩ <;> rcases old b hb' with rfl | ⟨eb, hb'⟩
    · intro _; rfl
    · rw [putL_same, putL_ne _ _ eb]
      have := hpLt (h.kn b hb')
      omega
    · rw [putL_ne _ _ ea, putL_same]
      have := hpLt (h.kn a ha2)
      omega
    · rw [putL_ne _ _ ea, putL_ne _ _ eb]
      exact h.kinj a b ha2 hb'
  · rcases old a ha with rfl | ⟨ea, ha2⟩ <;> rcases old b hb' with rfl | ⟨eb, hb'⟩
    · intro _; rfl
    · rw [putL_same, putL_ne _ _ eb]
      have := (h.mp b hb').lt
      omega
    · rw [putL_ne _ _ ea, putL_same]
      have := (h.mp a ha2).lt
      omega
    · rw [putL_ne _ _ ea, putL_ne _ _ eb]
      exact h.minj a b ha2 hb'
  · rcases old a ha with rfl | ⟨ea, ha2⟩ <;> rcases old b hb' with rfl | ⟨eb, hb'⟩
    · intro _ _ _; rfl
    · rw [putL_same, putL_ne _ _ eb]
      intro k k1 k2
      obtain ⟨x1, _⟩ := hv.blk k1
      obtain ⟨_, cur, x2⟩ := (h.en b hb').blk k2
      have := hpLt x2
      omega
    · rw [putL_ne _ _ ea, putL_same]
      intro k k1 k2
      obtain ⟨x1, _⟩ := hv.blk k2
      obtain ⟨_, cur, x2⟩ := (h.en a ha2).blk k1
      have := hpLt x2
      omega
    · rw [putL_ne _ _ ea, putL_ne _ _ eb]
      exact h.einj a b ha2 hb'
  · rcases old s hs with rfl | ⟨e, hs⟩
    · rw [putL_same, putL_same]
      constructor <;> omega
    · rw [putL_ne _ _ e, putL_ne _ _ e]
      exact h.lo s hs
/-- A KNOT's SLICE IS ANOTHER ONE. -/
theorem Net.ends {D : List UInt8 → Bool} {E : List UInt8 → List Nat} {kb mb : List UInt8 → Nat} {ev : List UInt8 → Value} {B : Nat} {w w' : World} (h : Net D E kb mb ev B w) (x : List UInt8) (hx : D x = true) (v : Value) (l : List Nat) (hl : l ≠ []) (hl20 : l.length ≤ 20)
    (hkeep : ∀ k, k < w.heap.size → k ≠ kb x → (ev x).ownBlock ≠ some k → w'.heap[k]? = w.heap[k]?) (hk : w'.heap[kb x]? = some (knC (mb x) (bkO D kb x) v)) (hv : IsOwn w' B v l) (hvb : ∀ b, v.ownBlock = some b → (ev x).ownBlock = some b ∨ w.heap.size ≤ b) :
    Net D (putL E x l) kb mb (putL ev x v) B w' := by
  have hkx := h.kn x hx
  have kC : ∀ s, D s = true → s ≠ x → w'.heap[kb s]? = w.heap[kb s]? := fun s hs e => hkeep _ (hpLt (h.kn s hs)) (fun e' => e (h.kinj s x hs hx e')) (fun e' => by
    obtain ⟨_, cur, h3⟩ := (h.en x hx).blk e'
    exact two_cells h3 (h.kn s hs) (by decide) rfl)
  have kM : ∀ s, D s = true → w'.heap[mb s]? = w.heap[mb s]? := fun s hs => by
    obtain ⟨es, cl, hm⟩ := (h.mp s hs).heap
    refine hkeep _ (h.mp s hs).lt (fun e => ?_) (fun e => ?_)
    · exact cells_not_map hkx hm e.symm
    · obtain ⟨_, cur, h3⟩ := (h.en x hx).blk e
      exact cells_not_map h3 hm rfl
  have kE : ∀ s, D s = true → s ≠ x → IsOwn w' B (ev s) (E s) := fun s hs e => (h.en s hs).same fun b hb => by
    obtain ⟨_, cur, h3⟩ := (h.en s hs).blk hb
    refine hkeep b (hpLt h3) (fun e' => ?_) (fun e' => e (h.einj s x hs hx b hb e'))
    exact two_cells h3 hkx (by decide) e'
  refine ⟨h.nil, h.pcl, fun s hs => ?_, fun s hs => (h.mp s hs).same (kM s hs), fun s hs => ?_, fun s hs => ?_, fun s hs => ?_, h.kinj, h.minj, fun a b ha hb k k1 k2 => ?_, h.lo⟩
  · by_cases e : s = x
    · rw [e, putL_same]; exact hk
    · rw [putL_ne _ _ e, kC s hs e]; exact h.kn s hs
  · by_cases e : s = x
    · rw [e, putL_same, putL_same]; exact hv
    · rw [putL_ne _ _ e, putL_ne _ _ e]; exact kE s hs e
  · by_cases e : s = x
    · rw [e, putL_same]; exact fun h0 => absurd h0 hl
    · rw [putL_ne _ _ e, putL_ne _ _ e]; exact h.enil s hs
  · by_cases e : s = x
    · rw [e, putL_same]; exact hl20
    · rw [putL_ne _ _ e]; exact h.short s hs
  · have key : ∀ s, D s = true → s ≠ x → v.ownBlock = some k → (ev s).ownBlock = some k → False := fun s hs e h1 h2 => by
      rcases hvb k h1 with h3 | h3
      · exact e (h.einj s x hs hx k h2 h3)
      · obtain ⟨_, cur, h4⟩ := (h.en s hs).blk h2
        have := hpLt h4
        omega
    by_cases ea : a = x <;> by_cases eb : b = x
    · rw [ea, eb]
    · rw [ea, putL_same] at k1
      rw [putL_ne _ _ eb] at k2
      exact (key b hb eb k1 k2).elim
    · rw [eb, putL_same] at k2
      rw [putL_ne _ _ ea] at k1
      exact (key a ha ea k2 k1).elim
    · rw [putL_ne _ _ ea] at k1
      rw [putL_ne _ _ eb] at k2
      exact h.einj a b ha hb k k1 k2
/-- The same net, told otherwise. -/
theorem Net.cast {D D' : List UInt8 → Bool} {E E' : List UInt8 → List Nat} {kb mb : List UInt8 → Nat} {ev : List UInt8 → Value} {B : Nat} {w : World} (h : Net D E kb mb ev B w) (hD : D' = D) (hE : ∀ q, D q = true → E' q = E q) : Net D' E' kb mb ev B w := by
  subst hD
  exact ⟨h.nil, h.pcl, h.kn, h.mp, fun q hq => by rw [hE q hq]; exact h.en q hq, fun q hq => by rw [hE q hq]; exact h.enil q hq, fun q hq => by rw [hE q hq]; exact h.short q hq, h.kinj, h.minj, h.einj, h.lo⟩
/-- THE ROOT ALONE. -/
theorem Net.start (w : World) : Net (fun q => decide (q = [])) (fun _ => []) (fun _ => w.heap.size + 1) (fun _ => w.heap.size) (fun _ => .slice none 0 0) w.heap.size ((w.alloc (.map #[] 0)).alloc (knC w.heap.size none (.slice none 0 0))) := by
  have one : ∀ p q : List UInt8, decide (p = []) = true → decide (q = []) = true → p = q := fun p q hp hq => by rw [of_decide_eq_true hp, of_decide_eq_true hq]
  refine ⟨rfl, fun q c h => by simp at h, fun q hq => ?_, fun q hq => ?_, fun q _ => IsOwn.nil _ _, fun _ _ _ => rfl, fun _ _ => by simp, fun p q hp hq _ => one p q hp hq, fun p q hp hq _ => one p q hp hq, fun p q hp hq _ _ _ => one p q hp hq, fun q _ => ⟨by omega, Nat.le_refl _⟩⟩
  · have e : q = [] := of_decide_eq_true hq
    have := World.alloc_heap_new (w.alloc (.map #[] 0)) (knC w.heap.size none (.slice none 0 0))
    rw [show (w.alloc (.map #[] 0)).heap.size = w.heap.size + 1 by simp] at this
    rw [e]
    exact this
  · have e : nxO (fun q => decide (q = [])) (fun _ => w.heap.size + 1) q = fun _ => none := by
      funext c
      simp [nxO]
    rw [e]
    exact (Kw.made w).same (((Below.refl _ (w.alloc (.map #[] 0))).alloc (Nat.le_refl _) _).block _ (by simp))
end Go.Proofs.Ytciaagphclddjaa
namespace Go.Proofs.Ytciaagphclddjaa
set_option linter.unusedSimpArgs false
set_option linter.unusedVariables false
set_option maxRecDepth 100000
open Go.RowKit
set_option maxHeartbeats 4000000 in
theorem kstep_any {D : List UInt8 → Bool} {E : List UInt8 → List Nat} {kb mb : List UInt8 → Nat} {ev : List UInt8 → Value} {B : Nat} {w : World} (h : Net D E kb mb ev B w) (p : List UInt8) (hp : D p = true) (c : UInt8) :
    Calls Try.prog 17 #[.pointer (some ⟨kb p, 0, none⟩), .int .u8 (c.toNat : Int)] w fun e w' => e = .returned (.pointer (some ⟨kb (lsf D (p ++ [c])), 0, none⟩)) ∧ w' = w := by
  have HN := hid h
  have HP := hid hp
  clear h hp
  go_enter Try.func17, Try.ntmps17
  go_wp2_with fail
  go_loopg [0] p.length (fun k v wr => ∃ q : List UInt8, v = .pointer (some ⟨kb q, 0, none⟩) ∧ k = q.length ∧ Hid (D q = true) ∧ Hid (lsf D (q ++ [c]) = lsf D (p ++ [c])) ∧ wr = w)
  case atStart => exact ⟨p, rfl, rfl, HP, hid rfl, rfl⟩
  case round =>
    obtain ⟨q, rfl, rfl, HQ, HLq, rfl⟩ := hrel
    have hk := HN.out.kn q HQ.out
    have look := (HN.out.mp q HQ.out).look c
    have a0 := Lib.cell_of_heap hk 0
    have a1 := Lib.cell_of_heap hk 1
    simp only [List.getElem?_toArray, List.getElem?_cons_zero, List.getElem?_cons_succ] at a0 a1
    clear hk
    cases hd : D (q ++ [c]) with
    | true =>
      have e1 : nxO D kb q c = some (kb (q ++ [c])) := by unfold nxO; rw [if_pos hd]
      have HR : Hid (lsf D (p ++ [c]) = q ++ [c]) := by show _ = _; rw [← HLq.out, lsf_self hd]
      rw [e1] at look
      simp only [ptO, Option.map_some] at look
      clear hd e1
      go_wp2
      go_ret
      exact ⟨by rw [HR.out]; rfl, rfl⟩
    | false =>
      have e1 : nxO D kb q c = none := by unfold nxO; rw [if_neg (by rw [hd]; simp)]
      rw [e1] at look
      simp only [ptO, Option.map_none] at look
      by_cases hq : q = []
      · have e2 : bkO D kb q = none := if_pos hq
        rw [e2] at a1
        simp only [ptO, Option.map_none] at a1
        have HR : Hid (lsf D (p ++ [c]) = q) := by
          show _ = _
          subst hq
          rw [← HLq.out, List.nil_append]
          exact lsf_none c hd
        clear hd e1 e2 hq
        go_wp2
        go_ret
        exact ⟨by rw [HR.out]; rfl, rfl⟩
      · have e2 : bkO D kb q = some (kb (bkF D q)) := if_neg hq
        rw [e2] at a1
        simp only [ptO, Option.map_some] at a1
        have hlt := bkF_len D q hq
        have HR : Hid (D (bkF D q) = true) := bkF_in HN.out.nil q
        have HR2 : Hid (lsf D (bkF D q ++ [c]) = lsf D (p ++ [c])) := by
          show _ = _
          rw [← HLq.out]
          exact (lsf_next HN.out.pcl q c hq hd).symm
        clear hd e1 e2 hq
        go_wp2
        go_roundg (bkF D q).length
        case measure => omega
        case rel => exact ⟨bkF D q, rfl, rfl, HR, HR2, rfl⟩
end Go.Proofs.Ytciaagphclddjaa
namespace Go.Proofs.Ytciaagphclddjaa
set_option maxRecDepth 100000
open Go.Shelf
def lays189_ren : Go.Shelf.Ren := ⟨fun | 189 => 29 | 125 => 33 | 257 => 32 | 128 => 43 | 129 => 44 | 294 => 34 | 295 => 35 | 296 => 36 | 297 => 37 | 298 => 38 | 299 => 39 | 216 => 40 | 300 => 41 | 301 => 42 | 328 => 45 | 329 => 46 | 330 => 47 | 331 => 48 | 332 => 49 | 215 => 50 | 343 => 51 | n => n, fun | 28 => 57 | 3 => 3 | 46 => 70 | 0 => 0 | 51 => 75 | 53 => 27 | 4 => 4 | 183 => 84 | 182 => 83 | 131 => 61 | 5 => 5 | 9 => 9 | 218 => 92 | 222 => 96 | 228 => 99 | 229 => 100 | n => n, fun | n => n⟩
theorem lays189 : Go.Proofs.Lays.n189 Try.prog lays189_ren := {
  mixed := by kernel_rfl
  f125 := Try.func33.trans (congrArg some (by kernel_rfl))
  f128 := Try.func43.trans (congrArg some (by kernel_rfl))
  f129 := Try.func44.trans (congrArg some (by kernel_rfl))
  f189 := Try.func29.trans (congrArg some (by kernel_rfl))
  f215 := Try.func50.trans (congrArg some (by kernel_rfl))
  f216 := Try.func40.trans (congrArg some (by kernel_rfl))
  f257 := Try.func32.trans (congrArg some (by kernel_rfl))
  f294 := Try.func34.trans (congrArg some (by kernel_rfl))
  f295 := Try.func35.trans (congrArg some (by kernel_rfl))
  f296 := Try.func36.trans (congrArg some (by kernel_rfl))
  f297 := Try.func37.trans (congrArg some (by kernel_rfl))
  f298 := Try.func38.trans (congrArg some (by kernel_rfl))
  f299 := Try.func39.trans (congrArg some (by kernel_rfl))
  f300 := Try.func41.trans (congrArg some (by kernel_rfl))
  f301 := Try.func42.trans (congrArg some (by kernel_rfl))
  f328 := Try.func45.trans (congrArg some (by kernel_rfl))
  f329 := Try.func46.trans (congrArg some (by kernel_rfl))
  f330 := Try.func47.trans (congrArg some (by kernel_rfl))
  f331 := Try.func48.trans (congrArg some (by kernel_rfl))
  f332 := Try.func49.trans (congrArg some (by kernel_rfl))
  f343 := Try.func51.trans (congrArg some (by kernel_rfl))
  t0 := Try.underlying0
  a0 := Try.isAgg0
  z0 := Try.sizeOf0
  v0 := Try.zeroValue0
  t3 := Try.underlying3
  a3 := Try.isAgg3
  z3 := Try.sizeOf3
  v3 := Try.zeroValue3
  t4 := Try.underlying4
  a4 := Try.isAgg4
  z4 := Try.sizeOf4
  v4 := Try.zeroValue4
  t5 := Try.underlying5
  a5 := Try.isAgg5
  z5 := Try.sizeOf5
  v5 := Try.zeroValue5
  t9 := Try.underlying9
  a9 := Try.isAgg9
  z9 := Try.sizeOf9
  v9 := Try.zeroValue9
  t28 := Try.underlying57
  a28 := Try.isAgg57
  z28 := Try.sizeOf57
  v28 := Try.zeroValue57
  t46 := Try.underlying70
  a46 := Try.isAgg70
  z46 := Try.sizeOf70
  v46 := Try.zeroValue70
  t51 := Try.underlying75
  a51 := Try.isAgg75
  z51 := Try.sizeOf75
  v51 := Try.zeroValue75
  t53 := Try.underlying27
  a53 := Try.isAgg27
  z53 := Try.sizeOf27
  v53 := Try.zeroValue27
  t131 := Try.underlying61
  a131 := Try.isAgg61
  z131 := Try.sizeOf61
  v131 := Try.zeroValue61
  t182 := Try.underlying83
  a182 := Try.isAgg83
  z182 := Try.sizeOf83
  v182 := Try.zeroValue83
  t183 := Try.underlying84
  a183 := Try.isAgg84
  z183 := Try.sizeOf84
  v183 := Try.zeroValue84
  t218 := Try.underlying92
  a218 := Try.isAgg92
  z218 := Try.sizeOf92
  v218 := Try.zeroValue92
  t222 := Try.underlying96
  a222 := Try.isAgg96
  z222 := Try.sizeOf96
  v222 := Try.zeroValue96
  t228 := Try.underlying99
  a228 := Try.isAgg99
  z228 := Try.sizeOf99
  v228 := Try.zeroValue99
  t229 := Try.underlying100
  a229 := Try.isAgg100
  z229 := Try.sizeOf100
  v229 := Try.zeroValue100 }
open Go.Sort Go.RowKit in
theorem slices_Sort_int (blk off cap : Nat) (zs : List Int) (w : World) (hH : Holds (Value.int .i64) w blk off zs.toArray) (hblk : blk < w.heap.size) (hsz : zs.length < 4611686018427387904) :
    Calls Try.prog 29 #[.slice (some ⟨blk, off, none⟩) zs.length cap] w fun e w' =>
      e = .returned (.tuple #[]) ∧ ∃ n os, w' = grow (putRow (Value.int .i64) (Sort.ahead w n) blk off (zs.mergeSort fun x y => decide (x ≤ y)).toArray) os := Any.slices_Sort_int lays189 blk off cap zs w hH hblk hsz
def lays264_ren : Go.Shelf.Ren := ⟨fun | 264 => 31 | n => n, fun | 53 => 27 | 46 => 70 | n => n, fun | n => n⟩
theorem lays264 : Go.Proofs.Lays.n264 Try.prog lays264_ren := {
  mixed := by kernel_rfl
  f264 := Try.func31.trans (congrArg some (by kernel_rfl))
  t46 := Try.underlying70
  a46 := Try.isAgg70
  z46 := Try.sizeOf70
  v46 := Try.zeroValue70
  t53 := Try.underlying27
  a53 := Try.isAgg27
  z53 := Try.sizeOf27
  v53 := Try.zeroValue27 }
open Go.RowKit Go.Lib in
theorem bits_Mul64 (x y : Nat) (hx : x < 18446744073709551616) (hy : y < 18446744073709551616) (w : World) :
    Calls Try.prog 31 #[.int .u64 x, .int .u64 y] w fun e w' => e = .returned (.tuple #[.int .u64 ((x * y / 18446744073709551616 : Nat) : Int), .int .u64 ((x * y % 18446744073709551616 : Nat) : Int)]) ∧ w' = w := Any.bits_Mul64 lays264 x y hx hy w
def lays212_ren : Go.Shelf.Ren := ⟨fun | 212 => 27 | 263 => 30 | 264 => 31 | n => n, fun | 46 => 70 | 51 => 75 | 146 => 76 | 53 => 27 | 148 => 78 | n => n, fun | n => n⟩
theorem lays212 : Go.Proofs.Lays.n212 Try.prog lays212_ren := {
  mixed := by kernel_rfl
  f212 := Try.func27.trans (congrArg some (by kernel_rfl))
  f263 := Try.func30.trans (congrArg some (by kernel_rfl))
  f264 := Try.func31.trans (congrArg some (by kernel_rfl))
  t46 := Try.underlying70
  a46 := Try.isAgg70
  z46 := Try.sizeOf70
  v46 := Try.zeroValue70
  t51 := Try.underlying75
  a51 := Try.isAgg75
  z51 := Try.sizeOf75
  v51 := Try.zeroValue75
  t53 := Try.underlying27
  a53 := Try.isAgg27
  z53 := Try.sizeOf27
  v53 := Try.zeroValue27
  t146 := Try.underlying76
  a146 := Try.isAgg76
  z146 := Try.sizeOf76
  v146 := Try.zeroValue76
  t148 := Try.underlying78
  a148 := Try.isAgg78
  z148 := Try.sizeOf78
  v148 := Try.zeroValue78 }
open Go.RowKit Go.Lib in
/-- math/bits.Mul: "Mul returns the full-width product of x and y": on a machine of 64 bits: Mul64's. (LAID: no walk: one application.) -/
theorem bits_Mul (x y : Nat) (hx : x < 18446744073709551616) (hy : y < 18446744073709551616) (w : World) :
    Calls Try.prog 27 #[.int .u64 x, .int .u64 y] w fun e w' => e = .returned (.tuple #[.int .u64 ((x * y / 18446744073709551616 : Nat) : Int), .int .u64 ((x * y % 18446744073709551616 : Nat) : Int)]) ∧ w' = w := Any.bits_Mul lays212 x y hx hy w
end Go.Proofs.Ytciaagphclddjaa
namespace Go.Proofs.Ytciaagphclddjaa
set_option linter.unusedSimpArgs false
set_option linter.unusedVariables false
set_option maxRecDepth 100000
open Go.RowKit Go.Shelf
attribute [local go_sem] Oper.semAt_some
theorem isCells_at {w : World} {b off : Nat} {l : List Nat} (h : IsAt w b off l) (j : Nat) (u : Value) (hj : (isCells l)[j]? = some u) : w.cell? ((⟨b, off, none⟩ : Addr).add j) = some u := by
  rw [Addr.add_lit]
  unfold isCells at hj
  rw [List.getElem?_map] at hj
  cases hl : l[j]? with
  | none => rw [hl] at hj; cases hj
  | some x =>
    rw [hl] at hj
    simp at hj
    subst hj
    exact h j x hl
/-- append of all numbers of a slice to an empty one. -/
theorem wpList_append_isa {ops : Array Oper} {rest : List Oper} {o : Oper} {a : Act} {Q : Exit → Act → World → Prop} {w : World} (hgd : o.guard = none) (s x : Operand)
    (ho : o.op = .call { callee := .builtin .append, args := #[s, x], argTypes := #[57, 57] })
    (B : Nat) (v : Value) (hs : a.eval s = v) (hown : IsOwn w B v []) (l : List Nat) (h0 : 0 < l.length) (h20 : l.length ≤ 1000000) (b off cap : Nat) (hx : a.eval x = .slice (some ⟨b, off, none⟩) l.length cap)
    (hN : IsAt w b off l) (hbase : B ≤ w.heap.size)
    (h : ∀ g c w', IsOwn w' B (.slice (some ⟨g, 0, none⟩) l.length c) l → w.grownBy w' v.ownBlock → B ≤ g → g < w'.heap.size → wpList Try.prog ops Q rest (a.put o.dst (.slice (some ⟨g, 0, none⟩) l.length c)) w') : wpList Try.prog ops Q (o :: rest) a w := by
  have hinfo : (Try.prog.info? 3).map (fun i => (i.zero, i.size, i.bytes)) = some (some (.int .i64 0), 1, 8) := by kernel_rfl
  obtain ⟨i0, hi, hz0, hz1, hz2⟩ := info_parts hinfo
  refine wpList_append_lies w hgd s x 57 ho B 3 i0 _ 1 8 Try.underlying57 hi hz0 hz1 hz2 rfl (by decide) v 0 [] hs hown ⟨b, off, none⟩ l.length cap (isCells l) hx (by simp [isCells]) ?_ (by simp [isCells, Value.oneCell']) h0 (by unfold maxLen; omega) (by omega) hbase w.heap.size rfl ?_
  · exact fun j u hj => isCells_at hN j u hj
  · intro g c w' h1 h2 h3 h4
    rw [Nat.zero_add, List.nil_append] at h1
    rw [Nat.zero_add]
    have hg : B ≤ g := by
      rcases h3 with h3 | h3
      · rcases hown.2 with ⟨hv, _⟩ | ⟨g', cap', cur, hv, hb, _⟩
        · rw [hv] at h3; cases h3
        · rw [hv] at h3
          injection h3 with h3
          simp at h3
          omega
      · omega
    exact h g c w' h1 h2 hg h4
set_option maxHeartbeats 1000000 in
theorem iclone_any (l : List Nat) (v : Value) (B : Nat) (w : World) (h : IsOwn w B v l) (h20 : l.length ≤ 20) (hn : l = [] → v = .slice none 0 0) :
    Calls Try.prog 28 #[v] w fun e w' => ∃ u, e = .returned u ∧ IsOwn w' w.heap.size u l ∧ (l = [] → u = .slice none 0 0) ∧ Below w.heap.size w w' := by
  by_cases h0 : l = []
  · rw [hn h0]
    have HR : Hid (IsOwn w w.heap.size (.slice none 0 0) l) := by subst h0; exact IsOwn.nil _ _
    have hq : ∀ w, (binOp BinOp.eql 57 (.slice none 0 0) (.slice none 0 0)).run Try.prog w = .ok (.bool true) w := fun _ => by kernel_rfl
    clear h hn h0
    go_enter Try.func28, Try.ntmps28
    go_wp2
    go_ret
    exact ⟨_, rfl, HR.out, fun _ => rfl, Below.refl _ _⟩
  · obtain ⟨a, cap, hv⟩ := h.form
    have h1 : 0 < l.length := List.length_pos_iff.2 h0
    obtain ⟨a', c', hv', _, h' | ⟨b, o, ha, hlt, hN⟩⟩ := h.isIn (by unfold maxLen; omega)
    · exact absurd h' h0
    rw [hv'] at hv
    injection hv with e1 e2 e3
    subst hv'
    subst ha
    have hN2 := hid hN
    have H0 := hid h0
    have hq : ∀ w, (binOp BinOp.eql 57 (.slice (some ⟨b, o, none⟩) l.length c') (.slice none 0 0)).run Try.prog w = .ok (.bool false) w := fun _ => by kernel_rfl
    clear hN h hn h0 e1 e2 e3
    go_enter Try.func28, Try.ntmps28
    go_wp2_with (at_builtin; refine wpList_append_isa rfl _ _ rfl w.heap.size _ rfl ?hown l h1 (by omega) b o c' rfl ?hat ?hbs ?_)
    case hown => exact World.ownsRow_lit w #[] 0 (Nat.le_refl _) (by unfold maxLen; omega) rfl
    case hat => exact hN2.out.below ((Below.refl _ _).alloc (Nat.le_refl _) _) hlt
    case hbs => simp
    intro g c w' hown hgr hg hgl
    have hb : Below w.heap.size w w' := ((Below.refl _ _).alloc (Nat.le_refl _) (.cells #[] 3)).grown hgr (by simp) (fun k e => by simp [Value.ownBlock] at e; omega)
    have HR : Hid (IsOwn w' w.heap.size (.slice (some ⟨g, 0, none⟩) l.length c) l ∧ Below w.heap.size w w') := ⟨hown, hb⟩
    clear hown hgr hb hN2 hq
    go_wp2
    go_ret
    exact ⟨_, rfl, HR.out.1, fun h => absurd h H0.out, HR.out.2⟩
/-- What the sort asks of a row, and what it leaves. -/
theorem isCells_int (l : List Nat) : isCells l = (l.map fun x : Nat => (x : Int)).map (Value.int .i64) := by simp [isCells, List.map_map, Function.comp_def]
theorem isOwn_sorted {w : World} {B g cap n : Nat} {os : Array Obj} {l l' : List Nat} (h : IsOwn w B (.slice (some ⟨g, 0, none⟩) l.length cap) l) (hl : l'.length = l.length) :
    IsOwn (Sort.grow (Sort.putRow (Value.int .i64) (Sort.ahead w n) g 0 (l'.map fun x : Nat => (x : Int)).toArray) os) B (.slice (some ⟨g, 0, none⟩) l'.length cap) l' := by
  rcases h.2 with ⟨hv, _⟩ | ⟨g', cap', cur, hv, hb, hg, hc, h2, h3, h4⟩
  · cases hv
  · injection hv with e1 e2 e3
    injection e1 with e1
    injection e1 with e1
    subst e1 e3
    have := ownsRow_sortedI (w := w) (base := B) (n := n) (os := os) (ss := l.map fun x : Nat => (x : Int)) (ts := l'.map fun x : Nat => (x : Int)) (by simp [hl]) hb hg (by simpa using hc) h2 h3
    unfold IsOwn
    rw [isCells_int]
    simpa [hl] using this
theorem isOwn_holds {w : World} {B g cap : Nat} {l : List Nat} (h : IsOwn w B (.slice (some ⟨g, 0, none⟩) l.length cap) l) : Sort.Holds (Value.int .i64) w g 0 (l.map fun x : Nat => (x : Int)).toArray := by
  rcases h.2 with ⟨hv, _⟩ | ⟨g', cap', cur, hv, hb, hg, hc, h2, h3, h4⟩
  · cases hv
  · injection hv with e1 e2 e3
    injection e1 with e1
    injection e1 with e1
    subst e1 e3
    refine holds_of_blockI hg ?_
    rw [List.length_map, ← isCells_int]
    simpa using h4
end Go.Proofs.Ytciaagphclddjaa
