/- Package auto: its maps: sets of steps, places and moves as keys; what a map of states holds. Package auto: what an auto keeps, in memory. Package auto: forget. Package auto: keep. -/
import Derived.Test.YtphcncgdodhlbaaDoorY17
import Derived.Test.YtphcncgdodhlbaaDoorY06
import Derived.DeepKeys4
import Derived.Maps.OwnSet
import Derived.Maps.Range
import Derived.Laws.EntriesVeiled
import Derived.Deep.RegionHeld3
import Derived.Deep.CutRange
import Derived.BigQuiet
namespace Go.Proofs.YtphcncgdodhlbaaDoor
set_option linter.unusedSimpArgs false
set_option linter.unusedVariables false
set_option maxRecDepth 100000
open Go.RowKit

def stepsL (p : Nat → Bool) : Lit := .string (keyBytes [.int .u64 (wd p 0), .int .u64 (wd p 1), .int .u64 (wd p 2), .int .u64 (wd p 3)])
def placeL (fi la : Bool) : Lit := .string (keyBytes [.bool fi, .bool la])
def moveL (c : UInt8) (fi la : Bool) : Lit := .string (keyBytes [.int .u8 (c.toNat : Int), .bool fi, .bool la])
/-- A move, as a value. -/
def mvV (c : UInt8) (fi la : Bool) : Value := .agg #[.int .u8 (c.toNat : Int), .bool fi, .bool la]
theorem auto_laid : laidOutB Tryd.prog = true := by kernel_rfl
theorem steps_row : (119 : TypeId) < Tryd.prog.types.size := of_decide_eq_true (by kernel_rfl)
theorem steps_wide : (match Tryd.prog.underlying 119 with | some (.array _ _) | some (.struct _) => true | _ => false) = true := by kernel_rfl
theorem steps_keyed : Maps.Keyed Tryd.prog 119 := Maps.Keyed.of_law (deep_law_laid auto_laid (m := 3) (by omega) steps_row (by kernel_rfl) steps_wide)
theorem place_row : (116 : TypeId) < Tryd.prog.types.size := of_decide_eq_true (by kernel_rfl)
theorem place_wide : (match Tryd.prog.underlying 116 with | some (.array _ _) | some (.struct _) => true | _ => false) = true := by kernel_rfl
theorem place_keyed : Maps.Keyed Tryd.prog 116 := Maps.Keyed.of_law (deep_law_laid auto_laid (m := 3) (by omega) place_row (by kernel_rfl) place_wide)
theorem move_row : (126 : TypeId) < Tryd.prog.types.size := of_decide_eq_true (by kernel_rfl)
theorem move_wide : (match Tryd.prog.underlying 126 with | some (.array _ _) | some (.struct _) => true | _ => false) = true := by kernel_rfl
theorem move_keyed : Maps.Keyed Tryd.prog 126 := Maps.Keyed.of_law (deep_law_laid auto_laid (m := 3) (by omega) move_row (by kernel_rfl) move_wide)
theorem typeN_pos : ∃ d, Tryd.prog.types.size = d + 3 := ⟨Tryd.prog.types.size - 3, (Nat.sub_add_cancel (show 3 ≤ Tryd.prog.types.size from of_decide_eq_true (by kernel_rfl))).symm⟩
theorem place_key (fi la : Bool) : keyOf Tryd.prog 116 (pcV fi la) = some (placeL fi la) := by
  have hk : Tryd.prog.keyType 116 = true := by kernel_rfl
  have hf : (pcV fi la).formed Tryd.prog 116 = true := by kernel_rfl
  obtain ⟨d, hd⟩ := typeN_pos
  have hc : Tryd.prog.cellsOf 116 = 2 := by kernel_rfl
  have hc1 : Tryd.prog.cellsOf 4 = 1 := by kernel_rfl
  unfold keyOf
  rw [Tryd.underlying116]
  simp only [hk, hf, Bool.and_self, if_true, hd]
  simp [pcV, placeL, Value.cells, Program.keyLits, Tryd.underlying116, Tryd.underlying4, hc, hc1]
theorem wf_u64 {x : Int} (h : okW x) : (Lit.int .u64 x).wf = true := WalkArith.wf_u64 (by unfold okW at h; omega)
theorem wf_u8 (c : UInt8) : (Lit.int .u8 (c.toNat : Int)).wf = true := WalkArith.wf_u8 (by have := c.toNat_lt; omega)
theorem steps_key (p : Nat → Bool) : keyOf Tryd.prog 119 (stV p) = some (stepsL p) := by
  have w0 := wf_u64 (wd_ok p 0)
  have w1 := wf_u64 (wd_ok p 1)
  have w2 := wf_u64 (wd_ok p 2)
  have w3 := wf_u64 (wd_ok p 3)
  unfold stV stepsL
  generalize wd p 0 = a0 at *
  generalize wd p 1 = a1 at *
  generalize wd p 2 = a2 at *
  generalize wd p 3 = a3 at *
  have hk : Tryd.prog.keyType 119 = true := by kernel_rfl
  have hf : (Value.agg #[.int .u64 a0, .int .u64 a1, .int .u64 a2, .int .u64 a3]).formed Tryd.prog 119 = true := by kernel_rfl
  obtain ⟨d, hd⟩ := typeN_pos
  have hc : Tryd.prog.cellsOf 119 = 4 := by kernel_rfl
  have hc2 : Tryd.prog.cellsOf 41 = 4 := by kernel_rfl
  have hc1 : Tryd.prog.cellsOf 40 = 1 := by kernel_rfl
  unfold keyOf
  rw [Tryd.underlying119]
  simp only [hk, hf, Bool.and_self, if_true, hd]
  simp [Value.cells, Program.keyLits, Tryd.underlying119, Tryd.underlying41, Tryd.underlying40, hc, hc1, hc2, w0, w1, w2, w3, show List.range 4 = [0, 1, 2, 3] from rfl]
theorem move_key (c : UInt8) (fi la : Bool) : keyOf Tryd.prog 126 (mvV c fi la) = some (moveL c fi la) := by
  have w0 := wf_u8 c
  unfold mvV moveL
  generalize (c.toNat : Int) = a0 at *
  have hk : Tryd.prog.keyType 126 = true := by kernel_rfl
  have hf : (Value.agg #[.int .u8 a0, .bool fi, .bool la]).formed Tryd.prog 126 = true := by kernel_rfl
  obtain ⟨d, hd⟩ := typeN_pos
  have hc : Tryd.prog.cellsOf 126 = 3 := by kernel_rfl
  have hc2 : Tryd.prog.cellsOf 116 = 2 := by kernel_rfl
  have hc1 : Tryd.prog.cellsOf 4 = 1 := by kernel_rfl
  have hc3 : Tryd.prog.cellsOf 5 = 1 := by kernel_rfl
  unfold keyOf
  rw [Tryd.underlying126]
  simp only [hk, hf, Bool.and_self, if_true, hd]
  simp [Value.cells, Program.keyLits, Tryd.underlying126, Tryd.underlying116, Tryd.underlying4, Tryd.underlying5, hc, hc1, hc2, hc3, w0]
  rw [if_pos (by intro i x; rcases (by omega : i = 0 ∨ i = 1) with rfl | rfl <;> simp)]
  rfl
theorem steps_inj {p q : Nat → Bool} (h : stepsL p = stepsL q) : wd p 0 = wd q 0 ∧ wd p 1 = wd q 1 ∧ wd p 2 = wd q 2 ∧ wd p 3 = wd q 3 := by
  have h1 := steps_key p
  have h2 := steps_key q
  rw [h] at h1
  have := steps_keyed.inj h1 h2
  unfold stV at this
  simpa using this
theorem sub_ext {ss : List St} (hl : ss.length ≤ 200) {p q : Nat → Bool} (hp : Sub ss p) (hq : Sub ss q) (h : stepsL p = stepsL q) : p = q := by
  obtain ⟨h0, h1, h2, h3⟩ := steps_inj h
  funext j
  by_cases hj : j < 256
  · have key : ∀ i, i < 4 → wd p i = wd q i := fun i hi => by
      rcases (by omega : i = 0 ∨ i = 1 ∨ i = 2 ∨ i = 3) with rfl | rfl | rfl | rfl <;> assumption
    have a1 := wd_bit p (j / 64) (j % 64) (by omega)
    have a2 := wd_bit q (j / 64) (j % 64) (by omega)
    rw [key (j / 64) (by omega), a2, show 64 * (j / 64) + j % 64 = j by omega] at a1
    exact a1.symm
  · have n1 : ∀ r : Nat → Bool, Sub ss r → r j = false := fun r hr => by
      cases hrj : r j with
      | false => rfl
      | true =>
        have := hr j hrj
        omega
    rw [n1 p hp, n1 q hq]
theorem place_inj {fi la fi' la' : Bool} (h : placeL fi la = placeL fi' la') : fi = fi' ∧ la = la' := by
  have h1 := place_key fi la
  have h2 := place_key fi' la'
  rw [h] at h1
  have := place_keyed.inj h1 h2
  simpa [pcV] using this
theorem move_inj {c c' : UInt8} {fi la fi' la' : Bool} (h : moveL c fi la = moveL c' fi' la') : c = c' ∧ fi = fi' ∧ la = la' := by
  have h1 := move_key c fi la
  have h2 := move_key c' fi' la'
  rw [h] at h1
  have := move_keyed.inj h1 h2
  unfold mvV at this
  simp at this
  exact ⟨UInt8.toNat_inj.1 (by omega), this.2.1, this.2.2⟩
/-- How an element of a map reads: as itself. -/
def asIs (v : Value) : Option (DataW Value × List MemPlace) := some (.held v, [])
/-- The map in block M, of k keys of type kt, leads at a key to a block only if ok. -/
def Km (w : World) (kt : TypeId) (M k : Nat) (ok : Lit → Nat → Prop) : Prop :=
  ∃ D : DataW Value, w.ownsMap Tryd.prog kt asIs M (Maps.size D) D ∧ Maps.size D = k ∧ ∀ kl, Maps.has D kl = true → ∃ b, ok kl b ∧ ∀ z, D.atKey kl z = .held (.pointer (some ⟨b, 0, none⟩))
theorem Km.made (w : World) (kt : TypeId) (ok : Lit → Nat → Prop) : Km (w.alloc (.map #[] 0)) kt w.heap.size 0 ok :=
  ⟨.map [], World.ownsMap_made w _ _ _, rfl, fun kl h => by simp [Maps.has] at h⟩
theorem Km.lt {w : World} {kt : TypeId} {M k : Nat} {ok : Lit → Nat → Prop} (h : Km w kt M k ok) : M < w.heap.size := by
  obtain ⟨D, h, _⟩ := h
  exact h.lt
theorem Km.kept {w w' : World} {kt : TypeId} {M k : Nat} {ok : Lit → Nat → Prop} {row : Option Nat} (h : Km w kt M k ok) (hg : w.grownBy w' row) (hne : some M ≠ row) : Km w' kt M k ok := by
  obtain ⟨D, h, hk⟩ := h
  exact ⟨D, h.kept hg hne, hk⟩
theorem Km.below {w w' : World} {kt : TypeId} {M k : Nat} {ok : Lit → Nat → Prop} (h : Km w kt M k ok) (hb : Below w.heap.size w w') : Km w' kt M k ok := h.kept (gr_below hb none) (by simp)
theorem Km.mono {w : World} {kt : TypeId} {M k : Nat} {ok ok' : Lit → Nat → Prop} (h : Km w kt M k ok) (hm : ∀ l b, ok l b → ok' l b) : Km w kt M k ok' := by
  obtain ⟨D, h, hs, hk⟩ := h
  exact ⟨D, h, hs, fun kl hh => by obtain ⟨b, h1, h2⟩ := hk kl hh; exact ⟨b, hm _ _ h1, h2⟩⟩
theorem Km.heap {w : World} {kt : TypeId} {M k : Nat} {ok : Lit → Nat → Prop} (h : Km w kt M k ok) : ∃ es clock, w.heap[M]? = some (.map es clock) := by
  obtain ⟨D, ⟨es, clock, hb, _⟩, _⟩ := h
  exact ⟨es, clock, hb⟩
theorem zero_state (w : World) : (zeroValue 113).run Tryd.prog w = .ok (.pointer none) w := by kernel_rfl
/-- What is looked up: a block, or none: then the key is not there. -/
theorem Km.look {w : World} {kt mt : TypeId} {M k : Nat} {ok : Lit → Nat → Prop} (h : Km w kt M k ok) (K : Maps.Keyed Tryd.prog kt) (hu : Tryd.prog.underlying mt = some (.map kt 113)) {key : Value} {kl : Lit} (hkey : keyOf Tryd.prog kt key = some kl) :
    (∃ b, ok kl b ∧ ∀ w' : World, w'.heap[M]? = w.heap[M]? → (Instr.lookup mt (.map (some M)) key false).run Tryd.prog w' = .ok (.pointer (some ⟨b, 0, none⟩)) w') ∨
    ((∀ w' : World, w'.heap[M]? = w.heap[M]? → (Instr.lookup mt (.map (some M)) key false).run Tryd.prog w' = .ok (.pointer none) w') ∧
      (k < maxLen → ∀ (w0 : World) (b : Nat) (ok' : Lit → Nat → Prop), w0.heap[M]? = w.heap[M]? → (∀ l c, ok l c → ok' l c) → ok' kl b → ∃ w', (Instr.mapUpdate mt (.map (some M)) key (.pointer (some ⟨b, 0, none⟩))).run Tryd.prog w0 = .ok () w' ∧ Km w' kt M (k + 1) ok' ∧ w0.grownBy w' (some M))) := by
  obtain ⟨D, h, hs, hk⟩ := h
  have hown : ∀ w' : World, w'.heap[M]? = w.heap[M]? → w'.ownsMap Tryd.prog kt asIs M (Maps.size D) D := fun w' e => by
    obtain ⟨es, clock, hb, r⟩ := h
    exact ⟨es, clock, e.trans hb, r⟩
  have hkl := K.key hkey
  cases hh : Maps.has D kl with
  | true =>
    obtain ⟨b, hx, hat⟩ := hk _ hh
    refine Or.inl ⟨b, hx, fun w' e' => ?_⟩
    obtain ⟨v, ps, hrun, hv⟩ := (hown w' e').lookup K hu (zero_state w') (zd := .held _) (zp := []) rfl hkey
    rw [hat] at hv
    simp [asIs] at hv
    rw [hv.1] at hrun
    exact hrun
  | false =>
    refine Or.inr ⟨fun w' e' => ?_, fun hlt w0 b ok' e0 hm hb => ?_⟩
    · obtain ⟨v, ps, hrun, hv⟩ := (hown w' e').lookup K hu (zero_state w') (zd := .held _) (zp := []) rfl hkey
      rw [Maps.atKey_of_not_has hh] at hv
      simp [asIs] at hv
      rw [hv.1] at hrun
      exact hrun
    · have h0 := hown w0 e0
      obtain ⟨w', hrun, hown', hg⟩ := h0.update K hu (by omega) hkey (val := .pointer (some ⟨b, 0, none⟩)) (d := .held (.pointer (some ⟨b, 0, none⟩))) (ps := []) rfl
      have hsz : Maps.size (D.put kl (.held (.pointer (some ⟨b, 0, none⟩)))) = k + 1 := by
        rw [Maps.size_put (h0.tidy K), hh, hs]
        rfl
      refine ⟨w', hrun, ⟨D.put kl (.held (.pointer (some ⟨b, 0, none⟩))), ?_, hsz, fun kl' hh' => ?_⟩, hg⟩
      · rw [hsz, ← hs]
        exact hown'
      · by_cases e : kl' = kl
        · subst e
          exact ⟨b, hb, fun z => Maps.atKey_put_same h0.isMap hkl _ _⟩
        · rw [Maps.has_put_other e] at hh'
          obtain ⟨c, h4, h5⟩ := hk kl' hh'
          exact ⟨c, hm _ _ h4, fun z => by rw [Maps.atKey_put_other e]; exact h5 z⟩
/-- How many keys there are, where they are of so many. -/
theorem Km.small {w : World} {kt : TypeId} {M k : Nat} {ok : Lit → Nat → Prop} (h : Km w kt M k ok) (K : Maps.Keyed Tryd.prog kt) (N : Nat) (f : Nat → Lit) (hf : ∀ kl b, ok kl b → ∃ c, c < N ∧ kl = f c) : k ≤ N := by
  obtain ⟨D, h, hs, hk⟩ := h
  obtain ⟨es, rfl, hp, hl⟩ := h.entries K
  have h1 : (es.map (·.1)).length ≤ N := by
    refine pigeon f N _ (List.pairwise_map.2 hp) (fun kl hm => ?_)
    obtain ⟨q, hq, rfl⟩ := List.mem_map.1 hm
    have : Maps.has (DataW.map es) q.1 = true := by
      rw [Maps.has_eq, List.any_eq_true]
      exact ⟨q, hq, WideAt.sameKey_self (hl q hq)⟩
    obtain ⟨b, hb, _⟩ := hk _ this
    exact hf _ _ hb
  rw [← hs]
  simpa [Maps.size] using h1
/-- How many there are, told. -/
theorem Km.len {w : World} {kt mt : TypeId} {M k : Nat} {ok : Lit → Nat → Prop} (h : Km w kt M k ok) (hu : Tryd.prog.underlying mt = some (.map kt 113)) (ty : TypeId) : ∀ w' : World, w'.heap[M]? = w.heap[M]? → (Builtin.len_ #[mt] ty #[.map (some M)]).run Tryd.prog w' = .ok (.int .i64 (k : Int)) w' := fun w' e => by
  obtain ⟨D, h, hs, _⟩ := h
  have hown : w'.ownsMap Tryd.prog kt asIs M (Maps.size D) D := by
    obtain ⟨es, clock, hb, r⟩ := h
    exact ⟨es, clock, e.trans hb, r⟩
  have := hown.len hu ty
  rw [hs] at this
  exact this
end Go.Proofs.YtphcncgdodhlbaaDoor
namespace Go.Proofs.YtphcncgdodhlbaaDoor
set_option linter.unusedSimpArgs false
set_option linter.unusedVariables false
set_option maxRecDepth 100000
open Go.RowKit
/-- An auto's program, where it lies, and from where on all that it keeps lies (E: what is there besides, and none of its). -/
structure Ax where
  ss : List St
  ab : Nat
  b : Nat
  cap : Nat
  B : Nat
  E : Nat → Prop
structure Ax.Good (c : Ax) : Prop where
  fault : stepsF c.ss = 0
  ok : SsOk c.ss
  tab : 1 < c.B
abbrev Ax.u (c : Ax) : Value := .pointer (some ⟨c.ab, 0, none⟩)
/-- A state's cells. -/
noncomputable abbrev stC (ss : List St) (p : Nat → Bool) (M : Nat) : Obj := .cells #[.int .u64 (wd p 0), .int .u64 (wd p 1), .int .u64 (wd p 2), .int .u64 (wd p 3), .bool (donF ss p), .map (some M)] 122 (0, 0)
abbrev auC (c : Ax) (K Mb : Nat) : Obj := .cells #[.slice (some ⟨c.b, 0, none⟩) c.ss.length c.cap, .map (some K), .map (some Mb)] 111 (0, 0)
abbrev okK (g : Nat → Option (Nat → Bool)) : Lit → Nat → Prop := fun kl σ => ∃ p, kl = stepsL p ∧ g σ = some p
noncomputable abbrev okB (ss : List St) (g : Nat → Option (Nat → Bool)) : Lit → Nat → Prop := fun kl σ => ∃ fi la, kl = placeL fi la ∧ g σ = some (begS ss fi la)
noncomputable abbrev okM (ss : List St) (g : Nat → Option (Nat → Bool)) (p : Nat → Bool) : Lit → Nat → Prop := fun kl σ => ∃ (x : UInt8) (fi la : Bool), kl = moveL x fi la ∧ g σ = some (nxtS ss p x.toNat fi la)
/-- g: which blocks are states, and of which set; m: where the map of each lies; K, Mb: the auto's two maps; k: how many sets it keeps. -/
structure AuI (c : Ax) (g : Nat → Option (Nat → Bool)) (m : Nat → Nat) (K Mb k : Nat) (w : World) : Prop where
  au : w.heap[c.ab]? = some (auC c K Mb)
  steps : SsAt w c.b 0 c.ss
  blt : c.b < w.heap.size
  kn : Km w 119 K k (okK g)
  k100 : k ≤ 100
  bg : ∃ kb, Km w 116 Mb kb (okB c.ss g)
  sub : ∀ σ p, g σ = some p → Sub c.ss p
  st : ∀ σ p, g σ = some p → w.heap[σ]? = some (stC c.ss p (m σ))
  mv : ∀ σ p, g σ = some p → ∃ kn, Km w 126 (m σ) kn (okM c.ss g p)
  inj : ∀ σ τ p q, g σ = some p → g τ = some q → m σ = m τ → σ = τ
  mK : ∀ σ p, g σ = some p → m σ ≠ K ∧ m σ ≠ Mb
  KM : K ≠ Mb
  lo : c.B ≤ K ∧ c.B ≤ Mb ∧ c.B ≤ c.ab ∧ c.B ≤ c.b
  loS : ∀ σ p, g σ = some p → c.B ≤ σ ∧ c.B ≤ m σ ∧ σ ≠ c.ab
  out : ∀ k, c.E k → k < w.heap.size ∧ k ≠ K ∧ k ≠ Mb ∧ k ≠ c.ab
  outS : ∀ σ p, g σ = some p → ¬ c.E (m σ)
/-- The states stay states. -/
def Gle (g g' : Nat → Option (Nat → Bool)) : Prop := ∀ σ p, g σ = some p → g' σ = some p
theorem Gle.refl (g : Nat → Option (Nat → Bool)) : Gle g g := fun _ _ h => h
theorem Gle.trans {g g' g'' : Nat → Option (Nat → Bool)} (h : Gle g g') (h' : Gle g' g'') : Gle g g'' := fun σ p e => h' σ p (h σ p e)
theorem AuI.below {c : Ax} {g : Nat → Option (Nat → Bool)} {m : Nat → Nat} {K Mb k : Nat} {w w' : World} (h : AuI c g m K Mb k w) (hb : Below w.heap.size w w') : AuI c g m K Mb k w' where
  au := (hb.block _ (heap_lt h.au)).trans h.au
  steps := h.steps.below hb h.blt
  blt := Nat.lt_of_lt_of_le h.blt hb.size
  kn := h.kn.below hb
  k100 := h.k100
  bg := by obtain ⟨kb, h1⟩ := h.bg; exact ⟨kb, h1.below hb⟩
  sub := h.sub
  st := fun σ p e => (hb.block _ (heap_lt (h.st σ p e))).trans (h.st σ p e)
  mv := fun σ p e => by obtain ⟨kn, h1⟩ := h.mv σ p e; exact ⟨kn, h1.below hb⟩
  inj := h.inj
  mK := h.mK
  KM := h.KM
  lo := h.lo
  loS := h.loS
  out := fun k e => ⟨Nat.lt_of_lt_of_le (h.out k e).1 hb.size, (h.out k e).2⟩
  outS := h.outS
/-- Behind a store into a map, cells lie as they lay. -/
theorem cells_map {w w' : World} {M k : Nat} {es : Array MapEntry} {cl : Nat} (hM : w.heap[M]? = some (.map es cl)) (hg : w.grownBy w' (some M)) {o : Obj} (ho : w.heap[k]? = some o) (hc : o.isCells = true) : w'.heap[k]? = some o := by
  refine (hg.block k (heap_lt ho) (fun e => ?_)).trans ho
  injection e with e
  subst e
  rw [hM] at ho
  obtain rfl := Option.some.inj ho
  cases hc
theorem ssAt_map {w w' : World} {M b off : Nat} {ss : List St} (h : SsAt w b off ss) (hg : w.grownBy w' (some M)) (hlt : b < w.heap.size) (hne : b ≠ M) : SsAt w' b off ss := h.grown hg hlt (by intro e; injection e with e; exact hne e)
theorem ssAt_not_map {w : World} {M b off : Nat} {ss : List St} {es : Array MapEntry} {cl : Nat} (h : SsAt w b off ss) (h0 : 0 < ss.length) (hM : w.heap[M]? = some (.map es cl)) : b ≠ M := fun e => by
  obtain ⟨c0, _⟩ := h 0 ss[0] (List.getElem?_eq_getElem h0)
  obtain ⟨ob, h1, h2⟩ := cell_block c0
  rw [e, hM] at h1
  obtain rfl := Option.some.inj h1
  cases h2
/-- One map of the auto is written. -/
theorem AuI.turn {c : Ax} (hc : c.Good) {g : Nat → Option (Nat → Bool)} {m : Nat → Nat} {K Mb k k' M : Nat} {w w' : World} (h : AuI c g m K Mb k w) {es : Array MapEntry} {cl : Nat} (hM : w.heap[M]? = some (.map es cl)) (hg : w.grownBy w' (some M))
    (hkn : Km w' 119 K k' (okK g)) (hk' : k' ≤ 100) (hbg : ∃ kb, Km w' 116 Mb kb (okB c.ss g)) (hmv : ∀ σ p, g σ = some p → ∃ kn, Km w' 126 (m σ) kn (okM c.ss g p)) : AuI c g m K Mb k' w' where
  au := cells_map hM hg h.au rfl
  steps := ssAt_map h.steps hg h.blt (ssAt_not_map h.steps (stepsF_zero hc.fault).2.1 hM)
  blt := Nat.lt_of_lt_of_le h.blt hg.size
  kn := hkn
  k100 := hk'
  bg := hbg
  sub := h.sub
  st := fun σ p e => cells_map hM hg (h.st σ p e) rfl
  mv := hmv
  inj := h.inj
  mK := h.mK
  KM := h.KM
  lo := h.lo
  loS := h.loS
  out := fun k e => ⟨Nat.lt_of_lt_of_le (h.out k e).1 hg.size, (h.out k e).2⟩
  outS := h.outS
theorem km_other {w w' : World} {kt : TypeId} {M N k : Nat} {ok : Lit → Nat → Prop} (h : Km w kt N k ok) (hg : w.grownBy w' (some M)) (hne : N ≠ M) : Km w' kt N k ok := h.kept hg (by intro e; injection e with e; exact hne e)
theorem AuI.putK {c : Ax} (hc : c.Good) {g : Nat → Option (Nat → Bool)} {m : Nat → Nat} {K Mb k k' : Nat} {w w' : World} (h : AuI c g m K Mb k w) (hg : w.grownBy w' (some K)) (hkn : Km w' 119 K k' (okK g)) (hk' : k' ≤ 100) : AuI c g m K Mb k' w' := by
  obtain ⟨es, cl, hM⟩ := h.kn.heap
  obtain ⟨kb, h1⟩ := h.bg
  exact h.turn hc hM hg hkn hk' ⟨kb, km_other h1 hg (Ne.symm h.KM)⟩ (fun σ p e => by obtain ⟨kn, h2⟩ := h.mv σ p e; exact ⟨kn, km_other h2 hg (h.mK σ p e).1⟩)
theorem AuI.putB {c : Ax} (hc : c.Good) {g : Nat → Option (Nat → Bool)} {m : Nat → Nat} {K Mb k kb : Nat} {w w' : World} (h : AuI c g m K Mb k w) (hg : w.grownBy w' (some Mb)) (hbg : Km w' 116 Mb kb (okB c.ss g)) : AuI c g m K Mb k w' := by
  obtain ⟨kb0, h1⟩ := h.bg
  obtain ⟨es, cl, hM⟩ := h1.heap
  exact h.turn hc hM hg (km_other h.kn hg h.KM) h.k100 ⟨kb, hbg⟩ (fun σ p e => by obtain ⟨kn, h2⟩ := h.mv σ p e; exact ⟨kn, km_other h2 hg (h.mK σ p e).2⟩)
theorem AuI.putM {c : Ax} (hc : c.Good) {g : Nat → Option (Nat → Bool)} {m : Nat → Nat} {K Mb k kn σ : Nat} {p : Nat → Bool} {w w' : World} (h : AuI c g m K Mb k w) (hσ : g σ = some p) (hg : w.grownBy w' (some (m σ))) (hmv : Km w' 126 (m σ) kn (okM c.ss g p)) : AuI c g m K Mb k w' := by
  obtain ⟨kn0, h1⟩ := h.mv σ p hσ
  obtain ⟨es, cl, hM⟩ := h1.heap
  obtain ⟨kb, h3⟩ := h.bg
  refine h.turn hc hM hg (km_other h.kn hg (Ne.symm (h.mK σ p hσ).1)) h.k100 ⟨kb, km_other h3 hg (Ne.symm (h.mK σ p hσ).2)⟩ (fun τ q e => ?_)
  by_cases hst : τ = σ
  · subst hst
    rw [hσ] at e
    obtain rfl := Option.some.inj e
    exact ⟨kn, hmv⟩
  · obtain ⟨kn2, h2⟩ := h.mv τ q e
    exact ⟨kn2, km_other h2 hg (fun em => hst (h.inj τ σ q p e hσ em))⟩
/-- A new state. -/
def gPut (g : Nat → Option (Nat → Bool)) (σ : Nat) (p : Nat → Bool) : Nat → Option (Nat → Bool) := fun τ => if τ = σ then some p else g τ
def mPut (m : Nat → Nat) (σ M : Nat) : Nat → Nat := fun τ => if τ = σ then M else m τ
theorem gle_put {c : Ax} {g : Nat → Option (Nat → Bool)} {m : Nat → Nat} {K Mb k : Nat} {w : World} (h : AuI c g m K Mb k w) (σ : Nat) (p : Nat → Bool) (hσ : w.heap.size ≤ σ) : Gle g (gPut g σ p) := fun τ q e => by
  have := heap_lt (h.st τ q e)
  unfold gPut
  rw [if_neg (by omega)]
  exact e
theorem okK.le {g g' : Nat → Option (Nat → Bool)} (h : Gle g g') : ∀ l b, okK g l b → okK g' l b := fun l b ⟨p, h1, h2⟩ => ⟨p, h1, h _ _ h2⟩
theorem okB.le {ss : List St} {g g' : Nat → Option (Nat → Bool)} (h : Gle g g') : ∀ l b, okB ss g l b → okB ss g' l b := fun l b ⟨fi, la, h1, h2⟩ => ⟨fi, la, h1, h _ _ h2⟩
theorem okM.le {ss : List St} {p : Nat → Bool} {g g' : Nat → Option (Nat → Bool)} (h : Gle g g') : ∀ l b, okM ss g p l b → okM ss g' p l b := fun l b ⟨x, fi, la, h1, h2⟩ => ⟨x, fi, la, h1, h _ _ h2⟩
theorem AuI.grow {c : Ax} (hB : True) {g : Nat → Option (Nat → Bool)} {m : Nat → Nat} {K Mb k : Nat} {w w' : World} (h : AuI c g m K Mb k w) (hb : Below w.heap.size w w') (σ M : Nat) (hσ : w.heap.size ≤ σ) (hM : w.heap.size ≤ M) (p : Nat → Bool) (hp : Sub c.ss p) (hs : w'.heap[σ]? = some (stC c.ss p M)) (hm : w'.heap[M]? = some (.map #[] 0)) (hkm : Km w' 126 M 0 (fun _ _ => False)) : AuI c (gPut g σ p) (mPut m σ M) K Mb k w' := by
  have hle := gle_put h σ p hσ
  have h' := h.below hb
  have hlo : c.B ≤ w.heap.size := by have := heap_lt h.au; have := h.lo; omega
  have old : ∀ τ q, gPut g σ p τ = some q → (τ = σ ∧ q = p) ∨ (τ ≠ σ ∧ g τ = some q) := fun τ q e => by
    unfold gPut at e
    by_cases ht : τ = σ
    · rw [if_pos ht] at e
      exact Or.inl ⟨ht, (Option.some.inj e).symm⟩
    · rw [if_neg ht] at e
      exact Or.inr ⟨ht, e⟩
  have mS : mPut m σ M σ = M := by unfold mPut; rw [if_pos rfl]
  have mO : ∀ τ, τ ≠ σ → mPut m σ M τ = m τ := fun τ ht => by unfold mPut; rw [if_neg ht]
  have mlt : ∀ τ q, g τ = some q → m τ < w.heap.size := fun τ q e => by obtain ⟨kn, h1⟩ := h.mv τ q e; exact h1.lt
  obtain ⟨kb, hbg⟩ := h'.bg
  refine ⟨h'.au, h'.steps, h'.blt, h'.kn.mono (okK.le hle), h'.k100, ⟨kb, hbg.mono (okB.le hle)⟩, fun τ q e => ?_, fun τ q e => ?_, fun τ q e => ?_, fun τ υ q r e f hm => ?_, fun τ q e => ?_, h'.KM, h'.lo, fun τ q e => ?_, h'.out, fun τ q e => ?_⟩
  · rcases old τ q e with ⟨rfl, rfl⟩ | ⟨_, e'⟩
    · exact hp
    · exact h.sub τ q e'
  · rcases old τ q e with ⟨rfl, rfl⟩ | ⟨ht, e'⟩
    · rw [mS]; exact hs
    · rw [mO τ ht]; exact h'.st τ q e'
  · rcases old τ q e with ⟨rfl, rfl⟩ | ⟨ht, e'⟩
    · rw [mS]; exact ⟨0, hkm.mono (fun _ _ h => h.elim)⟩
    · rw [mO τ ht]
      obtain ⟨kn, h1⟩ := h'.mv τ q e'
      exact ⟨kn, h1.mono (okM.le hle)⟩
  · rcases old τ q e with ⟨rfl, rfl⟩ | ⟨ht, e'⟩ <;> rcases old υ r f with ⟨rfl, rfl⟩ | ⟨hu, f'⟩
    · rfl
    · rw [mS, mO υ hu] at hm
      have := mlt υ r f'
      omega
    · rw [mO τ ht, mS] at hm
      have := mlt τ q e'
      omega
    · rw [mO τ ht, mO υ hu] at hm
      exact h.inj τ υ q r e' f' hm
  · have hk := h.kn.lt
    obtain ⟨_, hb0⟩ := h.bg
    have hb1 := hb0.lt
    rcases old τ q e with ⟨rfl, rfl⟩ | ⟨ht, e'⟩
    · rw [mS]; constructor <;> omega
    · rw [mO τ ht]; exact h.mK τ q e'
  · rcases old τ q e with ⟨rfl, rfl⟩ | ⟨ht, e'⟩
    · rw [mS]
      have := heap_lt h.au
      refine ⟨?_, ?_, ?_⟩ <;> omega
    · rw [mO τ ht]; exact h.loS τ q e'
  · rcases old τ q e with ⟨rfl, rfl⟩ | ⟨ht, e'⟩
    · rw [mS]
      intro he
      have := (h.out _ he).1
      omega
    · rw [mO τ ht]; exact h.outS τ q e'
/-- What it keeps lies from B on. -/
theorem AuI.size {c : Ax} {g : Nat → Option (Nat → Bool)} {m : Nat → Nat} {K Mb k : Nat} {w : World} (h : AuI c g m K Mb k w) : c.B < w.heap.size := by
  have := heap_lt h.au
  have := h.lo
  omega
/-- All cells but the auto's own lie as they lay, and what is there besides. -/
structure Kc (c : Ax) (w w' : World) : Prop where
  size : w.heap.size ≤ w'.heap.size
  same : ∀ k o, w.heap[k]? = some o → o.isCells = true → k ≠ c.ab → w'.heap[k]? = some o
  out : ∀ k, c.E k → k < w.heap.size → w'.heap[k]? = w.heap[k]?
theorem Kc.trans {x : Ax} {a b c : World} (h : Kc x a b) (h' : Kc x b c) : Kc x a c := ⟨Nat.le_trans h.size h'.size, fun k o hk ho hn => h'.same k o (h.same k o hk ho hn) ho hn, fun k e hk => (h'.out k e (Nat.lt_of_lt_of_le hk h.size)).trans (h.out k e hk)⟩
theorem Kc.below {c : Ax} {w w' : World} (h : Below w.heap.size w w') : Kc c w w' := ⟨h.size, fun k o hk _ _ => (h.block k (heap_lt hk)).trans hk, fun k _ hk => h.block k hk⟩
theorem Kc.own {c : Ax} {w w' : World} (h : w.grownBy w' (some c.ab)) (he : ¬ c.E c.ab) : Kc c w w' := ⟨h.size, fun k o hk _ hn => (h.block k (heap_lt hk) (by intro e; injection e with e; exact hn e)).trans hk, fun k e hk => h.block k hk (by intro e2; injection e2 with e2; subst e2; exact he e)⟩
theorem Kc.map {c : Ax} {M : Nat} {w w' : World} {es : Array MapEntry} {cl : Nat} (hM : w.heap[M]? = some (.map es cl)) (h : w.grownBy w' (some M)) (he : ¬ c.E M) : Kc c w w' := ⟨h.size, fun k o hk ho _ => cells_map hM h hk ho, fun k e hk => h.block k hk (by intro e2; injection e2 with e2; subst e2; exact he e)⟩
theorem AuI.outs {c : Ax} {g : Nat → Option (Nat → Bool)} {m : Nat → Nat} {K Mb k : Nat} {w : World} (h : AuI c g m K Mb k w) : ¬ c.E K ∧ ¬ c.E Mb ∧ ¬ c.E c.ab := ⟨fun e => (h.out _ e).2.1 rfl, fun e => (h.out _ e).2.2.1 rfl, fun e => (h.out _ e).2.2.2 rfl⟩
/-- A call's answer: a state of the set p. -/
def AuP (c : Ax) (g : Nat → Option (Nat → Bool)) (w : World) (p : Nat → Bool) (e : Ending) (w' : World) : Prop := ∃ g' m' K' Mb' k' σ, e = .returned (.pointer (some ⟨σ, 0, none⟩)) ∧ AuI c g' m' K' Mb' k' w' ∧ Gle g g' ∧ g' σ = some p ∧ Below c.B w w' ∧ Kc c w w'
end Go.Proofs.YtphcncgdodhlbaaDoor
namespace Go.Proofs.YtphcncgdodhlbaaDoor
set_option linter.unusedSimpArgs false
set_option linter.unusedVariables false
set_option maxRecDepth 100000
open Go.RowKit
theorem Km.empty {w : World} {M : Nat} (kt : TypeId) (h : w.heap[M]? = some (.map #[] 0)) : Km w kt M 0 (fun _ _ => False) := by
  obtain ⟨es, clock, hb, r⟩ := World.ownsMap_made (H := Value) w Tryd.prog kt asIs
  rw [World.alloc_heap_new] at hb
  injection hb with hb
  injection hb with h1 h2
  subst h1 h2
  exact ⟨.map [], ⟨#[], 0, h, r⟩, rfl, fun kl h => by simp [Maps.has] at h⟩
set_option maxHeartbeats 1000000 in
theorem forget_raw (ab : Nat) (s x y : Value) (w : World) (h : w.heap[ab]? = some (.cells #[s, x, y] 111 (0, 0))) :
    Calls Tryd.prog 47 #[.pointer (some ⟨ab, 0, none⟩)] w fun e w' => (∃ v, e = .returned v) ∧ w'.heap[ab]? = some (.cells #[s, .map (some w.heap.size), .map (some (w.heap.size + 1))] 111 (0, 0)) ∧ w'.heap[w.heap.size]? = some (.map #[] 0) ∧ w'.heap[w.heap.size + 1]? = some (.map #[] 0) ∧ w.grownBy w' (some ab) := by
  have hlt := heap_lt h
  have hmm := @run_makeMap Tryd.prog
  obtain ⟨w1, hw1⟩ : ∃ w1, w.alloc (.map #[] 0) = w1 := ⟨_, rfl⟩
  have h1 : w1.heap[ab]? = some (.cells #[s, x, y] 111 (0, 0)) := by rw [← hw1]; exact (Below.heap_alloc w _ ab hlt).trans h
  have e1 : w1.heap[w.heap.size]? = some (.map #[] 0) := by rw [← hw1]; exact World.alloc_heap_new w _
  have s1 : w1.heap.size = w.heap.size + 1 := by rw [← hw1]; simp
  have g1 : w.grownBy w1 (some ab) := by rw [← hw1]; exact World.grownBy_alloc _ _ _
  have c1 := Lib.cell_of_heap h1 1
  have f1 := Lib.frozen_of_heap h1 1
  simp only [List.getElem?_toArray, List.getElem?_cons_zero, List.getElem?_cons_succ] at c1
  obtain ⟨w2, hw2⟩ : ∃ w2, w1.setCell ⟨ab, 1, none⟩ (.map (some w.heap.size)) = w2 := ⟨_, rfl⟩
  have h2 : w2.heap[ab]? = some (.cells #[s, .map (some w.heap.size), y] 111 (0, 0)) := by
    rw [← hw2]
    simp [World.setCell, Array.getElem?_modify, h1]
  have g2 : w1.grownBy w2 (some ab) := by rw [← hw2]; exact grown_setS _ _ _ _
  have e2 : w2.heap[w.heap.size]? = some (.map #[] 0) := (g2.block _ (heap_lt e1) (by intro e; injection e with e; omega)).trans e1
  have s2 : w2.heap.size = w.heap.size + 1 := by rw [← hw2]; simpa using s1
  obtain ⟨w3, hw3⟩ : ∃ w3, w2.alloc (.map #[] 0) = w3 := ⟨_, rfl⟩
  have h3 : w3.heap[ab]? = some (.cells #[s, .map (some w.heap.size), y] 111 (0, 0)) := by rw [← hw3]; exact (Below.heap_alloc w2 _ ab (heap_lt h2)).trans h2
  have e3 : w3.heap[w.heap.size]? = some (.map #[] 0) := by rw [← hw3]; exact (Below.heap_alloc w2 _ _ (heap_lt e2)).trans e2
  have e4 : w3.heap[w.heap.size + 1]? = some (.map #[] 0) := by rw [← hw3, ← s2]; exact World.alloc_heap_new w2 _
  have g3 : w2.grownBy w3 (some ab) := by rw [← hw3]; exact World.grownBy_alloc _ _ _
  have c3 := Lib.cell_of_heap h3 2
  have f3 := Lib.frozen_of_heap h3 2
  simp only [List.getElem?_toArray, List.getElem?_cons_zero, List.getElem?_cons_succ] at c3
  have HR : Hid ((w3.setCell ⟨ab, 2, none⟩ (.map (some (w.heap.size + 1)))).heap[ab]? = some (.cells #[s, .map (some w.heap.size), .map (some (w.heap.size + 1))] 111 (0, 0)) ∧ (w3.setCell ⟨ab, 2, none⟩ (.map (some (w.heap.size + 1)))).heap[w.heap.size]? = some (.map #[] 0) ∧ (w3.setCell ⟨ab, 2, none⟩ (.map (some (w.heap.size + 1)))).heap[w.heap.size + 1]? = some (.map #[] 0) ∧ w.grownBy (w3.setCell ⟨ab, 2, none⟩ (.map (some (w.heap.size + 1)))) (some ab)) := by
    have g4 := grown_setS w3 ab 2 (.map (some (w.heap.size + 1)))
    refine ⟨by simp [World.setCell, Array.getElem?_modify, h3], (g4.block _ (heap_lt e3) (by intro e; injection e with e; omega)).trans e3, (g4.block _ (heap_lt e4) (by intro e; injection e with e; omega)).trans e4, ((g1.trans g2).trans g3).trans g4⟩
  clear h h1 h2 h3 e1 e2 e3 e4 g1 g2 g3 s1
  go_enter Tryd.func47, Tryd.ntmps47
  go_wp2
  go_end0
  exact ⟨⟨_, rfl⟩, HR.out⟩
theorem AuI.forget {c : Ax} (hc : c.Good) {g : Nat → Option (Nat → Bool)} {m : Nat → Nat} {K Mb k : Nat} {w w' : World} (h : AuI c g m K Mb k w) (h1 : w'.heap[c.ab]? = some (auC c w.heap.size (w.heap.size + 1))) (h2 : w'.heap[w.heap.size]? = some (.map #[] 0)) (h3 : w'.heap[w.heap.size + 1]? = some (.map #[] 0)) (hg : w.grownBy w' (some c.ab)) : AuI c g m w.heap.size (w.heap.size + 1) 0 w' ∧ Below c.B w w' := by
  have hlo := h.lo
  have hpos := (stepsF_zero hc.fault).2.1
  have hba : c.b ≠ c.ab := fun e => by
    obtain ⟨c0, _⟩ := h.steps 0 c.ss[0] (List.getElem?_eq_getElem hpos)
    have e0 := Lib.cell_of_heap h.au 0
    rw [e] at c0
    simp only [auC, List.getElem?_toArray, List.getElem?_cons_zero] at e0
    rw [show (0 : Nat) + 0 * 7 = 0 by omega, e0] at c0
    cases c0
  have mlt : ∀ τ q, g τ = some q → m τ < w.heap.size := fun τ q e => by obtain ⟨kn, h1⟩ := h.mv τ q e; exact h1.lt
  have mab : ∀ τ q, g τ = some q → m τ ≠ c.ab := fun τ q e hm => by
    obtain ⟨kn, h1⟩ := h.mv τ q e
    obtain ⟨es, cl, h2⟩ := h1.heap
    rw [hm, h.au] at h2
    cases h2
  refine ⟨⟨h1, h.steps.grown hg h.blt (by intro e; injection e with e; exact hba e), Nat.lt_of_lt_of_le h.blt hg.size, (Km.empty _ h2).mono (fun _ _ h => h.elim), by omega, ⟨0, (Km.empty _ h3).mono (fun _ _ h => h.elim)⟩, h.sub, fun τ q e => ?_, fun τ q e => ?_, h.inj, fun τ q e => ?_, by omega, ⟨by have := h.size; omega, by have := h.size; omega, hlo.2.2⟩, h.loS, fun k e => ⟨Nat.lt_of_lt_of_le (h.out k e).1 hg.size, by have := (h.out k e).1; omega, by have := (h.out k e).1; omega, (h.out k e).2.2.2⟩, h.outS⟩, ?_⟩
  · exact (hg.block _ (heap_lt (h.st τ q e)) (by intro e2; injection e2 with e2; exact (h.loS τ q e).2.2 e2)).trans (h.st τ q e)
  · obtain ⟨kn, h4⟩ := h.mv τ q e
    exact ⟨kn, h4.kept hg (by intro e2; injection e2 with e2; exact mab τ q e e2)⟩
  · have := mlt τ q e
    constructor <;> omega
  · exact ⟨hg.os, hg.tape, hg.output, hg.size, fun j hj => hg.block j (by have := h.size; omega) (by intro e; injection e with e; omega)⟩
end Go.Proofs.YtphcncgdodhlbaaDoor
namespace Go.Proofs.YtphcncgdodhlbaaDoor
set_option linter.unusedSimpArgs false
set_option linter.unusedVariables false
set_option maxRecDepth 100000
open Go.RowKit Go.Shelf
theorem le_alloc {a : Nat} {w : World} {o : Obj} (h : a ≤ w.heap.size) : a ≤ (w.alloc o).heap.size := by rw [World.size_alloc]; omega
/-- The key is not there: it may be stored. -/
def Free (w : World) (kt mt : TypeId) (M k : Nat) (key : Value) (kl : Lit) (ok : Lit → Nat → Prop) : Prop :=
  k < maxLen → ∀ (w0 : World) (b : Nat) (ok' : Lit → Nat → Prop), w0.heap[M]? = w.heap[M]? → (∀ l c, ok l c → ok' l c) → ok' kl b → ∃ w', (Instr.mapUpdate mt (.map (some M)) key (.pointer (some ⟨b, 0, none⟩))).run Tryd.prog w0 = .ok () w' ∧ Km w' kt M (k + 1) ok' ∧ w0.grownBy w' (some M)
theorem Free.same {w w' : World} {kt mt : TypeId} {M k : Nat} {key : Value} {kl : Lit} {ok : Lit → Nat → Prop} (h : Free w kt mt M k key kl ok) (e : w'.heap[M]? = w.heap[M]?) : Free w' kt mt M k key kl ok := fun hk w0 b ok' h0 => h hk w0 b ok' (h0.trans e)
theorem Km.look2 {w : World} {kt mt : TypeId} {M k : Nat} {ok : Lit → Nat → Prop} (h : Km w kt M k ok) (K : Maps.Keyed Tryd.prog kt) (hu : Tryd.prog.underlying mt = some (.map kt 113)) {key : Value} {kl : Lit} (hkey : keyOf Tryd.prog kt key = some kl) :
    (∃ b, ok kl b ∧ ∀ w' : World, w'.heap[M]? = w.heap[M]? → (Instr.lookup mt (.map (some M)) key false).run Tryd.prog w' = .ok (.pointer (some ⟨b, 0, none⟩)) w') ∨
    ((∀ w' : World, w'.heap[M]? = w.heap[M]? → (Instr.lookup mt (.map (some M)) key false).run Tryd.prog w' = .ok (.pointer none) w') ∧ Free w kt mt M k key kl ok) := h.look K hu hkey
set_option maxHeartbeats 4000000 in
theorem keep_any (c : Ax) (hc : c.Good) (g : Nat → Option (Nat → Bool)) (m : Nat → Nat) (K Mb k : Nat) (w : World) (h : AuI c g m K Mb k w) (hT : Tab w) (p : Nat → Bool) (hp : Sub c.ss p) :
    Calls Tryd.prog 74 #[c.u, stV p] w (AuP c g w p) := by
  obtain ⟨W0, hW0⟩ : ∃ W0, w.alloc (.cells #[.int .u64 (wd p 0), .int .u64 (wd p 1), .int .u64 (wd p 2), .int .u64 (wd p 3)] 119) = W0 := ⟨_, rfl⟩
  have hb0 : Below w.heap.size w W0 := by rw [← hW0]; exact (Below.refl _ _).alloc (Nat.le_refl _) _
  have hq0 : Hq W0 w.heap.size p := by rw [← hW0]; exact Hq.new w p _ rfl
  have h0 := h.below hb0
  have hBB : Below c.B w W0 := hb0.mono (by have := h.size; omega)
  have hT0 := hT.below hb0 (Nat.le_refl _)
  have a1 := Lib.cell_of_heap h0.au 1
  simp only [auC, List.getElem?_toArray, List.getElem?_cons_zero, List.getElem?_cons_succ] at a1
  obtain ⟨q0, q1, q2, q3⟩ := hq0.all
  rcases h0.kn.look2 steps_keyed Tryd.underlying108 (steps_key p) with ⟨σ, ⟨p', hpl, hg⟩, hlook⟩ | ⟨hlook, hfree⟩
  · -- it is known
    obtain rfl : p = p' := sub_ext (stepsF_zero hc.fault).1 hp (h0.sub σ p' hg) hpl
    have hl1 := fun n => hlook (W0.drewN n) rfl
    have HR : Hid (∀ w', Below W0.heap.size W0 w' → AuP c g w p (.returned (.pointer (some ⟨σ, 0, none⟩))) w') := fun w' hb => ⟨g, m, K, Mb, k, σ, rfl, h0.below hb, Gle.refl g, hg, hBB.trans (hb.mono (by have := h0.size; omega)), (Kc.below hb0).trans (Kc.below hb)⟩
    unfold stV at hl1 ⊢
    clear hlook h h0 hT hT0 hq0 hb0 hBB hp hg hpl
    go_enter Tryd.func74, Tryd.ntmps74
    go_wp2_with fail
    go_big_quiet (fail)
    go_wp2
    go_ret
    exact HR.out _ (below_drewN' W0 nq)
  · -- it is new
    have hl1 := fun n => hlook (W0.drewN n) rfl
    have HC := hid hc
    have HP := hid hp
    have H0 := hid h0
    have HQ0 := hid hq0
    have HF := hid hfree
    have HBB := hid hBB
    have HK0 : Hid (Kc c w W0) := Kc.below hb0
    have HT0 := hid hT0
    clear hlook h hT hb0 hc hp h0 hq0 hfree hBB hT0
    unfold stV at hl1 ⊢
    go_enter Tryd.func74, Tryd.ntmps74
    go_wp2_with fail
    go_big_quiet (fail)
    have hbn := below_drewN' W0 nq
    have H1 := hid (H0.out.below hbn)
    have HQ1 := hid (HQ0.out.below hbn HQ0.out.lt)
    have HT1 := hid (HT0.out.below hbn (Nat.le_refl _))
    have HB1 := hid (HBB.out.trans (hbn.mono (by have := H0.out.size; omega)))
    have HF1 := hid (HF.out.same (w' := W0.drewN nq) rfl)
    have HK1 := hid (HK0.out.trans (Kc.below hbn))
    clear H0 HQ0 HT0 HBB HF HK0 hl1 q0 q1 q2 q3 a1 hW0 hbn
    generalize W0.drewN nq = W1 at *
    have a1 := Lib.cell_of_heap H1.out.au 1
    simp only [auC, List.getElem?_toArray, List.getElem?_cons_zero, List.getElem?_cons_succ] at a1
    have hln := fun ty => H1.out.kn.len Tryd.underlying108 ty W1 rfl
    have hk100 := H1.out.k100
    have hk1 : ((k : Int) == 100) = decide (k = 100) := by
      by_cases h : k = 100
      · subst h; rfl
      · rw [decide_eq_false h, beq_eq_false_iff_ne]; omega
    go_upto_if 21 with fail
    go_cut [] from 16 to 40 (fun wc => ∃ K' Mb' k', AuI c g m K' Mb' k' wc ∧ k' < 100 ∧ Free wc 119 108 K' k' (stV p) (stepsL p) (okK g) ∧ Hq wc w.heap.size p ∧ Below c.B w wc ∧ Kc c w wc ∧ Tab wc)
    case first =>
      by_cases hk : k = 100
      · rw [decide_eq_true hk] at hk1
        have CF := hid (forget_raw c.ab _ _ _ W1 H1.out.au)
        go_wp2_with fail
        refine Calls.mono CF.out ?_
        rintro e W2 ⟨⟨v, rfl⟩, e1, e2, e3, hg2⟩
        obtain ⟨h2, hB2⟩ := H1.out.forget HC.out e1 e2 e3 hg2
        have hfr2 : Free W2 119 108 W1.heap.size 0 (stV p) (stepsL p) (okK g) := by
          rcases (Km.empty 119 e2).look2 steps_keyed Tryd.underlying108 (steps_key p) with ⟨b, hb, _⟩ | ⟨_, hfr⟩
          · exact hb.elim
          · intro hk w0 b ok' h0 hm hb
            exact hfr hk w0 b ok' h0 (fun _ _ h => h.elim) hb
        have HR : Hid (∃ K' Mb' k', AuI c g m K' Mb' k' W2 ∧ k' < 100 ∧ Free W2 119 108 K' k' (stV p) (stepsL p) (okK g) ∧ Hq W2 w.heap.size p ∧ Below c.B w W2 ∧ Kc c w W2 ∧ Tab W2) := ⟨_, _, 0, h2, by omega, hfr2, HQ1.out.grown hg2 (by
          intro e; injection e with e
          have := HQ1.out
          unfold Hq at this
          rw [e, H1.out.au] at this
          cases this), HB1.out.trans hB2, HK1.out.trans (Kc.own hg2 H1.out.outs.2.2), HT1.out.grown hg2 (by
          intro e; injection e with e
          have := HC.out.tab
          have := H1.out.lo
          omega)⟩
        clear e1 e2 e3 hg2 h2 hB2 hfr2 CF
        go_wp2_with fail
        go_meet
        case rel => exact HR.out
      · rw [decide_eq_false hk] at hk1
        go_wp2_with fail
        go_meet
        case rel => exact ⟨K, Mb, k, H1.out, by omega, HF1.out, HQ1.out, HB1.out, HK1.out, HT1.out⟩
    case rest =>
      obtain ⟨K', Mb', k', h2, hk2, hfr2, hq2, hB2, hK2, hT2⟩ := hcut
      have a0 := Lib.cell_of_heap h2.au 0
      simp only [auC, List.getElem?_toArray, List.getElem?_cons_zero, List.getElem?_cons_succ] at a0
      obtain ⟨q0, q1, q2, q3⟩ := hq2.all
      have S5 : ∀ w', Below wc.heap.size wc w' → w'.cell? ⟨c.ab, 0, none⟩ = some (.slice (some ⟨c.b, 0, none⟩) c.ss.length c.cap) ∧ w'.cell? ⟨w.heap.size, 0, none⟩ = some (.int .u64 (wd p 0)) ∧ w'.cell? ⟨w.heap.size, 1, none⟩ = some (.int .u64 (wd p 1)) ∧ w'.cell? ⟨w.heap.size, 2, none⟩ = some (.int .u64 (wd p 2)) ∧ w'.cell? ⟨w.heap.size, 3, none⟩ = some (.int .u64 (wd p 3)) := fun w' hb => by
        have h3 := h2.below hb
        have a0 := Lib.cell_of_heap h3.au 0
        simp only [auC, List.getElem?_toArray, List.getElem?_cons_zero, List.getElem?_cons_succ] at a0
        exact ⟨a0, (hq2.below hb hq2.lt).all⟩
      have HS5 := hid S5
      have CD := hid (fun w' (hb : Below wc.heap.size wc w') => sdone_any c.ss (stepsF_zero HC.out.fault).1 c.b 0 c.cap p HP.out w' (hT2.below hb (Nat.le_refl _)) (Nat.lt_of_lt_of_le h2.blt hb.size) (h2.steps.below hb h2.blt))
      unfold stV at CD
      have H2 := hid h2
      have HF2 := hid hfr2
      have HQ2 := hid hq2
      have HB2 := hid hB2
      have HK2 := hid hK2
      have hmm := @run_makeMap Tryd.prog
      clear h2 hfr2 hq2 hB2 hK2 hT2 S5 H1 HQ1 HT1 HB1 HF1 HK1 hln hk100 hk1 a1
      go_upto_region 24 with fail
      go_cut [6] from 24 to 40 (fun s6 wx => ∃ σ M, s6 = .pointer (some ⟨σ, 0, none⟩) ∧ Below wc.heap.size wc wx ∧ wc.heap.size ≤ σ ∧ wc.heap.size ≤ M ∧ wx.heap[σ]? = some (stC c.ss p M) ∧ wx.heap[M]? = some (.map #[] 0))
      case first =>
        go_region_held3 (fun w' => w'.cell? ⟨c.ab, 0, none⟩ = some (.slice (some ⟨c.b, 0, none⟩) c.ss.length c.cap) ∧ w'.cell? ⟨w.heap.size, 0, none⟩ = some (.int .u64 (wd p 0)) ∧ w'.cell? ⟨w.heap.size, 1, none⟩ = some (.int .u64 (wd p 1)) ∧ w'.cell? ⟨w.heap.size, 2, none⟩ = some (.int .u64 (wd p 2)) ∧ w'.cell? ⟨w.heap.size, 3, none⟩ = some (.int .u64 (wd p 3))) (first | with_reducible exact HS5.out _ (Below.refl _ _).drew | with_reducible exact HS5.out _ ((Below.refl _ _).alloc (Nat.le_refl _) _).drew | with_reducible exact HS5.out _ hbw | with_reducible exact HS5.out _ (hbw.alloc hszw _) | with_reducible exact HS5.out _ ((hbw.alloc hszw _).alloc (le_alloc hszw) _) | (trace_state; fail)) (first
          | (go_at_call 86; refine (CD.out _ ?_).mono ?_; (first | with_reducible exact (Below.refl _ _).drew | with_reducible exact ((Below.refl _ _).alloc (Nat.le_refl _) _).drew); rintro e w5 ⟨rfl, hb5⟩; (first | (have hbw : Below wc.heap.size wc w5 := bel_d hb5; have hszw := hbw.size) | (obtain ⟨hbw, hmap⟩ : Below wc.heap.size wc w5 ∧ w5.heap[wc.heap.size]? = some (.map #[] 0) := bel_da hb5; have hszw := hbw.size))))
        all_goals go_wp2_with fail
        all_goals go_meet
        case rel =>
          refine ⟨_, w5.heap.size, rfl, (hbw.alloc hszw _).alloc (le_alloc hszw) _, by omega, hszw, ?_, ?_⟩
          · have := World.alloc_heap_new (w5.alloc (.map #[] 0)) (stC c.ss p w5.heap.size)
            rwa [World.size_alloc] at this
          · exact (Below.heap_alloc _ _ _ (by simp)).trans (World.alloc_heap_new w5 _)
        exact ⟨_, wc.heap.size, rfl, hbw.alloc hszw _, hszw, Nat.le_refl _, World.alloc_heap_new w5 _, (Below.heap_alloc _ _ _ (heap_lt hmap)).trans hmap⟩
      case rest =>
        obtain ⟨σ, M, rfl, hbx, hσ, hM, es, em⟩ := hcut
        have hgl := gle_put H2.out σ p hσ
        have h3 := (H2.out.grow trivial hbx σ M hσ hM p HP.out es em (Km.empty _ em)).below (Below.refl _ wc).drew
        have hgs : gPut g σ p σ = some p := by unfold gPut; rw [if_pos rfl]
        obtain ⟨w9, hrun, hkm, hg9⟩ := HF2.out (by unfold maxLen; omega) wc.drew σ (okK (gPut g σ p)) (hbx.block K' H2.out.kn.lt) (okK.le hgl) ⟨p, rfl, hgs⟩
        have HR : Hid (AuP c g w p (.returned (.pointer (some ⟨σ, 0, none⟩))) w9) := by
          refine ⟨_, _, _, _, _, σ, rfl, h3.putK HC.out hg9 hkm (by omega), hgl, hgs, ?_, ?_⟩
          rotate_left
          · obtain ⟨es', cl', hM'⟩ := h3.kn.heap
            exact (HK2.out.trans ((Kc.below hbx).trans (Kc.below (Below.refl _ wc).drew))).trans (Kc.map hM' hg9 h3.outs.1)
          have hb : Below c.B w wc.drew := (HB2.out.trans (hbx.mono (by have := H2.out.size; omega))).drew
          exact hb.grown hg9 (by have := h3.size; omega) (fun k e => by injection e with e; have := h3.lo; omega)
        have a2 := Lib.cell_of_heap h3.au 1
        simp only [auC, List.getElem?_toArray, List.getElem?_cons_zero, List.getElem?_cons_succ] at a2
        obtain ⟨y0, y1, y2, y3⟩ := (HQ2.out.below hbx HQ2.out.lt).all
        replace a2 : wc.cell? ⟨c.ab, 1, none⟩ = some (.map (some K')) := a2
        unfold stV at hrun
        clear es em hgs h3 hkm hg9 hgl hbx
        go_wp2_with fail
        go_region
        go_wp2
        go_ret
        exact HR.out
end Go.Proofs.YtphcncgdodhlbaaDoor
