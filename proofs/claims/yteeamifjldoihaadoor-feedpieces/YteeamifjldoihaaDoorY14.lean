/- Package feed: New; what the document asks of it. What is wrong with a pattern, a text, a place: plain words, no function. What the document asks of package feed. Package feed: Dead, Len; all that the document asks of it. Sets of places in memory: of no Go function. What a pattern fits, as sets of places: plain mathematics. -/
import Derived.Test.YteeamifjldoihaaDoorY13
import Derived.Test.YteeamifjldoihaaDoorY04
import Derived.Test.YteeamifjldoihaaDoorY11
import Derived.Test.YteeamifjldoihaaDoorY02
import Derived.Test.YteeamifjldoihaaDoorY09
import Derived.Test.YteeamifjldoihaaDoorY03
import Derived.Test.YteeamifjldoihaaDoorY01
import Derived.Maps.AppendAt
namespace Go.Proofs.YteeamifjldoihaaDoor
set_option linter.unusedSimpArgs false
set_option linter.unusedVariables false
set_option maxRecDepth 100000
open Go.RowKit Go.Shelf
attribute [local go_sem] Oper.semAt_some
set_option maxHeartbeats 1000000 in
theorem fnew_bad (ns : List Nd) (v : Value) (w : World) (h : NsIn w v ns) (hf : ¬ faultL ns = 0) :
    Calls Tryd.prog 6 #[v] w fun e w' => e = .returned (.tuple #[.pointer none, errV (faultL ns)]) ∧ Below w.heap.size w w' := by
  have HC := hid (pof_bad ns v w h hf)
  rw [show errV (faultL ns) = .iface 24 (.int .i64 (faultL ns)) by unfold errV; rw [if_neg hf]] at HC ⊢
  obtain ⟨va, vc, rfl, vm⟩ := nsIn_form h
  clear h hf
  go_enter Tryd.func6, Tryd.ntmps6
  go_wp2_with fail
  refine Calls.mono HC.out ?_
  rintro e w1 ⟨a1, c1, rfl, hb⟩
  go_wp2
  go_ret2
  exact ⟨rfl, hb⟩
set_option maxHeartbeats 4000000 in
theorem fnew_ok (t : Rx) (ht : t.Ok) (v : Value) (w : World) (hT : Tab w) (h : NsIn w v t.flat) (hw : ∀ n ∈ t.flat, n.wf) (hf : faultL t.flat = 0) :
    Calls Tryd.prog 6 #[v] w fun e w' => ∃ f g cap, e = .returned (.tuple #[.pointer (some ⟨f, 0, none⟩), .nilIface]) ∧ Fm t.prog f g cap 0 (begS t.prog true false) w' ∧ Below w.heap.size w w' ∧ w.heap.size ≤ f ∧ w.heap.size ≤ g := by
  obtain ⟨h60, hops, -⟩ := (faultL_zero t.flat).1 hf
  have HPF := hid (prog_fault t h60)
  have HOK : Hid (SsOk t.prog) := fun n hn => C4.wf_ok (prog_wf t h60 hw n hn).2.1
  have HC := hid (pof_tree t ht v w h hf)
  have HN : Hid (∀ u w', SsIn w' u t.prog → _) := fun u w' hs => waysOf_ok t.prog u w' HPF.out hs
  have HT := hid hT
  have HTL := hid (tab_lt hT)
  obtain ⟨va, vc, rfl, vm⟩ := nsIn_form h
  clear h hf hops h60 hT hw
  go_enter Tryd.func6, Tryd.ntmps6
  go_wp2_with fail
  refine Calls.mono HC.out ?_
  rintro e w1 ⟨u1, rfl, hs, hb⟩
  have B1 := hid hb
  have HS := hid (HN.out u1 w1 hs)
  obtain ⟨a1, c1, rfl, -⟩ := ssIn_form hs
  clear hb HC HN hs
  go_wp2_with fail
  refine Calls.mono HS.out ?_
  rintro e w2 ⟨g, c, rfl, hb2, hN2, hg, hgl⟩
  have B2 := hid (B1.out.trans (hb2.mono B1.out.size))
  obtain ⟨w3, hw3⟩ : ∃ w3, (w2.alloc (.cells #[.slice (some ⟨g, 0, none⟩) t.prog.length c] 53)).alloc (.cells #[.slice (some ⟨g, 0, none⟩) t.prog.length c, .int .i64 0, .int .u64 0, .int .u64 0, .int .u64 0, .int .u64 0] 59) = w3 := ⟨_, rfl⟩
  have hb3 : Below w2.heap.size w2 w3 := by rw [← hw3]; exact ((Below.refl _ _).alloc (Nat.le_refl _) _).alloc (by simp) _
  have ha3 : w3.heap[w2.heap.size + 1]? = some (.cells #[.slice (some ⟨g, 0, none⟩) t.prog.length c, .int .i64 0, .int .u64 0, .int .u64 0, .int .u64 0, .int .u64 0] 59 (0, 0)) := by
    rw [← hw3]
    have := World.alloc_heap_new (w2.alloc (.cells #[.slice (some ⟨g, 0, none⟩) t.prog.length c] 53)) (.cells #[.slice (some ⟨g, 0, none⟩) t.prog.length c, .int .i64 0, .int .u64 0, .int .u64 0, .int .u64 0, .int .u64 0] 59)
    rwa [World.size_alloc] at this
  have hs2 := B2.out.size
  have hs1 := B1.out.size
  have hm3 : Fm t.prog (w2.heap.size + 1) g c 0 noP w3 := by
    refine ⟨by rw [wd_no, wd_no, wd_no, wd_no]; exact ha3, hN2.below hb3 hgl, Nat.lt_of_lt_of_le hgl hb3.size, by omega, HPF.out, HOK.out, (fun k hk => by cases hk), by have := HTL.out; omega⟩
  have HT3 := HT.out.below (B2.out.trans (hb3.mono hs2)) (Nat.le_refl _)
  have CF := hid (fagain_any t.prog (w2.heap.size + 1) g c 0 noP w3 HT3 hm3)
  have HB3 := hid (B2.out.trans (hb3.mono hs2))
  have HG : Hid (w.heap.size ≤ g ∧ w.heap.size ≤ w2.heap.size + 1) := ⟨by omega, by omega⟩
  clear hb2 hN2 hg hgl hb3 ha3 hm3 HT3 hs2 hs1
  go_wp2_with fail
  refine Calls.mono CF.out ?_
  rintro e w4 ⟨rfl, hm4, hg4⟩
  have HR : Hid (Fm t.prog (w2.heap.size + 1) g c 0 (begS t.prog true false) w4 ∧ Below w.heap.size w w4) := ⟨hm4, HB3.out.grown hg4 HB3.out.size (fun k e => by injection e with e; have := HG.out.2; omega)⟩
  clear hm4 hg4
  go_wp2
  go_ret2
  exact ⟨_, g, c, rfl, HR.out.1, HR.out.2, HG.out.2, HG.out.1⟩
/-- A feed of a pattern. -/
def Fv (F : Nat → Prop) (w : World) (u : Value) (t : Rx) (s : List UInt8) (d : Bool) : Prop := ∃ f g cap, u = .pointer (some ⟨f, 0, none⟩) ∧ Fm t.prog f g cap s.length (nowS t.prog s) w ∧ s.length ≤ 400 ∧ t.Ok ∧ (∀ n ∈ t.flat, 1 ≤ n.op ∧ n.op ≤ 9) ∧ d = deadF t.prog s ∧ ∀ k, F k ↔ k = f ∨ k = g
theorem But.of_grown {F : Nat → Prop} {w w' : World} {f : Nat} (h : w.grownBy w' (some f)) (hf : F f) : But F w w' := ⟨h.1, h.2, h.3, h.size, fun k hk hn => h.block k hk (fun e => by injection e with e; exact hn (e ▸ hf))⟩
theorem fv_lt (F : Nat → Prop) (w : World) (u : Value) (t : Rx) (s : List UInt8) (d : Bool) (h : Fv F w u t s d) (k : Nat) (hk : F k) : k < w.heap.size := by
  obtain ⟨f, g, cap, rfl, hm, _, _, _, _, hF⟩ := h
  rcases (hF k).1 hk with rfl | rfl
  · exact heap_lt hm.cells
  · exact hm.glt
theorem fv_keep (F G : Nat → Prop) (w w' : World) (u : Value) (t : Rx) (s : List UInt8) (d : Bool) (h : Fv F w u t s d) (hb : But G w w') (hG : ∀ k, G k → ¬ F k) : Fv F w' u t s d := by
  obtain ⟨f, g, cap, rfl, hm, h1, h2, h3, h4, hF⟩ := h
  have kf : w'.heap[f]? = w.heap[f]? := hb.block f (heap_lt hm.cells) (fun h => hG f h ((hF f).2 (Or.inl rfl)))
  have kg : w'.heap[g]? = w.heap[g]? := hb.block g hm.glt (fun h => hG g h ((hF g).2 (Or.inr rfl)))
  exact ⟨f, g, cap, rfl, ⟨kf.trans hm.cells, hm.steps.of_block kg, Nat.lt_of_lt_of_le hm.glt hb.size, hm.ne, hm.fault, hm.ok, hm.sub, hm.tab⟩, h1, h2, h3, h4, hF⟩
/-- Its text or what it has come to has turned, or it lies as it lay. -/
theorem fv_turns {F : Nat → Prop} {w w' : World} {f g cap : Nat} {t : Rx} {s : List UInt8} (hm : Fm t.prog f g cap s.length (nowS t.prog s) w') (h1 : s.length ≤ 400) (h2 : t.Ok) (h3 : ∀ n ∈ t.flat, 1 ≤ n.op ∧ n.op ≤ 9) (hF : ∀ k, F k ↔ k = f ∨ k = g) (hg : w.grownBy w' (some f)) : Turns F w w' (fun F' => Fv F' w' (.pointer (some ⟨f, 0, none⟩)) t s (deadF t.prog s)) :=
  ⟨F, ⟨f, g, cap, rfl, hm, h1, h2, h3, rfl, hF⟩, But.of_grown hg ((hF f).2 (Or.inl rfl)), fun k hk => Or.inl hk⟩
theorem fv_put (F : Nat → Prop) (w : World) (u : Value) (t : Rx) (s : List UInt8) (d : Bool) (p : ByteArray) (hT : Tab w) (h : Fv F w u t s d) (hs : s.length + p.size ≤ 400) :
    Calls Tryd.prog 8 #[u, .string p] w fun e w' => e = .returned .nilIface ∧ Turns F w w' (fun F' => ∃ d', (d = true → d' = true) ∧ Fv F' w' u t (s ++ p.data.toList) d') := by
  obtain ⟨f, g, cap, rfl, hm, h1, h2, h3, h4, hF⟩ := h
  have hl : (s ++ p.data.toList).length = s.length + p.size := by simp
  refine (fput_any t.prog f g cap s.length _ p w hT hm hs).mono ?_
  rintro e w' ⟨rfl, hm', hg⟩
  rw [now_on, ← hl] at hm'
  obtain ⟨F', hv, hb, ho⟩ := fv_turns (F := F) hm' (by omega) h2 h3 hF hg
  exact ⟨rfl, F', ⟨_, fun hd => dead_more hm.ok _ _ (h4 ▸ hd), hv⟩, hb, ho⟩
theorem fv_same (F : Nat → Prop) (w w' : World) (u : Value) (t : Rx) (s : List UInt8) (d : Bool) (h : Fv F w u t s d) (hb : Below w.heap.size w w') : Turns F w w' (fun F' => Fv F' w' u t s d) :=
  ⟨F, fv_keep F (fun _ => False) w w' u t s d h (But.below hb) (fun _ h => h.elim), But.below hb, fun k hk => Or.inl hk⟩
theorem fv_yes (F : Nat → Prop) (w : World) (u : Value) (t : Rx) (s : List UInt8) (d b : Bool) (hT : Tab w) (h : Fv F w u t s d) (hb : b = true ↔ Fit s t 0 s.length) :
    Calls Tryd.prog 11 #[u] w fun e w' => e = .returned (.bool b) ∧ Turns F w w' (fun F' => Fv F' w' u t s d) := by
  obtain ⟨f, g, cap, rfl, hm, h1, h2, h3, h4, hF⟩ := id h
  refine (fyes_any t.prog f g cap s.length _ w hT hm).mono ?_
  rintro e w' ⟨rfl, hbl⟩
  have e : yesF t.prog s = b := by
    have := yes_fit t h2 h3 s
    cases b <;> cases hy : yesF t.prog s <;> simp_all
  exact ⟨by rw [← e]; rfl, fv_same F w w' _ t s d h hbl⟩
theorem fv_new (t : Rx) (v : Value) (w : World) (hT : Tab w) (ht : t.Ok) (hN : NsIn w v t.flat) (hw : ∀ n ∈ t.flat, n.wf) (hf : faultL t.flat = 0) :
    Calls Tryd.prog 6 #[v] w fun e w' => ∃ u F d, e = .returned (.tuple #[u, .nilIface]) ∧ Fv F w' u t [] d ∧ Below w.heap.size w w' ∧ ∀ k, F k → w.heap.size ≤ k := by
  refine (fnew_ok t ht v w hT hN hw hf).mono ?_
  rintro e w' ⟨f, g, cap, rfl, hm, hb, h1, h2⟩
  refine ⟨_, fun k => k = f ∨ k = g, _, rfl, ⟨f, g, cap, rfl, hm, by simp, ht, fun n hn => (((faultL_zero t.flat).1 hf).2.1 n hn).1, rfl, fun k => Iff.rfl⟩, hb, ?_⟩
  rintro k (rfl | rfl)
  · exact h1
  · exact h2
theorem feedO : FeedO Tab Fv where
  lt := fv_lt
  keep := fun F G w w' u t s d h hb hG => fv_keep F G w w' u t s d h hb hG
  new := fv_new
  put := fun F w u t s d p hT h _ hs => fv_put F w u t s d p hT h hs
  yes := fun F w u t s d b hT h hb => fv_yes F w u t s d b hT h hb
end Go.Proofs.YteeamifjldoihaaDoor
namespace Go.Proofs.YteeamifjldoihaaDoor
set_option linter.unusedSimpArgs false
set_option linter.unusedVariables false
set_option maxRecDepth 100000
open Go.RowKit
/-- What is wrong with a pattern or a text of n bytes. -/
def meanF (ns : List Nd) (n : Nat) : Int := if faultL ns = 0 then (if 400 < n then 3 else 0) else faultL ns
/-- What is wrong with them or a place. -/
def meanE (ns : List Nd) (n : Nat) (i : Int) : Int := if meanF ns n = 0 then (if 0 ≤ i ∧ i ≤ n then 0 else 1) else meanF ns n
theorem meanF_zero (ns : List Nd) (n : Nat) : meanF ns n = 0 ↔ faultL ns = 0 ∧ n ≤ 400 := by
  unfold meanF
  by_cases h : faultL ns = 0
  · rw [if_pos h]
    by_cases h4 : 400 < n
    · rw [if_pos h4]; simp; omega
    · rw [if_neg h4]; simp [h]; omega
  · rw [if_neg h]; simp [h]
theorem meanE_zero (ns : List Nd) (n : Nat) (i : Int) : meanE ns n i = 0 ↔ faultL ns = 0 ∧ n ≤ 400 ∧ 0 ≤ i ∧ i ≤ n := by
  unfold meanE
  by_cases h : meanF ns n = 0
  · rw [if_pos h]
    obtain ⟨h1, h2⟩ := (meanF_zero ns n).1 h
    by_cases h3 : 0 ≤ i ∧ i ≤ n
    · rw [if_pos h3]; simp [h1, h2, h3]
    · rw [if_neg h3]; simp [h1, h2]; omega
  · rw [if_neg h]
    constructor
    · intro h'; exact absurd h' h
    · rintro ⟨h1, h2, _⟩; exact absurd ((meanF_zero ns n).2 ⟨h1, h2⟩) h
end Go.Proofs.YteeamifjldoihaaDoor
namespace Go.Proofs.YteeamifjldoihaaDoor
set_option linter.unusedSimpArgs false
set_option linter.unusedVariables false
set_option maxRecDepth 100000
open Go.RowKit
/-- What the document asks of package feed. X: what the library's tables hold. Fv F w u t s d: u is a Feed of the pattern t that has the text s, and all that it keeps is in F; d: whether it says that it is dead. -/
structure FeedC (X : World → Prop) (Fv : (Nat → Prop) → World → Value → Rx → List UInt8 → Bool → Prop) : Prop where
  lt : ∀ F w u t s d, Fv F w u t s d → ∀ k, F k → k < w.heap.size
  ptr : ∀ F w u t s d, Fv F w u t s d → ∃ a, u = .pointer (some a)
  keep : ∀ F G w w' u t s d, Fv F w u t s d → But G w w' → (∀ k, G k → ¬ F k) → Fv F w' u t s d
  dead : ∀ F w u t s, Fv F w u t s true → ∀ m, ¬ Fit (s ++ m) t 0 (s ++ m).length
  bad : ∀ ns v w, NsIn w v ns → (∀ n ∈ ns, n.wf) → ¬ faultL ns = 0 → Calls Tryd.prog 6 #[v] w fun e w' => ∃ a, e = .returned (.tuple #[.pointer a, errV (faultL ns)]) ∧ Below w.heap.size w w'
  new : ∀ (t : Rx) v w, X w → t.Ok → NsIn w v t.flat → (∀ n ∈ t.flat, n.wf) → faultL t.flat = 0 → Calls Tryd.prog 6 #[v] w fun e w' => ∃ u F d, e = .returned (.tuple #[u, .nilIface]) ∧ Fv F w' u t [] d ∧ Below w.heap.size w w' ∧ ∀ k, F k → w.heap.size ≤ k
  put : ∀ F w u t s d (p : ByteArray), X w → Fv F w u t s d → p.size ≤ 140737488355328 → s.length + p.size ≤ 400 → Calls Tryd.prog 8 #[u, .string p] w fun e w' => e = .returned .nilIface ∧ Turns F w w' (fun F' => ∃ d', (d = true → d' = true) ∧ Fv F' w' u t (s ++ p.data.toList) d')
  full : ∀ F w u t s d (p : ByteArray), X w → Fv F w u t s d → p.size ≤ 140737488355328 → 400 < s.length + p.size → Calls Tryd.prog 8 #[u, .string p] w fun e w' => e = .returned (errV 3) ∧ Turns F w w' (fun F' => Fv F' w' u t s d)
  yes : ∀ F w u t s d (b : Bool), X w → Fv F w u t s d → (b = true ↔ Fit s t 0 s.length) → Calls Tryd.prog 11 #[u] w fun e w' => e = .returned (.bool b) ∧ Turns F w w' (fun F' => Fv F' w' u t s d)
  said : ∀ F w u t s d, X w → Fv F w u t s d → Calls Tryd.prog 12 #[u] w fun e w' => e = .returned (.bool d) ∧ Turns F w w' (fun F' => Fv F' w' u t s d)
  len : ∀ F w u t s d, X w → Fv F w u t s d → Calls Tryd.prog 10 #[u] w fun e w' => e = .returned (.int .i64 (s.length : Int)) ∧ Turns F w w' (fun F' => Fv F' w' u t s d)
  again : ∀ F w u t s d, X w → Fv F w u t s d → Calls Tryd.prog 15 #[u] w fun e w' => e = .returned (.tuple #[]) ∧ Turns F w w' (fun F' => ∃ d', Fv F' w' u t [] d')
end Go.Proofs.YteeamifjldoihaaDoor
namespace Go.Proofs.YteeamifjldoihaaDoor
set_option linter.unusedSimpArgs false
set_option linter.unusedVariables false
set_option maxRecDepth 100000
open Go.RowKit Go.Shelf
attribute [local go_sem] Oper.semAt_some
theorem Fm.cr {ss : List St} {f g cap n : Nat} {p : Nat → Bool} {w : World} (h : Fm ss f g cap n p w) : (∀ d o, (Go.Sort.grow (redrawn w d) o).cell? ⟨f, 0, none⟩ = some (.slice (some ⟨g, 0, none⟩) ss.length cap)) ∧ (∀ d o, (Go.Sort.grow (redrawn w d) o).cell? ⟨f, 2, none⟩ = some (.int .u64 (wd p 0))) ∧ (∀ d o, (Go.Sort.grow (redrawn w d) o).cell? ⟨f, 3, none⟩ = some (.int .u64 (wd p 1))) ∧ (∀ d o, (Go.Sort.grow (redrawn w d) o).cell? ⟨f, 4, none⟩ = some (.int .u64 (wd p 2))) ∧ (∀ d o, (Go.Sort.grow (redrawn w d) o).cell? ⟨f, 5, none⟩ = some (.int .u64 (wd p 3))) :=
  ⟨fun d o => (h.below (below_regrown w d o)).all.1, fun d o => (h.below (below_regrown w d o)).all.2.2.1, fun d o => (h.below (below_regrown w d o)).all.2.2.2.1, fun d o => (h.below (below_regrown w d o)).all.2.2.2.2.1, fun d o => (h.below (below_regrown w d o)).all.2.2.2.2.2⟩
set_option maxHeartbeats 4000000 in
theorem fdead_any (ss : List St) (f g cap n : Nat) (p : Nat → Bool) (w : World) (hT : Tab w) (h : Fm ss f g cap n p w) :
    Calls Tryd.prog 12 #[.pointer (some ⟨f, 0, none⟩)] w fun e w' => e = .returned (.bool (!donF ss (cloF ss (decide (n = 0)) true p) && !donF ss (cloF ss false true (latF ss p)))) ∧ Below w.heap.size w w' := by
  have CY := hid (fun w' (hb : Below w.heap.size w w') => fyes_any ss f g cap n p w' (hT.below hb (Nat.le_refl _)) (h.below hb))
  have CL := hid (fun w' (hb : Below w.heap.size w w') => slater_any ss h.fault g 0 cap p h.sub w' (hT.below hb (Nat.le_refl _)) (h.below hb).glt (h.below hb).steps)
  have CD := hid (fun w' (hb : Below w.heap.size w w') => fisDone_any ss f g cap n p (latF ss p) (lat_sub (leads_of h.fault)) false true w' (hT.below hb (Nat.le_refl _)) (h.below hb))
  obtain ⟨c0, c2, c3, c4, c5⟩ := h.cr
  generalize donF ss (cloF ss (decide (n = 0)) true p) = y at *
  generalize donF ss (cloF ss false true (latF ss p)) = m at *
  unfold stV at CL CD
  clear h hT
  cases y with
  | true =>
    go_enter Tryd.func12, Tryd.ntmps12
    go_wp2_with fail
    refine wp_region_quiet_below (by kernel_rfl) (by kernel_rfl) ?_
    repeat (go_big_quiet_step (first
      | (go_at_call 11; exact Calls.regrown_of (CY.out _ (below_regrown _ _ _)))))
    refine wpQuiet_nil ?_
    intro _ hw'
    obtain ⟨⟨dq, osq⟩, hw''⟩ := hw'
    have hbz := below_regrown w dq osq
    subst hw''
    generalize Go.Sort.grow (redrawn w dq) osq = wz at *
    go_wp2
    go_ret
    exact ⟨rfl, hbz⟩
  | false =>
    go_enter Tryd.func12, Tryd.ntmps12
    go_wp2_with fail
    refine wp_region_quiet_below (by kernel_rfl) (by kernel_rfl) ?_
    repeat (go_big_quiet_step (first
      | (go_at_call 11; exact Calls.regrown_of (CY.out _ (below_regrown _ _ _)))
      | (go_at_call 24; exact Calls.regrown_of (CL.out _ (below_regrown _ _ _)))
      | (go_at_call 23; exact Calls.regrown_of (CD.out _ (below_regrown _ _ _)))))
    refine wpQuiet_nil ?_
    intro _ hw'
    obtain ⟨⟨dq, osq⟩, hw''⟩ := hw'
    have hbz := below_regrown w dq osq
    subst hw''
    generalize Go.Sort.grow (redrawn w dq) osq = wz at *
    go_wp2
    go_ret
    exact ⟨by cases m <;> rfl, hbz⟩
set_option maxHeartbeats 1000000 in
theorem flen_any (ss : List St) (f g cap n : Nat) (p : Nat → Bool) (w : World) (h : Fm ss f g cap n p w) :
    Calls Tryd.prog 10 #[.pointer (some ⟨f, 0, none⟩)] w fun e w' => e = .returned (.int .i64 (n : Int)) ∧ Below w.heap.size w w' := by
  obtain ⟨c0, c1, c2, c3, c4, c5⟩ := h.all
  clear h
  go_enter Tryd.func10, Tryd.ntmps10
  go_wp2
  go_ret
  exact ⟨rfl, Below.refl _ _⟩
theorem feedC : FeedC Tab Fv where
  lt := fv_lt
  ptr := fun F w u t s d h => by
    obtain ⟨f, g, cap, rfl, _⟩ := h
    exact ⟨_, rfl⟩
  keep := fun F G w w' u t s d h hb hG => fv_keep F G w w' u t s d h hb hG
  dead := fun F w u t s h m => by
    obtain ⟨f, g, cap, rfl, hm, h1, h2, h3, h4, hF⟩ := h
    exact dead_fit t h2 h3 hm.ok s m h4.symm
  bad := fun ns v w h _ hf => (fnew_bad ns v w h hf).mono (fun e w' ⟨h1, h2⟩ => ⟨none, h1, h2⟩)
  new := fv_new
  put := fun F w u t s d p hT h _ hs => fv_put F w u t s d p hT h hs
  full := fun F w u t s d p hT h hp hs => by
    obtain ⟨f, g, cap, rfl, hm, h1, h2, h3, h4, hF⟩ := id h
    refine (fput_full t.prog f g cap s.length _ p w hm hp h1 hs).mono ?_
    rintro e w' ⟨rfl, hb⟩
    exact ⟨rfl, fv_same F w w' _ t s d h hb⟩
  yes := fun F w u t s d b hT h hb => fv_yes F w u t s d b hT h hb
  said := fun F w u t s d hT h => by
    obtain ⟨f, g, cap, rfl, hm, h1, h2, h3, h4, hF⟩ := id h
    refine (fdead_any t.prog f g cap s.length _ w hT hm).mono ?_
    rintro e w' ⟨rfl, hb⟩
    exact ⟨by rw [h4]; rfl, fv_same F w w' _ t s d h hb⟩
  len := fun F w u t s d hT h => by
    obtain ⟨f, g, cap, rfl, hm, h1, h2, h3, h4, hF⟩ := id h
    refine (flen_any t.prog f g cap s.length _ w hm).mono ?_
    rintro e w' ⟨rfl, hb⟩
    exact ⟨rfl, fv_same F w w' _ t s d h hb⟩
  again := fun F w u t s d hT h => by
    obtain ⟨f, g, cap, rfl, hm, h1, h2, h3, h4, hF⟩ := id h
    refine (fagain_any t.prog f g cap s.length _ w hT hm).mono ?_
    rintro e w' ⟨rfl, hm', hg⟩
    obtain ⟨F', hv, hb, ho⟩ := fv_turns (F := F) (s := []) hm' (by simp) h2 h3 hF hg
    exact ⟨rfl, F', ⟨_, hv⟩, hb, ho⟩
end Go.Proofs.YteeamifjldoihaaDoor
namespace Go.Proofs.YteeamifjldoihaaDoor
set_option linter.unusedSimpArgs false
set_option linter.unusedVariables false
open Go.RowKit

/-- Block b holds a set of places. -/
def Hp (w : World) (b : Nat) (p : Nat → Bool) : Prop := w.heap[b]? = some (.cells #[.int .u64 (wd p 0), .int .u64 (wd p 1), .int .u64 (wd p 2), .int .u64 (wd p 3), .int .u64 (wd p 4), .int .u64 (wd p 5), .int .u64 (wd p 6)] 72 (0, 0))
theorem Hp.cell {w : World} {b : Nat} {p : Nat → Bool} (h : Hp w b p) (i : Nat) (hi : i < 7) : w.cell? ⟨b, i, none⟩ = some (.int .u64 (wd p i)) := by
  rw [Lib.cell_of_heap h]
  have := cellsP_get p i hi
  simpa [cellsP] using this
theorem Hp.frozen {w : World} {b : Nat} {p : Nat → Bool} (h : Hp w b p) (i : Nat) : w.frozen? ⟨b, i, none⟩ = false := Lib.frozen_of_heap h i
theorem Hp.all {w : World} {b : Nat} {p : Nat → Bool} (h : Hp w b p) : w.cell? ⟨b, 0, none⟩ = some (.int .u64 (wd p 0)) ∧ w.cell? ⟨b, 1, none⟩ = some (.int .u64 (wd p 1)) ∧ w.cell? ⟨b, 2, none⟩ = some (.int .u64 (wd p 2)) ∧ w.cell? ⟨b, 3, none⟩ = some (.int .u64 (wd p 3)) ∧ w.cell? ⟨b, 4, none⟩ = some (.int .u64 (wd p 4)) ∧ w.cell? ⟨b, 5, none⟩ = some (.int .u64 (wd p 5)) ∧ w.cell? ⟨b, 6, none⟩ = some (.int .u64 (wd p 6)) :=
  ⟨h.cell 0 (by decide), h.cell 1 (by decide), h.cell 2 (by decide), h.cell 3 (by decide), h.cell 4 (by decide), h.cell 5 (by decide), h.cell 6 (by decide)⟩
theorem Hp.frz {w : World} {b : Nat} {p : Nat → Bool} (h : Hp w b p) : w.frozen? ⟨b, 0, none⟩ = false ∧ w.frozen? ⟨b, 1, none⟩ = false ∧ w.frozen? ⟨b, 2, none⟩ = false ∧ w.frozen? ⟨b, 3, none⟩ = false ∧ w.frozen? ⟨b, 4, none⟩ = false ∧ w.frozen? ⟨b, 5, none⟩ = false ∧ w.frozen? ⟨b, 6, none⟩ = false :=
  ⟨h.frozen 0, h.frozen 1, h.frozen 2, h.frozen 3, h.frozen 4, h.frozen 5, h.frozen 6⟩
theorem Hp.lt {w : World} {b : Nat} {p : Nat → Bool} (h : Hp w b p) : b < w.heap.size := by
  rcases Nat.lt_or_ge b w.heap.size with h' | h'
  · exact h'
  · simp [Hp, Array.getElem?_eq_none h'] at h
theorem Hp.drew {w : World} {b : Nat} {p : Nat → Bool} (h : Hp w b p) : Hp w.drew b p := h
theorem Hp.below {w w' : World} {B b : Nat} {p : Nat → Bool} (h : Hp w b p) (hb : Below B w w') (hlt : b < B) : Hp w' b p := (hb.block b hlt).trans h
theorem Hp.grown {w w' : World} {b : Nat} {p : Nat → Bool} {row : Option Nat} (h : Hp w b p) (hg : w.grownBy w' row) (hne : some b ≠ row) : Hp w' b p := (hg.block b h.lt hne).trans h
theorem Hp.alloc {w : World} {b : Nat} {p : Nat → Bool} (h : Hp w b p) (o : Obj) : Hp (w.alloc o) b p := (Below.heap_alloc w o b h.lt).trans h
theorem Hp.new (w : World) (p : Nat → Bool) (b : Nat) (hb : b = w.heap.size) : Hp (w.alloc (.cells #[.int .u64 (wd p 0), .int .u64 (wd p 1), .int .u64 (wd p 2), .int .u64 (wd p 3), .int .u64 (wd p 4), .int .u64 (wd p 5), .int .u64 (wd p 6)] 72)) b p := by subst hb; exact heap_alloc_new w _
theorem Hp.zero (w : World) (b : Nat) (hb : b = w.heap.size) : Hp (w.alloc (.cells #[.int .u64 0, .int .u64 0, .int .u64 0, .int .u64 0, .int .u64 0, .int .u64 0, .int .u64 0] 72)) b noP := by
  subst hb
  unfold Hp
  rw [wd_no, wd_no, wd_no, wd_no, wd_no, wd_no, wd_no]
  exact heap_alloc_new w _
theorem Hp.congr {w : World} {b : Nat} {p q : Nat → Bool} (h : Hp w b p) (hpq : ∀ j, j < 448 → p j = q j) : Hp w b q := by
  have e := cellsP_congr hpq
  unfold cellsP at e
  unfold Hp at h ⊢
  rw [h]
  simp only [Option.some.injEq, Obj.cells.injEq, and_true]
  simpa using e
theorem Hp.other {w : World} {b : Nat} {p : Nat → Bool} (h : Hp w b p) (a : Addr) (v : Value) (hp : b ≠ a.block) : Hp (w.setCell a v) b p := (Below.heap_setCell w a v b hp).trans h
/-- One word is set. -/
theorem Hp.store {w : World} {b : Nat} {p q : Nat → Bool} (h : Hp w b p) (i : Nat) (hi : i < 7) (z : Int) (hs : (cellsP p).set i (.int .u64 z) = cellsP q) : Hp (w.setCell ⟨b, i, none⟩ (.int .u64 z)) b q := by
  unfold cellsP at hs
  unfold Hp at h ⊢
  simp [World.setCell, Array.getElem?_modify, h, hs]
/-- All seven words are set. -/
abbrev put7 (w : World) (b : Nat) (q : Nat → Bool) : World := ((((((w.setCell ⟨b, 0, none⟩ (.int .u64 (wd q 0))).setCell ⟨b, 1, none⟩ (.int .u64 (wd q 1))).setCell ⟨b, 2, none⟩ (.int .u64 (wd q 2))).setCell ⟨b, 3, none⟩ (.int .u64 (wd q 3))).setCell ⟨b, 4, none⟩ (.int .u64 (wd q 4))).setCell ⟨b, 5, none⟩ (.int .u64 (wd q 5))).setCell ⟨b, 6, none⟩ (.int .u64 (wd q 6))
theorem Hp.put7 {w : World} {b : Nat} {p : Nat → Bool} (h : Hp w b p) (q : Nat → Bool) : Hp (put7 w b q) b q := by
  unfold Hp at h ⊢
  simp [World.setCell, Array.getElem?_modify, h]
theorem Hp.other7 {w : World} {b c : Nat} {p : Nat → Bool} (h : Hp w b p) (q : Nat → Bool) (hc : b ≠ c) : Hp (Go.Proofs.YteeamifjldoihaaDoor.put7 w c q) b p :=
  ((((((h.other _ _ hc).other _ _ hc).other _ _ hc).other _ _ hc).other _ _ hc).other _ _ hc).other _ _ hc
theorem below_put7 {w0 w : World} {B b : Nat} (h : Below B w0 w) (hb : B ≤ b) (q : Nat → Bool) : Below B w0 (put7 w b q) :=
  ((((((h.setCell hb _).setCell hb _).setCell hb _).setCell hb _).setCell hb _).setCell hb _).setCell hb _
theorem put7_size (w : World) (b : Nat) (q : Nat → Bool) : (put7 w b q).heap.size = w.heap.size := by simp [World.setCell]
theorem grown_set (w : World) (b i : Nat) (v : Value) : w.grownBy (w.setCell ⟨b, i, none⟩ v) (some b) :=
  ⟨rfl, rfl, rfl, by simp [World.setCell], fun k _ hk => Below.heap_setCell _ _ _ _ (fun e => hk (by rw [e]))⟩
theorem grown_put7 (w : World) (b : Nat) (q : Nat → Bool) : w.grownBy (put7 w b q) (some b) :=
  ((((((grown_set w b 0 _).trans (grown_set _ b 1 _)).trans (grown_set _ b 2 _)).trans (grown_set _ b 3 _)).trans (grown_set _ b 4 _)).trans (grown_set _ b 5 _)).trans (grown_set _ b 6 _)
theorem below_grown {w w' : World} (h : Below w.heap.size w w') (row : Option Nat) : w.grownBy w' row := ⟨h.1, h.2, h.3, h.size, fun i hi _ => h.block i hi⟩
theorem agg7 {p q : Nat → Bool} (h : p = q) : Ending.returned (plV p) = .returned (plV q) := by rw [h]
end Go.Proofs.YteeamifjldoihaaDoor
namespace Go.Proofs.YteeamifjldoihaaDoor
set_option linter.unusedSimpArgs false
set_option linter.unusedVariables false
set_option maxRecDepth 100000
open Go.RowKit

/-- The places that stand in a relation to one. -/
noncomputable def rs (R : Nat → Nat → Prop) (i : Nat) : Nat → Bool := fun j => @decide (R i j) (Classical.propDecidable _)
theorem rs_iff {R : Nat → Nat → Prop} {i j : Nat} : rs R i j = true ↔ R i j := @decide_eq_true_iff (R i j) (Classical.propDecidable _)
/-- .. to one of some. -/
noncomputable def ov (R : Nat → Nat → Prop) (l : List Nat) : Nat → Bool := fun j => @decide (∃ k ∈ l, R k j) (Classical.propDecidable _)
theorem ov_iff {R : Nat → Nat → Prop} {l : List Nat} {j : Nat} : ov R l j = true ↔ ∃ k ∈ l, R k j := @decide_eq_true_iff (∃ k ∈ l, R k j) (Classical.propDecidable _)
noncomputable def fs (s : List UInt8) (t : Rx) (i : Nat) : Nat → Bool := rs (Fit s t) i
theorem fs_iff {s : List UInt8} {t : Rx} {i j : Nat} : fs s t i j = true ↔ Fit s t i j := rs_iff
theorem set_ext {p q : Nat → Bool} (h : ∀ j, p j = true ↔ q j = true) : p = q := by
  funext j
  have := h j
  cases hp : p j <;> cases hq : q j <;> simp_all
theorem join_iff {p q : Nat → Bool} {j : Nat} : joinP p q j = true ↔ p j = true ∨ q j = true := by simp [joinP]
theorem with_iff {p : Nat → Bool} {a j : Nat} : withP p a j = true ↔ p j = true ∨ j = a := by simp [withP]
theorem when_iff {so : Bool} {a j : Nat} : whenP so a j = true ↔ so = true ∧ j = a := by simp [whenP]
theorem ov_nil (R : Nat → Nat → Prop) : ov R [] = noP := set_ext fun j => by
  rw [ov_iff]
  simp [noP]
theorem ov_snoc (R : Nat → Nat → Prop) (l : List Nat) (x : Nat) : joinP (ov R l) (rs R x) = ov R (l ++ [x]) := set_ext fun j => by
  rw [join_iff, ov_iff, ov_iff, rs_iff]
  constructor
  · rintro (⟨k, hk, h⟩ | h)
    · exact ⟨k, by simp [hk], h⟩
    · exact ⟨x, by simp, h⟩
  · rintro ⟨k, hk, h⟩
    rw [List.mem_append, List.mem_singleton] at hk
    rcases hk with hk | rfl
    · exact Or.inl ⟨k, hk, h⟩
    · exact Or.inr h
theorem when_true (a : Nat) : whenP true a = withP noP a := set_ext fun j => by rw [when_iff, with_iff]; simp [noP]
theorem when_false (a : Nat) : whenP false a = noP := set_ext fun j => by rw [when_iff]; simp [noP]
/-- Ends, as a list. -/
theorem el_ends {s : List UInt8} {t : Rx} {i : Nat} {l : List Nat} (h : EndsR s t i l) (hs : s.length ≤ 400) : el (fs s t i) 448 = l := by
  refine rise_eq _ _ (List.Pairwise.filter _ List.pairwise_lt_range) h.1 (fun j => ?_)
  rw [el_mem, fs_iff, h.2]
  exact ⟨fun h => h.2, fun h => ⟨by have := fit_le s t i j h; omega, h⟩⟩
/-- The parts of a tree. -/
theorem fs_cat {s : List UInt8} (hs : s.length ≤ 400) (n : Nd) (a b : Rx) (i : Nat) (h3 : n.op = 3) : fs s (.two n a b) i = ov (Fit s b) (el (fs s a i) 448) := set_ext fun j => by
  rw [fs_iff, ov_iff]
  conv => lhs; unfold Fit
  rw [if_pos h3]
  constructor
  · rintro ⟨k, h1, h2⟩
    exact ⟨k, (el_mem _ _ _).2 ⟨by have := fit_le s a i k h1; omega, fs_iff.2 h1⟩, h2⟩
  · rintro ⟨k, h1, h2⟩
    exact ⟨k, fs_iff.1 ((el_mem _ _ _).1 h1).2, h2⟩
theorem fs_or {s : List UInt8} (n : Nd) (a b : Rx) (i : Nat) (h3 : ¬ n.op = 3) : fs s (.two n a b) i = joinP (fs s a i) (fs s b i) := set_ext fun j => by
  rw [fs_iff, join_iff, fs_iff, fs_iff]
  conv => lhs; unfold Fit
  rw [if_neg h3]
theorem fs_opt {s : List UInt8} (n : Nd) (a : Rx) (i : Nat) (hi : i ≤ s.length) (h5 : ¬ n.op = 5) (h6 : ¬ n.op = 6) : fs s (.one n a) i = withP (fs s a i) i := set_ext fun j => by
  rw [fs_iff, with_iff, fs_iff]
  conv => lhs; unfold Fit
  rw [if_neg h5, if_neg h6]
  constructor
  · rintro (⟨h, _⟩ | h)
    · exact Or.inr h.symm
    · exact Or.inl h
  · rintro (h | h)
    · exact Or.inr h
    · exact Or.inl ⟨h.symm, hi⟩
theorem Str.go {N : Nat} {R : Nat → Nat → Prop} (h : ∀ i j, R i j → i ≤ j ∧ j ≤ N) {i j : Nat} (hs : Str N R i j) : j = i ∨ ∃ k, i < k ∧ R i k ∧ Str N R k j := by
  induction hs with
  | nil i hi => exact Or.inl rfl
  | cons i k j h1 h2 ih =>
    rcases Nat.lt_or_ge i k with hik | hik
    · exact Or.inr ⟨k, hik, h1, h2⟩
    · have := (h i k h1).1
      obtain rfl : k = i := by omega
      exact ih
/-- Behind a place ahead. -/
def hop (s : List UInt8) (t : Rx) (i : Nat) : Nat → Nat → Prop := fun k j => i < k ∧ Fit s t k j
theorem fit_star_trans {s : List UInt8} (n : Nd) (a : Rx) (h : n.op = 5 ∨ n.op = 6) {i j k : Nat} (h1 : Fit s (.one n a) i j) (h2 : Fit s (.one n a) j k) : Fit s (.one n a) i k := by
  unfold Fit at h1 h2 ⊢
  by_cases h5 : n.op = 5
  · rw [if_pos h5] at h1 h2 ⊢
    exact h1.trans h2
  · have h6 : n.op = 6 := by omega
    rw [if_neg h5, if_pos h6] at h1 h2 ⊢
    obtain ⟨x, hx, hx'⟩ := h1
    obtain ⟨y, hy, hy'⟩ := h2
    exact ⟨x, hx, hx'.trans (.cons _ y _ hy hy')⟩
theorem fs_plus {s : List UInt8} (hs : s.length ≤ 400) (n : Nd) (a : Rx) (i : Nat) (h6 : n.op = 6) : fs s (.one n a) i = joinP (ov (hop s (.one n a) i) (el (fs s a i) 448)) (fs s a i) := set_ext fun j => by
  have h5 : ¬ n.op = 5 := by omega
  have hfit : ∀ x y, Fit s (.one n a) x y ↔ ∃ k, Fit s a x k ∧ Str s.length (Fit s a) k y := fun x y => by
    conv => lhs; unfold Fit
    rw [if_neg h5, if_pos h6]
  rw [fs_iff, join_iff, ov_iff, fs_iff, hfit]
  constructor
  · rintro ⟨k, h1, h2⟩
    have hle := fit_le s a i k h1
    rcases Str.go (fit_le s a) h2 with rfl | ⟨m, hm, h3, h4⟩
    · exact Or.inr h1
    · rcases Nat.lt_or_ge i k with hik | hik
      · exact Or.inl ⟨k, (el_mem _ _ _).2 ⟨by omega, fs_iff.2 h1⟩, hik, (hfit k j).2 ⟨m, h3, h4⟩⟩
      · obtain rfl : k = i := by omega
        have hle2 := fit_le s a k m h3
        rcases Str.go (fit_le s a) h4 with rfl | ⟨m', hm', h5', h6'⟩
        · exact Or.inr h3
        · exact Or.inl ⟨m, (el_mem _ _ _).2 ⟨by omega, fs_iff.2 h3⟩, hm, (hfit m j).2 ⟨m', h5', h6'⟩⟩
  · rintro (⟨k, h1, h2, h3⟩ | h1)
    · obtain ⟨m, h4, h5'⟩ := (hfit k j).1 h3
      exact ⟨k, fs_iff.1 ((el_mem _ _ _).1 h1).2, .cons _ m _ h4 h5'⟩
    · exact ⟨j, h1, .nil _ (fit_le s a i j h1).2⟩
theorem fs_star {s : List UInt8} (hs : s.length ≤ 400) (n : Nd) (a : Rx) (i : Nat) (hi : i ≤ s.length) (h5 : n.op = 5) : fs s (.one n a) i = withP (joinP (ov (hop s (.one n a) i) (el (fs s a i) 448)) (fs s a i)) i := set_ext fun j => by
  have hfit : ∀ x y, Fit s (.one n a) x y ↔ Str s.length (Fit s a) x y := fun x y => by
    conv => lhs; unfold Fit
    rw [if_pos h5]
  rw [fs_iff, with_iff, join_iff, ov_iff, fs_iff, hfit]
  constructor
  · intro h
    rcases Str.go (fit_le s a) h with rfl | ⟨k, hk, h1, h2⟩
    · exact Or.inr rfl
    · exact Or.inl (Or.inl ⟨k, (el_mem _ _ _).2 ⟨by have := fit_le s a i k h1; omega, fs_iff.2 h1⟩, hk, (hfit k j).2 h2⟩)
  · rintro ((⟨k, h1, h2, h3⟩ | h1) | rfl)
    · exact .cons _ k _ (fs_iff.1 ((el_mem _ _ _).1 h1).2) ((hfit k j).1 h3)
    · exact Str.one (fit_le s a) h1
    · exact .nil _ hi
/-- What follows a place that is there already is there already. -/
theorem hop_known {s : List UInt8} (n : Nd) (a : Rx) (h : n.op = 5 ∨ n.op = 6) (i : Nat) (l : List Nat) (x : Nat) (hx : ov (hop s (.one n a) i) l x = true) : ov (hop s (.one n a) i) (l ++ [x]) = ov (hop s (.one n a) i) l := set_ext fun j => by
  rw [ov_iff, ov_iff]
  constructor
  · rintro ⟨k, hk, h1, h2⟩
    rw [List.mem_append, List.mem_singleton] at hk
    rcases hk with hk | rfl
    · exact ⟨k, hk, h1, h2⟩
    · obtain ⟨m, hm, h3, h4⟩ := ov_iff.1 hx
      exact ⟨m, hm, h3, fit_star_trans n a h h4 h2⟩
  · rintro ⟨k, hk, h1⟩
    exact ⟨k, by simp [hk], h1⟩
theorem hop_back {s : List UInt8} (t : Rx) (i : Nat) (l : List Nat) (x : Nat) (hx : ¬ i < x) : ov (hop s t i) (l ++ [x]) = ov (hop s t i) l := set_ext fun j => by
  rw [ov_iff, ov_iff]
  constructor
  · rintro ⟨k, hk, h1, h2⟩
    rw [List.mem_append, List.mem_singleton] at hk
    rcases hk with hk | rfl
    · exact ⟨k, hk, h1, h2⟩
    · exact absurd h1 hx
  · rintro ⟨k, hk, h1⟩
    exact ⟨k, by simp [hk], h1⟩
theorem hop_on {s : List UInt8} (t : Rx) (i : Nat) (l : List Nat) (x : Nat) (hx : i < x) : joinP (ov (hop s t i) l) (fs s t x) = ov (hop s t i) (l ++ [x]) := by
  rw [← ov_snoc]
  congr 1
  refine set_ext fun j => ?_
  rw [fs_iff, rs_iff]
  exact ⟨fun h => ⟨hx, h⟩, fun h => h.2⟩
theorem fs_byte {s : List UInt8} (n : Nd) (i : Nat) (h1 : n.op = 1) : fs s (.leaf n) i = whenP (match s[i]? with | some c => n.c.has c.toNat | none => false) (i + 1) := set_ext fun j => by
  rw [fs_iff, when_iff]
  unfold Fit
  rw [if_pos h1]
  cases hc : s[i]? with
  | none => simp
  | some c => simp
theorem fs_begin {s : List UInt8} (n : Nd) (i : Nat) (h8 : n.op = 8) : fs s (.leaf n) i = whenP (decide (i = 0)) i := set_ext fun j => by
  rw [fs_iff, when_iff]
  unfold Fit
  rw [if_neg (by omega), if_pos h8]
  simp
  omega
theorem fs_end {s : List UInt8} (n : Nd) (i : Nat) (h9 : n.op = 9) : fs s (.leaf n) i = whenP (decide (i = s.length)) i := set_ext fun j => by
  rw [fs_iff, when_iff]
  unfold Fit
  rw [if_neg (by omega), if_neg (by omega), if_pos h9]
  simp
  omega
theorem fs_empty {s : List UInt8} (n : Nd) (i : Nat) (hi : i ≤ s.length) (h1 : ¬ n.op = 1) (h8 : ¬ n.op = 8) (h9 : ¬ n.op = 9) : fs s (.leaf n) i = whenP true i := set_ext fun j => by
  rw [fs_iff, when_iff]
  unfold Fit
  rw [if_neg h1, if_neg h8, if_neg h9]
  simp
  omega
/-- A tree is told by its nodes, whatever is behind. -/
theorem flat_pre : ∀ (t u : Rx), t.Ok → u.Ok → ∀ (q r : List Nd), t.flat ++ q = u.flat ++ r → t = u ∧ q = r
  | .leaf n, .leaf m, _, _, q, r, h => by
    simp [Rx.flat] at h
    exact ⟨by rw [h.1], h.2⟩
  | .leaf n, .one m a, ht, hu, q, r, h => by
    simp [Rx.flat] at h
    simp only [Rx.Ok] at ht hu
    rw [h.1] at ht
    omega
  | .leaf n, .two m a b, ht, hu, q, r, h => by
    simp [Rx.flat] at h
    simp only [Rx.Ok] at ht hu
    rw [h.1] at ht
    omega
  | .one n a, .leaf m, ht, hu, q, r, h => by
    simp [Rx.flat] at h
    simp only [Rx.Ok] at ht hu
    rw [h.1] at ht
    omega
  | .one n a, .one m b, ht, hu, q, r, h => by
    simp [Rx.flat] at h
    obtain ⟨h1, h2⟩ := flat_pre a b ht.2 hu.2 _ _ h.2
    exact ⟨by rw [h.1, h1], h2⟩
  | .one n a, .two m b c, ht, hu, q, r, h => by
    simp [Rx.flat] at h
    simp only [Rx.Ok] at ht hu
    rw [h.1] at ht
    omega
  | .two n a b, .leaf m, ht, hu, q, r, h => by
    simp [Rx.flat] at h
    simp only [Rx.Ok] at ht hu
    rw [h.1] at ht
    omega
  | .two n a b, .one m c, ht, hu, q, r, h => by
    simp [Rx.flat] at h
    simp only [Rx.Ok] at ht hu
    rw [h.1] at ht
    omega
  | .two n a b, .two m c d, ht, hu, q, r, h => by
    simp [Rx.flat] at h
    obtain ⟨h1, h2⟩ := flat_pre a c ht.2.1 hu.2.1 _ _ h.2
    obtain ⟨h3, h4⟩ := flat_pre b d ht.2.2 hu.2.2 _ _ h2
    exact ⟨by rw [h.1, h1, h3], h4⟩
/-- A list of things that are apart, each one of N, has at most N. -/
theorem pigeon {α : Type} (f : Nat → α) : ∀ (N : Nat) (l : List α), l.Pairwise (fun a b => a ≠ b) → (∀ k ∈ l, ∃ c, c < N ∧ k = f c) → l.length ≤ N
  | 0, [], _, _ => Nat.le_refl _
  | 0, a :: l, _, h => by obtain ⟨c, hc, _⟩ := h a (by simp); omega
  | N + 1, l, hp, h => by
    haveI : DecidableEq α := fun a b => Classical.propDecidable (a = b)
    have h1 := pigeon f N (l.filter fun a => !decide (a = f N)) (hp.filter _) (fun k hk => by
      rw [List.mem_filter] at hk
      obtain ⟨c, hc, rfl⟩ := h k hk.1
      refine ⟨c, ?_, rfl⟩
      rcases Nat.lt_or_ge c N with h' | h'
      · exact h'
      · obtain rfl : c = N := by omega
        simp at hk)
    have h2 : ∀ (l : List α), l.Pairwise (fun a b => a ≠ b) → l.length ≤ (l.filter fun a => !decide (a = f N)).length + 1 := by
      intro l
      induction l with
      | nil => intro _; simp
      | cons a l ih =>
        intro hp
        rw [List.pairwise_cons] at hp
        by_cases ha : a = f N
        · have e : l.filter (fun a => !decide (a = f N)) = l := List.filter_eq_self.2 fun b hb => by
            have := hp.1 b hb
            simp
            intro e
            exact this (ha.trans e.symm)
          rw [List.filter_cons, e]
          simp [ha]
        · rw [List.filter_cons]
          have := ih hp.2
          simp [ha]
          omega
    have := h2 l hp
    omega
end Go.Proofs.YteeamifjldoihaaDoor
