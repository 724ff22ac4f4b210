/- Package feed: New; what the document asks of it. What is wrong with a pattern, a text, a place: plain words, no function. What the document asks of package feed. Package feed: Dead, Len; all that the document asks of it. Sets of places in memory: rows of bools. make of a row of bools. What the document's own functions answer: joined. What the document's own functions (package winnowfanref1) answer: In, With, OfText, Others, Count. -/
import Derived.Test.YteeamifjldoihaaDoorY13
import Derived.Test.YteeamifjldoihaaDoorY04
import Derived.Test.YteeamifjldoihaaDoorY11
import Derived.Test.YteeamifjldoihaaDoorY02
import Derived.Test.YteeamifjldoihaaDoorY09
import Derived.OwnWalk
import Derived.KernelRfl
import Derived.Test.YteeamifjldoihaaDoorY01
namespace Go.Proofs.YteeamifjldoihaaDoor
set_option linter.unusedSimpArgs false
set_option linter.unusedVariables false
set_option maxRecDepth 100000
open Go.RowKit Go.Shelf
attribute [local go_sem] Oper.semAt_some
set_option maxHeartbeats 1000000 in
theorem fnew_bad (ns : List Nd) (v : Value) (w : World) (h : NsIn w v ns) (hf : ¬ faultL ns = 0) :
    Calls Tryd.prog 6 #[v] w fun e w' => e = .returned (.tuple #[.pointer none, errV (faultL ns)]) ∧ Below w.heap.size w w' := by
  have HC := hid (pof_bad ns v w h hf)
  rw [show errV (faultL ns) = .iface 24 (.int .i64 (faultL ns)) by unfold errV; rw [if_neg hf]] at HC ⊢
  obtain ⟨va, vc, rfl, vm⟩ := nsIn_form h
  clear h hf
  go_enter Tryd.func6, Tryd.ntmps6
  go_wp2_with fail
  refine Calls.mono HC.out ?_
  rintro e w1 ⟨a1, c1, rfl, hb⟩
  go_wp2
  go_ret2
  exact ⟨rfl, hb⟩
set_option maxHeartbeats 4000000 in
theorem fnew_ok (t : Rx) (ht : t.Ok) (v : Value) (w : World) (hT : Tab w) (h : NsIn w v t.flat) (hw : ∀ n ∈ t.flat, n.wf) (hf : faultL t.flat = 0) :
    Calls Tryd.prog 6 #[v] w fun e w' => ∃ f g cap, e = .returned (.tuple #[.pointer (some ⟨f, 0, none⟩), .nilIface]) ∧ Fm t.prog f g cap 0 (begS t.prog true false) w' ∧ Below w.heap.size w w' ∧ w.heap.size ≤ f ∧ w.heap.size ≤ g := by
  obtain ⟨h60, hops, -⟩ := (faultL_zero t.flat).1 hf
  have HPF := hid (prog_fault t h60)
  have HOK : Hid (SsOk t.prog) := fun n hn => C4.wf_ok (prog_wf t h60 hw n hn).2.1
  have HC := hid (pof_tree t ht v w h hf)
  have HN : Hid (∀ u w', SsIn w' u t.prog → _) := fun u w' hs => waysOf_ok t.prog u w' HPF.out hs
  have HT := hid hT
  have HTL := hid (tab_lt hT)
  obtain ⟨va, vc, rfl, vm⟩ := nsIn_form h
  clear h hf hops h60 hT hw
  go_enter Tryd.func6, Tryd.ntmps6
  go_wp2_with fail
  refine Calls.mono HC.out ?_
  rintro e w1 ⟨u1, rfl, hs, hb⟩
  have B1 := hid hb
  have HS := hid (HN.out u1 w1 hs)
  obtain ⟨a1, c1, rfl, -⟩ := ssIn_form hs
  clear hb HC HN hs
  go_wp2_with fail
  refine Calls.mono HS.out ?_
  rintro e w2 ⟨g, c, rfl, hb2, hN2, hg, hgl⟩
  have B2 := hid (B1.out.trans (hb2.mono B1.out.size))
  obtain ⟨w3, hw3⟩ : ∃ w3, (w2.alloc (.cells #[.slice (some ⟨g, 0, none⟩) t.prog.length c] 53)).alloc (.cells #[.slice (some ⟨g, 0, none⟩) t.prog.length c, .int .i64 0, .int .u64 0, .int .u64 0, .int .u64 0, .int .u64 0] 59) = w3 := ⟨_, rfl⟩
  have hb3 : Below w2.heap.size w2 w3 := by rw [← hw3]; exact ((Below.refl _ _).alloc (Nat.le_refl _) _).alloc (by simp) _
  have ha3 : w3.heap[w2.heap.size + 1]? = some (.cells #[.slice (some ⟨g, 0, none⟩) t.prog.length c, .int .i64 0, .int .u64 0, .int .u64 0, .int .u64 0, .int .u64 0] 59 (0, 0)) := by
    rw [← hw3]
    have := World.alloc_heap_new (w2.alloc (.cells #[.slice (some ⟨g, 0, none⟩) t.prog.length c] 53)) (.cells #[.slice (some ⟨g, 0, none⟩) t.prog.length c, .int .i64 0, .int .u64 0, .int .u64 0, .int .u64 0, .int .u64 0] 59)
    rwa [World.size_alloc] at this
  have hs2 := B2.out.size
  have hs1 := B1.out.size
  have hm3 : Fm t.prog (w2.heap.size + 1) g c 0 noP w3 := by
    refine ⟨by rw [wd_no, wd_no, wd_no, wd_no]; exact ha3, hN2.below hb3 hgl, Nat.lt_of_lt_of_le hgl hb3.size, by omega, HPF.out, HOK.out, (fun k hk => by cases hk), by have := HTL.out; omega⟩
  have HT3 := HT.out.below (B2.out.trans (hb3.mono hs2)) (Nat.le_refl _)
  have CF := hid (fagain_any t.prog (w2.heap.size + 1) g c 0 noP w3 HT3 hm3)
  have HB3 := hid (B2.out.trans (hb3.mono hs2))
  have HG : Hid (w.heap.size ≤ g ∧ w.heap.size ≤ w2.heap.size + 1) := ⟨by omega, by omega⟩
  clear hb2 hN2 hg hgl hb3 ha3 hm3 HT3 hs2 hs1
  go_wp2_with fail
  refine Calls.mono CF.out ?_
  rintro e w4 ⟨rfl, hm4, hg4⟩
  have HR : Hid (Fm t.prog (w2.heap.size + 1) g c 0 (begS t.prog true false) w4 ∧ Below w.heap.size w w4) := ⟨hm4, HB3.out.grown hg4 HB3.out.size (fun k e => by injection e with e; have := HG.out.2; omega)⟩
  clear hm4 hg4
  go_wp2
  go_ret2
  exact ⟨_, g, c, rfl, HR.out.1, HR.out.2, HG.out.2, HG.out.1⟩
/-- A feed of a pattern. -/
def Fv (F : Nat → Prop) (w : World) (u : Value) (t : Rx) (s : List UInt8) (d : Bool) : Prop := ∃ f g cap, u = .pointer (some ⟨f, 0, none⟩) ∧ Fm t.prog f g cap s.length (nowS t.prog s) w ∧ s.length ≤ 400 ∧ t.Ok ∧ (∀ n ∈ t.flat, 1 ≤ n.op ∧ n.op ≤ 9) ∧ d = deadF t.prog s ∧ ∀ k, F k ↔ k = f ∨ k = g
theorem But.of_grown {F : Nat → Prop} {w w' : World} {f : Nat} (h : w.grownBy w' (some f)) (hf : F f) : But F w w' := ⟨h.1, h.2, h.3, h.size, fun k hk hn => h.block k hk (fun e => by injection e with e; exact hn (e ▸ hf))⟩
theorem fv_lt (F : Nat → Prop) (w : World) (u : Value) (t : Rx) (s : List UInt8) (d : Bool) (h : Fv F w u t s d) (k : Nat) (hk : F k) : k < w.heap.size := by
  obtain ⟨f, g, cap, rfl, hm, _, _, _, _, hF⟩ := h
  rcases (hF k).1 hk with rfl | rfl
  · exact heap_lt hm.cells
  · exact hm.glt
theorem fv_keep (F G : Nat → Prop) (w w' : World) (u : Value) (t : Rx) (s : List UInt8) (d : Bool) (h : Fv F w u t s d) (hb : But G w w') (hG : ∀ k, G k → ¬ F k) : Fv F w' u t s d := by
  obtain ⟨f, g, cap, rfl, hm, h1, h2, h3, h4, hF⟩ := h
  have kf : w'.heap[f]? = w.heap[f]? := hb.block f (heap_lt hm.cells) (fun h => hG f h ((hF f).2 (Or.inl rfl)))
  have kg : w'.heap[g]? = w.heap[g]? := hb.block g hm.glt (fun h => hG g h ((hF g).2 (Or.inr rfl)))
  exact ⟨f, g, cap, rfl, ⟨kf.trans hm.cells, hm.steps.of_block kg, Nat.lt_of_lt_of_le hm.glt hb.size, hm.ne, hm.fault, hm.ok, hm.sub, hm.tab⟩, h1, h2, h3, h4, hF⟩
/-- Its text or what it has come to has turned, or it lies as it lay. -/
theorem fv_turns {F : Nat → Prop} {w w' : World} {f g cap : Nat} {t : Rx} {s : List UInt8} (hm : Fm t.prog f g cap s.length (nowS t.prog s) w') (h1 : s.length ≤ 400) (h2 : t.Ok) (h3 : ∀ n ∈ t.flat, 1 ≤ n.op ∧ n.op ≤ 9) (hF : ∀ k, F k ↔ k = f ∨ k = g) (hg : w.grownBy w' (some f)) : Turns F w w' (fun F' => Fv F' w' (.pointer (some ⟨f, 0, none⟩)) t s (deadF t.prog s)) :=
  ⟨F, ⟨f, g, cap, rfl, hm, h1, h2, h3, rfl, hF⟩, But.of_grown hg ((hF f).2 (Or.inl rfl)), fun k hk => Or.inl hk⟩
theorem fv_put (F : Nat → Prop) (w : World) (u : Value) (t : Rx) (s : List UInt8) (d : Bool) (p : ByteArray) (hT : Tab w) (h : Fv F w u t s d) (hs : s.length + p.size ≤ 400) :
    Calls Tryd.prog 8 #[u, .string p] w fun e w' => e = .returned .nilIface ∧ Turns F w w' (fun F' => ∃ d', (d = true → d' = true) ∧ Fv F' w' u t (s ++ p.data.toList) d') := by
  obtain ⟨f, g, cap, rfl, hm, h1, h2, h3, h4, hF⟩ := h
  have hl : (s ++ p.data.toList).length = s.length + p.size := by simp
  refine (fput_any t.prog f g cap s.length _ p w hT hm hs).mono ?_
  rintro e w' ⟨rfl, hm', hg⟩
  rw [now_on, ← hl] at hm'
  obtain ⟨F', hv, hb, ho⟩ := fv_turns (F := F) hm' (by omega) h2 h3 hF hg
  exact ⟨rfl, F', ⟨_, fun hd => dead_more hm.ok _ _ (h4 ▸ hd), hv⟩, hb, ho⟩
theorem fv_same (F : Nat → Prop) (w w' : World) (u : Value) (t : Rx) (s : List UInt8) (d : Bool) (h : Fv F w u t s d) (hb : Below w.heap.size w w') : Turns F w w' (fun F' => Fv F' w' u t s d) :=
  ⟨F, fv_keep F (fun _ => False) w w' u t s d h (But.below hb) (fun _ h => h.elim), But.below hb, fun k hk => Or.inl hk⟩
theorem fv_yes (F : Nat → Prop) (w : World) (u : Value) (t : Rx) (s : List UInt8) (d b : Bool) (hT : Tab w) (h : Fv F w u t s d) (hb : b = true ↔ Fit s t 0 s.length) :
    Calls Tryd.prog 11 #[u] w fun e w' => e = .returned (.bool b) ∧ Turns F w w' (fun F' => Fv F' w' u t s d) := by
  obtain ⟨f, g, cap, rfl, hm, h1, h2, h3, h4, hF⟩ := id h
  refine (fyes_any t.prog f g cap s.length _ w hT hm).mono ?_
  rintro e w' ⟨rfl, hbl⟩
  have e : yesF t.prog s = b := by
    have := yes_fit t h2 h3 s
    cases b <;> cases hy : yesF t.prog s <;> simp_all
  exact ⟨by rw [← e]; rfl, fv_same F w w' _ t s d h hbl⟩
theorem fv_new (t : Rx) (v : Value) (w : World) (hT : Tab w) (ht : t.Ok) (hN : NsIn w v t.flat) (hw : ∀ n ∈ t.flat, n.wf) (hf : faultL t.flat = 0) :
    Calls Tryd.prog 6 #[v] w fun e w' => ∃ u F d, e = .returned (.tuple #[u, .nilIface]) ∧ Fv F w' u t [] d ∧ Below w.heap.size w w' ∧ ∀ k, F k → w.heap.size ≤ k := by
  refine (fnew_ok t ht v w hT hN hw hf).mono ?_
  rintro e w' ⟨f, g, cap, rfl, hm, hb, h1, h2⟩
  refine ⟨_, fun k => k = f ∨ k = g, _, rfl, ⟨f, g, cap, rfl, hm, by simp, ht, fun n hn => (((faultL_zero t.flat).1 hf).2.1 n hn).1, rfl, fun k => Iff.rfl⟩, hb, ?_⟩
  rintro k (rfl | rfl)
  · exact h1
  · exact h2
theorem feedO : FeedO Tab Fv where
  lt := fv_lt
  keep := fun F G w w' u t s d h hb hG => fv_keep F G w w' u t s d h hb hG
  new := fv_new
  put := fun F w u t s d p hT h _ hs => fv_put F w u t s d p hT h hs
  yes := fun F w u t s d b hT h hb => fv_yes F w u t s d b hT h hb
end Go.Proofs.YteeamifjldoihaaDoor
namespace Go.Proofs.YteeamifjldoihaaDoor
set_option linter.unusedSimpArgs false
set_option linter.unusedVariables false
set_option maxRecDepth 100000
open Go.RowKit
/-- What is wrong with a pattern or a text of n bytes. -/
def meanF (ns : List Nd) (n : Nat) : Int := if faultL ns = 0 then (if 400 < n then 3 else 0) else faultL ns
/-- What is wrong with them or a place. -/
def meanE (ns : List Nd) (n : Nat) (i : Int) : Int := if meanF ns n = 0 then (if 0 ≤ i ∧ i ≤ n then 0 else 1) else meanF ns n
theorem meanF_zero (ns : List Nd) (n : Nat) : meanF ns n = 0 ↔ faultL ns = 0 ∧ n ≤ 400 := by
  unfold meanF
  by_cases h : faultL ns = 0
  · rw [if_pos h]
    by_cases h4 : 400 < n
    · rw [if_pos h4]; simp; omega
    · rw [if_neg h4]; simp [h]; omega
  · rw [if_neg h]; simp [h]
theorem meanE_zero (ns : List Nd) (n : Nat) (i : Int) : meanE ns n i = 0 ↔ faultL ns = 0 ∧ n ≤ 400 ∧ 0 ≤ i ∧ i ≤ n := by
  unfold meanE
  by_cases h : meanF ns n = 0
  · rw [if_pos h]
    obtain ⟨h1, h2⟩ := (meanF_zero ns n).1 h
    by_cases h3 : 0 ≤ i ∧ i ≤ n
    · rw [if_pos h3]; simp [h1, h2, h3]
    · rw [if_neg h3]; simp [h1, h2]; omega
  · rw [if_neg h]
    constructor
    · intro h'; exact absurd h' h
    · rintro ⟨h1, h2, _⟩; exact absurd ((meanF_zero ns n).2 ⟨h1, h2⟩) h
end Go.Proofs.YteeamifjldoihaaDoor
namespace Go.Proofs.YteeamifjldoihaaDoor
set_option linter.unusedSimpArgs false
set_option linter.unusedVariables false
set_option maxRecDepth 100000
open Go.RowKit
/-- What the document asks of package feed. X: what the library's tables hold. Fv F w u t s d: u is a Feed of the pattern t that has the text s, and all that it keeps is in F; d: whether it says that it is dead. -/
structure FeedC (X : World → Prop) (Fv : (Nat → Prop) → World → Value → Rx → List UInt8 → Bool → Prop) : Prop where
  lt : ∀ F w u t s d, Fv F w u t s d → ∀ k, F k → k < w.heap.size
  ptr : ∀ F w u t s d, Fv F w u t s d → ∃ a, u = .pointer (some a)
  keep : ∀ F G w w' u t s d, Fv F w u t s d → But G w w' → (∀ k, G k → ¬ F k) → Fv F w' u t s d
  dead : ∀ F w u t s, Fv F w u t s true → ∀ m, ¬ Fit (s ++ m) t 0 (s ++ m).length
  bad : ∀ ns v w, NsIn w v ns → (∀ n ∈ ns, n.wf) → ¬ faultL ns = 0 → Calls Tryd.prog 6 #[v] w fun e w' => ∃ a, e = .returned (.tuple #[.pointer a, errV (faultL ns)]) ∧ Below w.heap.size w w'
  new : ∀ (t : Rx) v w, X w → t.Ok → NsIn w v t.flat → (∀ n ∈ t.flat, n.wf) → faultL t.flat = 0 → Calls Tryd.prog 6 #[v] w fun e w' => ∃ u F d, e = .returned (.tuple #[u, .nilIface]) ∧ Fv F w' u t [] d ∧ Below w.heap.size w w' ∧ ∀ k, F k → w.heap.size ≤ k
  put : ∀ F w u t s d (p : ByteArray), X w → Fv F w u t s d → p.size ≤ 140737488355328 → s.length + p.size ≤ 400 → Calls Tryd.prog 8 #[u, .string p] w fun e w' => e = .returned .nilIface ∧ Turns F w w' (fun F' => ∃ d', (d = true → d' = true) ∧ Fv F' w' u t (s ++ p.data.toList) d')
  full : ∀ F w u t s d (p : ByteArray), X w → Fv F w u t s d → p.size ≤ 140737488355328 → 400 < s.length + p.size → Calls Tryd.prog 8 #[u, .string p] w fun e w' => e = .returned (errV 3) ∧ Turns F w w' (fun F' => Fv F' w' u t s d)
  yes : ∀ F w u t s d (b : Bool), X w → Fv F w u t s d → (b = true ↔ Fit s t 0 s.length) → Calls Tryd.prog 11 #[u] w fun e w' => e = .returned (.bool b) ∧ Turns F w w' (fun F' => Fv F' w' u t s d)
  said : ∀ F w u t s d, X w → Fv F w u t s d → Calls Tryd.prog 12 #[u] w fun e w' => e = .returned (.bool d) ∧ Turns F w w' (fun F' => Fv F' w' u t s d)
  len : ∀ F w u t s d, X w → Fv F w u t s d → Calls Tryd.prog 10 #[u] w fun e w' => e = .returned (.int .i64 (s.length : Int)) ∧ Turns F w w' (fun F' => Fv F' w' u t s d)
  again : ∀ F w u t s d, X w → Fv F w u t s d → Calls Tryd.prog 15 #[u] w fun e w' => e = .returned (.tuple #[]) ∧ Turns F w w' (fun F' => ∃ d', Fv F' w' u t [] d')
end Go.Proofs.YteeamifjldoihaaDoor
namespace Go.Proofs.YteeamifjldoihaaDoor
set_option linter.unusedSimpArgs false
set_option linter.unusedVariables false
set_option maxRecDepth 100000
open Go.RowKit Go.Shelf
attribute [local go_sem] Oper.semAt_some
theorem Fm.cr {ss : List St} {f g cap n : Nat} {p : Nat → Bool} {w : World} (h : Fm ss f g cap n p w) : (∀ d o, (Go.Sort.grow (redrawn w d) o).cell? ⟨f, 0, none⟩ = some (.slice (some ⟨g, 0, none⟩) ss.length cap)) ∧ (∀ d o, (Go.Sort.grow (redrawn w d) o).cell? ⟨f, 2, none⟩ = some (.int .u64 (wd p 0))) ∧ (∀ d o, (Go.Sort.grow (redrawn w d) o).cell? ⟨f, 3, none⟩ = some (.int .u64 (wd p 1))) ∧ (∀ d o, (Go.Sort.grow (redrawn w d) o).cell? ⟨f, 4, none⟩ = some (.int .u64 (wd p 2))) ∧ (∀ d o, (Go.Sort.grow (redrawn w d) o).cell? ⟨f, 5, none⟩ = some (.int .u64 (wd p 3))) :=
  ⟨fun d o => (h.below (below_regrown w d o)).all.1, fun d o => (h.below (below_regrown w d o)).all.2.2.1, fun d o => (h.below (below_regrown w d o)).all.2.2.2.1, fun d o => (h.below (below_regrown w d o)).all.2.2.2.2.1, fun d o => (h.below (below_regrown w d o)).all.2.2.2.2.2⟩
set_option maxHeartbeats 4000000 in
theorem fdead_any (ss : List St) (f g cap n : Nat) (p : Nat → Bool) (w : World) (hT : Tab w) (h : Fm ss f g cap n p w) :
    Calls Tryd.prog 12 #[.pointer (some ⟨f, 0, none⟩)] w fun e w' => e = .returned (.bool (!donF ss (cloF ss (decide (n = 0)) true p) && !donF ss (cloF ss false true (latF ss p)))) ∧ Below w.heap.size w w' := by
  have CY := hid (fun w' (hb : Below w.heap.size w w') => fyes_any ss f g cap n p w' (hT.below hb (Nat.le_refl _)) (h.below hb))
  have CL := hid (fun w' (hb : Below w.heap.size w w') => slater_any ss h.fault g 0 cap p h.sub w' (hT.below hb (Nat.le_refl _)) (h.below hb).glt (h.below hb).steps)
  have CD := hid (fun w' (hb : Below w.heap.size w w') => fisDone_any ss f g cap n p (latF ss p) (lat_sub (leads_of h.fault)) false true w' (hT.below hb (Nat.le_refl _)) (h.below hb))
  obtain ⟨c0, c2, c3, c4, c5⟩ := h.cr
  generalize donF ss (cloF ss (decide (n = 0)) true p) = y at *
  generalize donF ss (cloF ss false true (latF ss p)) = m at *
  unfold stV at CL CD
  clear h hT
  cases y with
  | true =>
    go_enter Tryd.func12, Tryd.ntmps12
    go_wp2_with fail
    refine wp_region_quiet_below (by kernel_rfl) (by kernel_rfl) ?_
    repeat (go_big_quiet_step (first
      | (go_at_call 11; exact Calls.regrown_of (CY.out _ (below_regrown _ _ _)))))
    refine wpQuiet_nil ?_
    intro _ hw'
    obtain ⟨⟨dq, osq⟩, hw''⟩ := hw'
    have hbz := below_regrown w dq osq
    subst hw''
    generalize Go.Sort.grow (redrawn w dq) osq = wz at *
    go_wp2
    go_ret
    exact ⟨rfl, hbz⟩
  | false =>
    go_enter Tryd.func12, Tryd.ntmps12
    go_wp2_with fail
    refine wp_region_quiet_below (by kernel_rfl) (by kernel_rfl) ?_
    repeat (go_big_quiet_step (first
      | (go_at_call 11; exact Calls.regrown_of (CY.out _ (below_regrown _ _ _)))
      | (go_at_call 24; exact Calls.regrown_of (CL.out _ (below_regrown _ _ _)))
      | (go_at_call 23; exact Calls.regrown_of (CD.out _ (below_regrown _ _ _)))))
    refine wpQuiet_nil ?_
    intro _ hw'
    obtain ⟨⟨dq, osq⟩, hw''⟩ := hw'
    have hbz := below_regrown w dq osq
    subst hw''
    generalize Go.Sort.grow (redrawn w dq) osq = wz at *
    go_wp2
    go_ret
    exact ⟨by cases m <;> rfl, hbz⟩
set_option maxHeartbeats 1000000 in
theorem flen_any (ss : List St) (f g cap n : Nat) (p : Nat → Bool) (w : World) (h : Fm ss f g cap n p w) :
    Calls Tryd.prog 10 #[.pointer (some ⟨f, 0, none⟩)] w fun e w' => e = .returned (.int .i64 (n : Int)) ∧ Below w.heap.size w w' := by
  obtain ⟨c0, c1, c2, c3, c4, c5⟩ := h.all
  clear h
  go_enter Tryd.func10, Tryd.ntmps10
  go_wp2
  go_ret
  exact ⟨rfl, Below.refl _ _⟩
theorem feedC : FeedC Tab Fv where
  lt := fv_lt
  ptr := fun F w u t s d h => by
    obtain ⟨f, g, cap, rfl, _⟩ := h
    exact ⟨_, rfl⟩
  keep := fun F G w w' u t s d h hb hG => fv_keep F G w w' u t s d h hb hG
  dead := fun F w u t s h m => by
    obtain ⟨f, g, cap, rfl, hm, h1, h2, h3, h4, hF⟩ := h
    exact dead_fit t h2 h3 hm.ok s m h4.symm
  bad := fun ns v w h _ hf => (fnew_bad ns v w h hf).mono (fun e w' ⟨h1, h2⟩ => ⟨none, h1, h2⟩)
  new := fv_new
  put := fun F w u t s d p hT h _ hs => fv_put F w u t s d p hT h hs
  full := fun F w u t s d p hT h hp hs => by
    obtain ⟨f, g, cap, rfl, hm, h1, h2, h3, h4, hF⟩ := id h
    refine (fput_full t.prog f g cap s.length _ p w hm hp h1 hs).mono ?_
    rintro e w' ⟨rfl, hb⟩
    exact ⟨rfl, fv_same F w w' _ t s d h hb⟩
  yes := fun F w u t s d b hT h hb => fv_yes F w u t s d b hT h hb
  said := fun F w u t s d hT h => by
    obtain ⟨f, g, cap, rfl, hm, h1, h2, h3, h4, hF⟩ := id h
    refine (fdead_any t.prog f g cap s.length _ w hT hm).mono ?_
    rintro e w' ⟨rfl, hb⟩
    exact ⟨by rw [h4]; rfl, fv_same F w w' _ t s d h hb⟩
  len := fun F w u t s d hT h => by
    obtain ⟨f, g, cap, rfl, hm, h1, h2, h3, h4, hF⟩ := id h
    refine (flen_any t.prog f g cap s.length _ w hm).mono ?_
    rintro e w' ⟨rfl, hb⟩
    exact ⟨rfl, fv_same F w w' _ t s d h hb⟩
  again := fun F w u t s d hT h => by
    obtain ⟨f, g, cap, rfl, hm, h1, h2, h3, h4, hF⟩ := id h
    refine (fagain_any t.prog f g cap s.length _ w hT hm).mono ?_
    rintro e w' ⟨rfl, hm', hg⟩
    obtain ⟨F', hv, hb, ho⟩ := fv_turns (F := F) (s := []) hm' (by simp) h2 h3 hF hg
    exact ⟨rfl, F', ⟨_, hv⟩, hb, ho⟩
end Go.Proofs.YteeamifjldoihaaDoor
namespace Go.Proofs.YteeamifjldoihaaDoor
set_option linter.unusedSimpArgs false
set_option linter.unusedVariables false
set_option maxRecDepth 100000
open Go.RowKit
/-- The places 0 to N of A lie in block b from off on. -/
def BsAt (w : World) (b off N : Nat) (A : Nat → Bool) : Prop := ∀ i, i ≤ N → w.cell? ⟨b, off + i, none⟩ = some (.bool (A i))
/-- A slice that reads as the places of A. -/
def BsIn (w : World) (v : Value) (N : Nat) (A : Nat → Bool) : Prop := ∃ b off cap, v = .slice (some ⟨b, off, none⟩) (N + 1) cap ∧ b < w.heap.size ∧ BsAt w b off N A
theorem BsAt.below {w w' : World} {B b off N : Nat} {A : Nat → Bool} (h : BsAt w b off N A) (hb : Below B w w') (hlt : b < B) : BsAt w' b off N A :=
  fun i hi => (hb.cell (p := ⟨b, _, none⟩) hlt).trans (h i hi)
theorem BsIn.below {w w' : World} {v : Value} {N : Nat} {A : Nat → Bool} (h : BsIn w v N A) (hb : Below w.heap.size w w') : BsIn w' v N A := by
  obtain ⟨b, off, cap, rfl, hlt, h⟩ := h
  exact ⟨b, off, cap, rfl, Nat.lt_of_lt_of_le hlt hb.size, h.below hb hlt⟩
def rowB (N : Nat) (A : Nat → Bool) : Array Value := ((List.range (N + 1)).map fun i => Value.bool (A i)).toArray
def upd (A : Nat → Bool) (i : Nat) (x : Bool) : Nat → Bool := fun j => if j = i then x else A j
/-- Block b is a row of the places of A. -/
def BsRow (w : World) (b N : Nat) (A : Nat → Bool) : Prop := w.heap[b]? = some (.cells (rowB N A) 4 (0, 0))
theorem BsRow.lt {w : World} {b N : Nat} {A : Nat → Bool} (h : BsRow w b N A) : b < w.heap.size := by
  rcases Nat.lt_or_ge b w.heap.size with h' | h'
  · exact h'
  · simp [BsRow, Array.getElem?_eq_none h'] at h
theorem rowB_at (N : Nat) (A : Nat → Bool) (i : Nat) (h : i ≤ N) : (rowB N A)[i]? = some (.bool (A i)) := by
  simp [rowB, List.getElem?_range (show i < N + 1 by omega)]
theorem BsRow.at {w : World} {b N : Nat} {A : Nat → Bool} (h : BsRow w b N A) : BsAt w b 0 N A := by
  intro i hi
  rw [Lib.cell_of_heap h, Nat.zero_add, rowB_at N A i hi]
theorem BsRow.isIn {w : World} {b N : Nat} {A : Nat → Bool} (h : BsRow w b N A) (cap : Nat) : BsIn w (.slice (some ⟨b, 0, none⟩) (N + 1) cap) N A := ⟨b, 0, cap, rfl, h.lt, h.at⟩
theorem BsRow.free {w : World} {b N : Nat} {A : Nat → Bool} (h : BsRow w b N A) (i : Nat) : w.frozen? ⟨b, i, none⟩ = false := Lib.frozen_of_heap h i
theorem rowB_set (N : Nat) (A : Nat → Bool) (i : Nat) (x : Bool) : (rowB N A).setIfInBounds i (.bool x) = rowB N (upd A i x) := by
  apply Array.ext_getElem?
  intro j
  rw [Array.getElem?_setIfInBounds]
  by_cases hj : j ≤ N
  · rw [rowB_at N _ j hj, rowB_at N _ j hj]
    by_cases e : i = j
    · subst e
      simp [rowB, upd, hj]
      omega
    · rw [if_neg e]
      simp [upd, Ne.symm e]
  · have h1 : (rowB N A)[j]? = none := Array.getElem?_eq_none (by simp [rowB]; omega)
    have h2 : (rowB N (upd A i x))[j]? = none := Array.getElem?_eq_none (by simp [rowB]; omega)
    rw [h1, h2]
    split
    · rename_i e
      subst e
      rw [if_neg (by simp [rowB]; omega)]
    · rfl
theorem BsRow.set {w : World} {b N : Nat} {A : Nat → Bool} (h : BsRow w b N A) (i : Nat) (x : Bool) : BsRow (w.setCell ⟨b, i, none⟩ (.bool x)) b N (upd A i x) := by
  simp only [BsRow] at h ⊢
  simp [World.setCell, Array.getElem?_modify, h, rowB_set]
theorem BsRow.below {w w' : World} {b N : Nat} {A : Nat → Bool} (h : BsRow w b N A) (hb : Below w.heap.size w w') : BsRow w' b N A := (hb.block b h.lt).trans h
theorem rowB_new (N : Nat) : Array.replicate (N + 1) (Value.bool false) = rowB N fun _ => false := by
  apply Array.ext_getElem?
  intro j
  by_cases hj : j ≤ N
  · rw [rowB_at N _ j hj]
    simp [show j < N + 1 by omega]
  · rw [Array.getElem?_eq_none (by simp; omega), Array.getElem?_eq_none (by simp [rowB]; omega)]
theorem BsRow.new (w : World) (N : Nat) (o : Obj) (ho : o = .cells (Array.replicate (N + 1) (Value.bool false)) 4 (0, 0)) : BsRow (w.alloc o) w.heap.size N fun _ => false := by
  rw [ho, rowB_new]
  show (w.heap.push _)[w.heap.size]? = _
  simp
theorem BsRow.congr {w : World} {b N : Nat} {A B : Nat → Bool} (h : BsRow w b N A) (he : ∀ i, i ≤ N → A i = B i) : BsRow w b N B := by
  have : rowB N A = rowB N B := by
    unfold rowB
    congr 1
    apply List.map_congr_left
    intro i hi
    rw [he i (by have := List.mem_range.1 hi; omega)]
  simp only [BsRow] at h ⊢
  rw [h, this]
theorem BsIn.form {w : World} {v : Value} {N : Nat} {A : Nat → Bool} (h : BsIn w v N A) : ∃ b off cap, v = .slice (some ⟨b, off, none⟩) (N + 1) cap := by
  obtain ⟨b, off, cap, h, _⟩ := h
  exact ⟨b, off, cap, h⟩
end Go.Proofs.YteeamifjldoihaaDoor
namespace Go.Proofs.YteeamifjldoihaaDoor
set_option linter.unusedSimpArgs false
set_option linter.unusedVariables false
set_option maxRecDepth 100000
open Go.RowKit
set_option maxHeartbeats 4000000 in
theorem made_bools (n : Nat) : madeCells #[Value.bool false] (n * 1) = Array.replicate n (Value.bool false) := by
  apply Array.ext
  · simp [madeCells]
  · intro i h1 h2
    simp [madeCells, Nat.mod_one]
theorem mkB (N : Nat) (hN : N ≤ 1000000) (u : World) : (Instr.makeSlice 64 (.int .i64 ((N : Int) + 1)) (.int .i64 ((N : Int) + 1))).run Tryd.prog u = .ok (.slice (some ⟨u.heap.size, 0, none⟩) (N + 1) (N + 1)) (u.alloc (.cells (rowB N fun _ => false) 4)) := by
  have hinfo : (Tryd.prog.info? 4).map (fun i => (i.zero, i.size, i.bytes)) = some (some (.bool false), 1, 1) := by kernel_rfl
  obtain ⟨i0, hi, hz0, hz1, hz2⟩ := info_parts hinfo
  have h := run_make (P := Tryd.prog) u 64 4 i0 (.bool false) Tryd.underlying64 hi hz0 .i64 .i64 ((N : Int) + 1) ((N : Int) + 1) (by omega) (Int.le_refl _) (by rw [hz2]; omega) (by omega)
  have e : ((N : Int) + 1).toNat = N + 1 := by omega
  rw [e, hz1, show (Value.bool false).cells = #[Value.bool false] from rfl, made_bools, rowB_new] at h
  exact h
theorem BsRow.new' (w : World) (N : Nat) (A : Nat → Bool) : BsRow (w.alloc (.cells (rowB N A) 4)) w.heap.size N A := by
  show (w.heap.push _)[w.heap.size]? = _
  simp
end Go.Proofs.YteeamifjldoihaaDoor
namespace Go.Proofs.YteeamifjldoihaaDoor
set_option linter.unusedSimpArgs false
set_option linter.unusedVariables false
set_option maxRecDepth 100000
open Go.RowKit
set_option maxHeartbeats 4000000 in
theorem joined_any (N : Nat) (hN : N ≤ 1000000) (A B : Nat → Bool) (v u : Value) (w : World) (hA : BsIn w v N A) (hB : BsIn w u N B) :
    Calls Tryd.prog 43 #[v, u] w fun e w' => ∃ x, e = .returned x ∧ Below w.heap.size w w' ∧ BsIn w' x N fun i => A i || B i := by
  obtain ⟨b1, o1, c1, rfl, l1, hA⟩ := hA
  obtain ⟨b2, o2, c2, rfl, l2, hB⟩ := hB
  have hmk := mkB N hN
  obtain ⟨g, hg⟩ : ∃ g, g = w.heap.size := ⟨_, rfl⟩
  have HNew : Hid (BsRow (w.alloc (.cells (rowB N fun _ => false) 4)) g N fun _ => false) := hg ▸ BsRow.new' w N _
  go_enter Tryd.func43, Tryd.ntmps43
  go_wp2
  rw [← hg]
  have HG := hid hg
  clear hg
  go_loopw [6] (fun v wr => ∃ (i : Nat) (C : Nat → Bool), i ≤ N + 1 ∧ v = .int .i64 i ∧ BsRow wr g N C ∧ Hid (∀ j, C j = (decide (j < i) && (A j || B j))) ∧ Below w.heap.size w wr) (fun v _ => N + 1 - (intOf v).toNat)
  case atStart => exact ⟨0, fun _ => false, by omega, rfl, HNew.out, fun j => by simp, (Below.refl _ _).alloc (Nat.le_refl _) _⟩
  case round =>
    obtain ⟨i, C, hi, rfl, hR, HC, hb⟩ := hrel
    by_cases hil : i < N + 1
    · have a0 := (hA.below hb l1) i (by omega)
      have d0 := (hB.below hb l2) i (by omega)
      have f0 := hR.free i
      have g0 := hR.at i (by omega)
      rw [Nat.zero_add] at g0
      have i0 : (0 : Int) ≤ (i : Int) := by omega
      have i1 : (i : Int) < (N : Int) + 1 := by omega
      cases hx : A i <;> cases hy : B i
      all_goals
        rw [hx] at a0
        rw [hy] at d0
        have HR := hid (hR.set i (A i || B i))
        rw [hx, hy] at HR
        have HC2 : Hid (∀ j, upd C i (A i || B i) j = (decide (j < i + 1) && (A j || B j))) := by
          intro j
          unfold upd
          split
          · rename_i e; subst e; simp
          · rename_i e; rw [HC.out j]; congr 1; exact decide_eq_decide.2 (by omega)
        rw [hx, hy] at HC2
        have HB := hid (hb.setCell (p := ⟨g, i, none⟩) (by simp [HG.out]) (.bool (A i || B i)))
        rw [hx, hy] at HB
        clear hx hy hb hR
        go_wp2
        exact ⟨⟨i + 1, _, by omega, by go_num, HR.out, HC2, HB.out⟩, by simp [intOf]; omega⟩
    · go_wp2
      go_ret
      refine ⟨_, rfl, hb, (hR.congr fun j hj => ?_).isIn _⟩
      rw [HC.out j, decide_eq_true (by omega), Bool.true_and]
end Go.Proofs.YteeamifjldoihaaDoor
namespace Go.Proofs.YteeamifjldoihaaDoor
set_option linter.unusedSimpArgs false
set_option linter.unusedVariables false
open Go.RowKit

theorem half_step (m i : Nat) : ((m / 2 ^ i : Nat) : Int) / 2 = ((m / 2 ^ (i + 1) : Nat) : Int) := by
  rw [Nat.pow_succ, ← Nat.div_div_eq_div_mul]
  omega
theorem tb_mod (m j : Nat) : (((m / 2 ^ j : Nat) : Int) % 2 == 1) = m.testBit j := by
  rw [tb_eq]
  generalize m / 2 ^ j = z
  by_cases h : z % 2 = 1
  · rw [h]
    have : (z : Int) % 2 = 1 := by omega
    rw [this]; rfl
  · have : ¬ (z : Int) % 2 = 1 := by omega
    simp only [h, decide_false]
    rw [beq_eq_false_iff_ne]
    exact this

theorem wrap_half (z : Nat) (h : z < 18446744073709551616) : Value.int IntKind.u64 (IntKind.u64.wrap ((z : Int) / 2)) = Value.int IntKind.u64 ((z / 2 : Nat) : Int) := by
  have e : (z : Int) / 2 = ((z / 2 : Nat) : Int) := by omega
  rw [e, u64_small _ (by omega)]
theorem wrap_twice (z : Nat) (h : z * 2 < 18446744073709551616) : Value.int IntKind.u64 (IntKind.u64.wrap ((z : Int) * 2)) = Value.int IntKind.u64 ((z * 2 : Nat) : Int) := by
  have e : (z : Int) * 2 = ((z * 2 : Nat) : Int) := by omega
  rw [e, u64_small _ h]
set_option maxHeartbeats 400000 in
theorem in_walk (k : C4) (x : Int) (h0 : 0 ≤ x) (hb : x < 256) (m : Nat) (hm : k.w (x / 64).toNat = (m : Int)) (hml : m < 18446744073709551616) (w : World) :
    Calls Tryd.prog 31 #[k.v, .int .i64 x] w fun e w' => e = .returned (.bool (m.testBit (x % 64).toNat)) ∧ Below w.heap.size w w' := by
  have hw := k.get (x / 64).toNat (by omega)
  rw [hm] at hw
  have HL := (show Hid _ from hml)
  clear hm hml
  go_enter Tryd.func31, Tryd.ntmps31
  go_wp2
  go_loop [5, 6] (fun n i => ∃ j z : Nat, (j : Int) ≤ x % 64 ∧ Hid (z = m / 2 ^ j) ∧ i = .int .i64 j ∧ n = .int .u64 (z : Int)) (fun _ i => (x % 64).toNat - (intOf i).toNat)
  case atStart => exact ⟨0, m, by omega, by show m = m / 2 ^ 0; simp, rfl, rfl⟩
  case round =>
    obtain ⟨j, z, hj, HZ, rfl, rfl⟩ := hrel
    by_cases hlt : (j : Int) < x % 64
    · go_wp2
      go_round
      case rel =>
        have hz : z < 18446744073709551616 := by rw [HZ.out]; exact Nat.lt_of_le_of_lt (Nat.div_le_self _ _) HL.out
        exact ⟨j + 1, z / 2, by omega, by show _ = _; rw [HZ.out, Nat.pow_succ, ← Nat.div_div_eq_div_mul], by go_num, wrap_half z hz⟩
      case measure => simp [intOf]; omega
    · have hj2 : (x % 64).toNat = j := by omega
      have HJ := (show Hid _ from hj2)
      clear hj2
      go_wp2
      go_ret
      refine ⟨?_, (Below.refl _ _).alloc (Nat.le_refl _) _⟩
      show Ending.returned (.bool ((z : Int) % 2 == 1)) = _
      rw [HJ.out, ← tb_mod, ← HZ.out]
theorem in_any (k : C4) (hk : k.ok) (b : Nat) (hb : b < 256) (w : World) :
    Calls Tryd.prog 31 #[k.v, .int .i64 b] w fun e w' => e = .returned (.bool (k.has b)) ∧ Below w.heap.size w w' := by
  obtain ⟨m, hm, hl⟩ := okW_nat (C4.ok_w hk (b / 64))
  have e1 : ((b : Int) / 64).toNat = b / 64 := by omega
  have e2 : ((b : Int) % 64).toNat = b % 64 := by omega
  have h := in_walk k b (by omega) (by omega) m (by rw [e1]; exact hm) hl w
  rw [e2] at h
  have e3 : k.has b = m.testBit (b % 64) := by unfold C4.has; rw [hm, Int.toNat_natCast]
  rw [e3]
  exact h

/-! With: a byte more -/
theorem add_is_or (x j : Nat) (h : x.testBit j = false) : x + 2 ^ j = x ||| 2 ^ j := by
  have hb : x / 2 ^ j % 2 = 0 := by
    rw [tb_eq] at h
    have := of_decide_eq_false h
    omega
  have hp : 0 < 2 ^ j := Nat.two_pow_pos j
  have e1 : x = 2 ^ (j + 1) * (x / 2 ^ j / 2) + x % 2 ^ j := by
    have a1 := Nat.div_add_mod x (2 ^ j)
    have a2 : x / 2 ^ j = 2 * (x / 2 ^ j / 2) := by omega
    rw [Nat.pow_succ, Nat.mul_assoc]
    rw [a2] at a1
    omega
  have hlo : x % 2 ^ j < 2 ^ j := Nat.mod_lt _ hp
  generalize x % 2 ^ j = lo at *
  generalize x / 2 ^ j / 2 = A at *
  have j1 : 2 ^ (j + 1) * A ||| lo = 2 ^ (j + 1) * A + lo := nat_join j _ _ (by rw [Nat.pow_succ, Nat.mul_assoc, Nat.mul_mod_right]) hlo
  have j2 : 2 ^ (j + 1) * A ||| 2 ^ j = 2 ^ (j + 1) * A + 2 ^ j := nat_join (j + 1) _ _ (by rw [Nat.mul_mod_right]) (by rw [Nat.pow_succ]; omega)
  have j3 : (2 ^ (j + 1) * A + 2 ^ j) ||| lo = 2 ^ (j + 1) * A + 2 ^ j + lo := nat_join j _ _ (by rw [Nat.pow_succ, Nat.mul_assoc, ← Nat.mul_succ, Nat.mul_mod_right]) hlo
  rw [e1]
  rw [← j1, Nat.or_assoc, Nat.or_comm lo, ← Nat.or_assoc, j2, j3, j1]
  omega
theorem C4.put_add {k : C4} (hk : k.ok) (b : Nat) (hb : b < 256) (h : k.has b = false) : k.put ((b : Int) / 64).toNat (IntKind.u64.wrap (k.w ((b : Int) / 64).toNat + ((2 ^ ((b : Int) % 64).toNat : Nat) : Int))) = k.add (b : Int) := by
  have e1 : ((b : Int) / 64).toNat = b / 64 := by omega
  have e2 : ((b : Int) % 64).toNat = b % 64 := by omega
  unfold C4.add
  rw [e1, e2]
  obtain ⟨m, hm, hl⟩ := okW_nat (C4.ok_w hk (b / 64))
  have e3 : m.testBit (b % 64) = false := by
    unfold C4.has at h
    rwa [hm, Int.toNat_natCast] at h
  rw [hm]
  congr 1
  have h2 : 2 ^ (b % 64) < 2 ^ 64 := Nat.pow_lt_pow_right (by decide) (by omega)
  have ew : IntKind.u64.wrap (2 ^ (b % 64)) = ((2 ^ (b % 64) : Nat) : Int) := by
    have := u64_small (2 ^ (b % 64)) h2
    rw [Int.natCast_pow] at this
    rw [Int.natCast_pow]
    exact this
  have ho : m ||| 2 ^ (b % 64) < 2 ^ 64 := Nat.or_lt_two_pow hl h2
  rw [ew, u64_or_nat m _ hl h2, ← Int.natCast_add, add_is_or m _ e3]
  exact u64_small _ ho
theorem C4.add_same {k : C4} (hk : k.ok) (b : Nat) (hb : b < 256) (h : k.has b = true) : k.add (b : Int) = k := by
  apply C4.ext_has (C4.add_ok hk b) hk
  intro i hi
  rw [C4.has_add hk b i hb hi]
  by_cases e : b = i
  · subst e; rw [h]; rfl
  · simp [e]
end Go.Proofs.YteeamifjldoihaaDoor
