/- Own texts. -/
import Derived.Test.YtcjghhedphmhkaaGreatDoorY10
set_option linter.unusedSimpArgs false
set_option linter.unusedVariables false
set_option maxRecDepth 100000
set_option maxHeartbeats 8000000
namespace Go.Proofs.YtcjghhedphmhkaaGreatDoor
open Go.RowKit
structure Ax where
  ss : List St
  ab : Nat
  b : Nat
  cap : Nat
  B : Nat
  E : Nat → Prop
structure Ax.Good (c : Ax) : Prop where
  fault : stepsF c.ss = 0
  ok : SsOk c.ss
  tab : 2 < c.B
abbrev Ax.u (c : Ax) : Value:=.pointer (some ⟨c.ab,0,none⟩)
noncomputable abbrev stC (ss : List St) (p : Nat → Bool) (M : Nat) : Obj:=.cells #[.int .u64 (wd p 0),.int .u64 (wd p 1),.int .u64 (wd p 2),.int .u64 (wd p 3),.bool (donF ss p),.map (some M)] 210 (0,0)
abbrev auC (c : Ax) (K Mb : Nat) : Obj:=.cells #[.slice (some ⟨c.b,0,none⟩) c.ss.length c.cap,.map (some K),.map (some Mb)] 166 (0,0)
abbrev okK (g : Nat → Option (Nat → Bool)) : Lit → Nat → Prop:=fun kl σ => ∃ p,kl = stepsL p ∧ g σ = some p
noncomputable abbrev okB (ss : List St) (g : Nat → Option (Nat → Bool)) : Lit → Nat → Prop:=fun kl σ => ∃ fi la,kl = placeL fi la ∧ g σ = some (begS ss fi la)
noncomputable abbrev okM (ss : List St) (g : Nat → Option (Nat → Bool)) (p : Nat → Bool) : Lit → Nat → Prop:=fun kl σ => ∃ (x : UInt8) (fi la : Bool),kl = moveL x fi la ∧ g σ = some (nxtS ss p x.toNat fi la)
structure AuI (c : Ax) (g : Nat → Option (Nat → Bool)) (m : Nat → Nat) (K Mb k : Nat) (w : World) : Prop where
  au : w.heap[c.ab]? = some (auC c K Mb)
  steps : SsAt w c.b 0 c.ss
  blt : c.b < w.heap.size
  kn : Km w 207 K k (okK g)
  k100 : k ≤ 100
  bg : ∃ kb,Km w 204 Mb kb (okB c.ss g)
  sub : ∀ σ p,g σ = some p → Sub c.ss p
  st : ∀ σ p,g σ = some p → w.heap[σ]? = some (stC c.ss p (m σ))
  mv : ∀ σ p,g σ = some p → ∃ kn,Km w 213 (m σ) kn (okM c.ss g p)
  inj : ∀ σ τ p q,g σ = some p → g τ = some q → m σ = m τ → σ = τ
  mK : ∀ σ p,g σ = some p → m σ ≠ K ∧ m σ ≠ Mb
  KM : K ≠ Mb
  lo : c.B ≤ K ∧ c.B ≤ Mb ∧ c.B ≤ c.ab ∧ c.B ≤ c.b
  loS : ∀ σ p,g σ = some p → c.B ≤ σ ∧ c.B ≤ m σ ∧ σ ≠ c.ab
  out : ∀ k,c.E k → k < w.heap.size ∧ k ≠ K ∧ k ≠ Mb ∧ k ≠ c.ab
  outS : ∀ σ p,g σ = some p → ¬ c.E (m σ)
def Gle (g g' : Nat → Option (Nat → Bool)) : Prop:=∀ σ p,g σ = some p → g' σ = some p
theorem Gle.refl (g : Nat → Option (Nat → Bool)) : Gle g g:=fun _ _ h => h
theorem Gle.trans {g g' g'' : Nat → Option (Nat → Bool)} (h : Gle g g') (h' : Gle g' g'') : Gle g g'':=fun σ p e => h' σ p (h σ p e)
theorem AuI.below {c : Ax} {g : Nat → Option (Nat → Bool)} {m : Nat → Nat} {K Mb k : Nat} {w w' : World} (h : AuI c g m K Mb k w) (hb : Below w.heap.size w w') : AuI c g m K Mb k w' where
  au:=(hb.block _ (heap_lt h.au)).trans h.au
  steps:=h.steps.below hb h.blt
  blt:=Nat.lt_of_lt_of_le h.blt hb.size
  kn:=h.kn.below hb
  k100:=h.k100
  bg:=by obtain ⟨kb,h1⟩:=h.bg; exact ⟨kb,h1.below hb⟩
  sub:=h.sub
  st:=fun σ p e => (hb.block _ (heap_lt (h.st σ p e))).trans (h.st σ p e)
  mv:=fun σ p e => by obtain ⟨kn,h1⟩:=h.mv σ p e; exact ⟨kn,h1.below hb⟩
  inj:=h.inj
  mK:=h.mK
  KM:=h.KM
  lo:=h.lo
  loS:=h.loS
  out:=fun k e => ⟨Nat.lt_of_lt_of_le (h.out k e).1 hb.size,(h.out k e).2⟩
  outS:=h.outS
theorem cells_map {w w' : World} {M k : Nat} {es : Array MapEntry} {cl : Nat} (hM : w.heap[M]? = some (.map es cl)) (hg : w.grownBy w' (some M)) {o : Obj} (ho : w.heap[k]? = some o) (hc : o.isCells = true) : w'.heap[k]? = some o:=by
  refine (hg.block k (heap_lt ho) (fun e => ?_)).trans ho
  injection e with e
  subst e
  rw [hM] at ho
  obtain rfl:=Option.some.inj ho
  cases hc
theorem ssAt_map {w w' : World} {M b off : Nat} {ss : List St} (h : SsAt w b off ss) (hg : w.grownBy w' (some M)) (hlt : b < w.heap.size) (hne : b ≠ M) : SsAt w' b off ss:=h.grown hg hlt (by intro e; injection e with e; exact hne e)
theorem ssAt_not_map {w : World} {M b off : Nat} {ss : List St} {es : Array MapEntry} {cl : Nat} (h : SsAt w b off ss) (h0 : 0 < ss.length) (hM : w.heap[M]? = some (.map es cl)) : b ≠ M:=fun e => by
  obtain ⟨c0,_⟩:=h 0 ss[0] (List.getElem?_eq_getElem h0)
  obtain ⟨ob,h1,h2⟩:=cell_block c0
  rw [e,hM] at h1
  obtain rfl:=Option.some.inj h1
  cases h2
theorem AuI.turn {c : Ax} (hc : c.Good) {g : Nat → Option (Nat → Bool)} {m : Nat → Nat} {K Mb k k' M : Nat} {w w' : World} (h : AuI c g m K Mb k w) {es : Array MapEntry} {cl : Nat} (hM : w.heap[M]? = some (.map es cl)) (hg : w.grownBy w' (some M))
    (hkn : Km w' 207 K k' (okK g)) (hk' : k' ≤ 100) (hbg : ∃ kb,Km w' 204 Mb kb (okB c.ss g)) (hmv : ∀ σ p,g σ = some p → ∃ kn,Km w' 213 (m σ) kn (okM c.ss g p)) : AuI c g m K Mb k' w' where
  au:=cells_map hM hg h.au rfl
  steps:=ssAt_map h.steps hg h.blt (ssAt_not_map h.steps (stepsF_zero hc.fault).2.1 hM)
  blt:=Nat.lt_of_lt_of_le h.blt hg.size
  kn:=hkn
  k100:=hk'
  bg:=hbg
  sub:=h.sub
  st:=fun σ p e => cells_map hM hg (h.st σ p e) rfl
  mv:=hmv
  inj:=h.inj
  mK:=h.mK
  KM:=h.KM
  lo:=h.lo
  loS:=h.loS
  out:=fun k e => ⟨Nat.lt_of_lt_of_le (h.out k e).1 hg.size,(h.out k e).2⟩
  outS:=h.outS
theorem km_other {w w' : World} {kt : TypeId} {M N k : Nat} {ok : Lit → Nat → Prop} (h : Km w kt N k ok) (hg : w.grownBy w' (some M)) (hne : N ≠ M) : Km w' kt N k ok:=h.kept hg (by intro e; injection e with e; exact hne e)
theorem AuI.putK {c : Ax} (hc : c.Good) {g : Nat → Option (Nat → Bool)} {m : Nat → Nat} {K Mb k k' : Nat} {w w' : World} (h : AuI c g m K Mb k w) (hg : w.grownBy w' (some K)) (hkn : Km w' 207 K k' (okK g)) (hk' : k' ≤ 100) : AuI c g m K Mb k' w':=by
  obtain ⟨es,cl,hM⟩:=h.kn.heap
  obtain ⟨kb,h1⟩:=h.bg
  exact h.turn hc hM hg hkn hk' ⟨kb,km_other h1 hg (Ne.symm h.KM)⟩ (fun σ p e => by obtain ⟨kn,h2⟩:=h.mv σ p e; exact ⟨kn,km_other h2 hg (h.mK σ p e).1⟩)
theorem AuI.putB {c : Ax} (hc : c.Good) {g : Nat → Option (Nat → Bool)} {m : Nat → Nat} {K Mb k kb : Nat} {w w' : World} (h : AuI c g m K Mb k w) (hg : w.grownBy w' (some Mb)) (hbg : Km w' 204 Mb kb (okB c.ss g)) : AuI c g m K Mb k w':=by
  obtain ⟨kb0,h1⟩:=h.bg
  obtain ⟨es,cl,hM⟩:=h1.heap
  exact h.turn hc hM hg (km_other h.kn hg h.KM) h.k100 ⟨kb,hbg⟩ (fun σ p e => by obtain ⟨kn,h2⟩:=h.mv σ p e; exact ⟨kn,km_other h2 hg (h.mK σ p e).2⟩)
theorem AuI.putM {c : Ax} (hc : c.Good) {g : Nat → Option (Nat → Bool)} {m : Nat → Nat} {K Mb k kn σ : Nat} {p : Nat → Bool} {w w' : World} (h : AuI c g m K Mb k w) (hσ : g σ = some p) (hg : w.grownBy w' (some (m σ))) (hmv : Km w' 213 (m σ) kn (okM c.ss g p)) : AuI c g m K Mb k w':=by
  obtain ⟨kn0,h1⟩:=h.mv σ p hσ
  obtain ⟨es,cl,hM⟩:=h1.heap
  obtain ⟨kb,h3⟩:=h.bg
  refine h.turn hc hM hg (km_other h.kn hg (Ne.symm (h.mK σ p hσ).1)) h.k100 ⟨kb,km_other h3 hg (Ne.symm (h.mK σ p hσ).2)⟩ (fun τ q e => ?_)
  by_cases hst : τ = σ
  · subst hst
    rw [hσ] at e
    obtain rfl:=Option.some.inj e
    exact ⟨kn,hmv⟩
  · obtain ⟨kn2,h2⟩:=h.mv τ q e
    exact ⟨kn2,km_other h2 hg (fun em => hst (h.inj τ σ q p e hσ em))⟩
def gPut (g : Nat → Option (Nat → Bool)) (σ : Nat) (p : Nat → Bool) : Nat → Option (Nat → Bool):=fun τ => if τ = σ then some p else g τ
def mPut (m : Nat → Nat) (σ M : Nat) : Nat → Nat:=fun τ => if τ = σ then M else m τ
theorem gle_put {c : Ax} {g : Nat → Option (Nat → Bool)} {m : Nat → Nat} {K Mb k : Nat} {w : World} (h : AuI c g m K Mb k w) (σ : Nat) (p : Nat → Bool) (hσ : w.heap.size ≤ σ) : Gle g (gPut g σ p):=fun τ q e => by
  have:=heap_lt (h.st τ q e)
  unfold gPut
  rw [if_neg (by omega)]
  exact e
theorem okK.le {g g' : Nat → Option (Nat → Bool)} (h : Gle g g') : ∀ l b,okK g l b → okK g' l b:=fun l b ⟨p,h1,h2⟩ => ⟨p,h1,h _ _ h2⟩
theorem okB.le {ss : List St} {g g' : Nat → Option (Nat → Bool)} (h : Gle g g') : ∀ l b,okB ss g l b → okB ss g' l b:=fun l b ⟨fi,la,h1,h2⟩ => ⟨fi,la,h1,h _ _ h2⟩
theorem okM.le {ss : List St} {p : Nat → Bool} {g g' : Nat → Option (Nat → Bool)} (h : Gle g g') : ∀ l b,okM ss g p l b → okM ss g' p l b:=fun l b ⟨x,fi,la,h1,h2⟩ => ⟨x,fi,la,h1,h _ _ h2⟩
theorem AuI.grow {c : Ax} (hB : True) {g : Nat → Option (Nat → Bool)} {m : Nat → Nat} {K Mb k : Nat} {w w' : World} (h : AuI c g m K Mb k w) (hb : Below w.heap.size w w') (σ M : Nat) (hσ : w.heap.size ≤ σ) (hM : w.heap.size ≤ M) (p : Nat → Bool) (hp : Sub c.ss p) (hs : w'.heap[σ]? = some (stC c.ss p M)) (hm : w'.heap[M]? = some (.map #[] 0)) (hkm : Km w' 213 M 0 (fun _ _ => False)) : AuI c (gPut g σ p) (mPut m σ M) K Mb k w':=by
  have hle:=gle_put h σ p hσ
  have h':=h.below hb
  have hlo : c.B ≤ w.heap.size:=by have:=heap_lt h.au; have:=h.lo; omega
  have old : ∀ τ q,gPut g σ p τ = some q → (τ = σ ∧ q = p) ∨ (τ ≠ σ ∧ g τ = some q):=fun τ q e => by
    unfold gPut at e
    by_cases ht : τ = σ
    · rw [if_pos ht] at e
      exact Or.inl ⟨ht,(Option.some.inj e).symm⟩
    · rw [if_neg ht] at e
      exact Or.inr ⟨ht,e⟩
  have mS : mPut m σ M σ = M:=by unfold mPut; rw [if_pos rfl]
  have mO : ∀ τ,τ ≠ σ → mPut m σ M τ = m τ:=fun τ ht => by unfold mPut; rw [if_neg ht]
  have mlt : ∀ τ q,g τ = some q → m τ < w.heap.size:=fun τ q e => by obtain ⟨kn,h1⟩:=h.mv τ q e; exact h1.lt
  obtain ⟨kb,hbg⟩:=h'.bg
  refine ⟨h'.au,h'.steps,h'.blt,h'.kn.mono (okK.le hle),h'.k100,⟨kb,hbg.mono (okB.le hle)⟩,fun τ q e => ?_,fun τ q e => ?_,fun τ q e => ?_,fun τ υ q r e f hm => ?_,fun τ q e => ?_,h'.KM,h'.lo,fun τ q e => ?_,h'.out,fun τ q e => ?_⟩
  · rcases old τ q e with ⟨rfl,rfl⟩ | ⟨_,e'⟩
    · exact hp
    · exact h.sub τ q e'
  · rcases old τ q e with ⟨rfl,rfl⟩ | ⟨ht,e'⟩
    · rw [mS]; exact hs
    · rw [mO τ ht]; exact h'.st τ q e'
  · rcases old τ q e with ⟨rfl,rfl⟩ | ⟨ht,e'⟩
    · rw [mS]; exact ⟨0,hkm.mono (fun _ _ h => h.elim)⟩
    · rw [mO τ ht]
      obtain ⟨kn,h1⟩:=h'.mv τ q e'
      exact ⟨kn,h1.mono (okM.le hle)⟩
  · rcases old τ q e with ⟨rfl,rfl⟩ | ⟨ht,e'⟩ <;> rcases old υ r f with ⟨rfl,rfl⟩ | ⟨hu,f'⟩
    · rfl
    · rw [mS,mO υ hu] at hm
      have:=mlt υ r f'
      omega
    · rw [mO τ ht,mS] at hm
      have:=mlt τ q e'
      omega
    · rw [mO τ ht,mO υ hu] at hm
      exact h.inj τ υ q r e' f' hm
  · have hk:=h.kn.lt
    obtain ⟨_,hb0⟩:=h.bg
    have hb1:=hb0.lt
    rcases old τ q e with ⟨rfl,rfl⟩ | ⟨ht,e'⟩
    · rw [mS]; constructor <;> omega
    · rw [mO τ ht]; exact h.mK τ q e'
  · rcases old τ q e with ⟨rfl,rfl⟩ | ⟨ht,e'⟩
    · rw [mS]
      have:=heap_lt h.au
      refine ⟨?_,?_,?_⟩ <;> omega
    · rw [mO τ ht]; exact h.loS τ q e'
  · rcases old τ q e with ⟨rfl,rfl⟩ | ⟨ht,e'⟩
    · rw [mS]
      intro he
      have:=(h.out _ he).1
      omega
    · rw [mO τ ht]; exact h.outS τ q e'
theorem AuI.size {c : Ax} {g : Nat → Option (Nat → Bool)} {m : Nat → Nat} {K Mb k : Nat} {w : World} (h : AuI c g m K Mb k w) : c.B < w.heap.size:=by
  have:=heap_lt h.au
  have:=h.lo
  omega
structure Kc (c : Ax) (w w' : World) : Prop where
  size : w.heap.size ≤ w'.heap.size
  same : ∀ k o,w.heap[k]? = some o → o.isCells = true → k ≠ c.ab → w'.heap[k]? = some o
  out : ∀ k,c.E k → k < w.heap.size → w'.heap[k]? = w.heap[k]?
theorem Kc.trans {x : Ax} {a b c : World} (h : Kc x a b) (h' : Kc x b c) : Kc x a c:=⟨Nat.le_trans h.size h'.size,fun k o hk ho hn => h'.same k o (h.same k o hk ho hn) ho hn,fun k e hk => (h'.out k e (Nat.lt_of_lt_of_le hk h.size)).trans (h.out k e hk)⟩
theorem Kc.below {c : Ax} {w w' : World} (h : Below w.heap.size w w') : Kc c w w':=⟨h.size,fun k o hk _ _ => (h.block k (heap_lt hk)).trans hk,fun k _ hk => h.block k hk⟩
theorem Kc.own {c : Ax} {w w' : World} (h : w.grownBy w' (some c.ab)) (he : ¬ c.E c.ab) : Kc c w w':=⟨h.size,fun k o hk _ hn => (h.block k (heap_lt hk) (by intro e; injection e with e; exact hn e)).trans hk,fun k e hk => h.block k hk (by intro e2; injection e2 with e2; subst e2; exact he e)⟩
theorem Kc.map {c : Ax} {M : Nat} {w w' : World} {es : Array MapEntry} {cl : Nat} (hM : w.heap[M]? = some (.map es cl)) (h : w.grownBy w' (some M)) (he : ¬ c.E M) : Kc c w w':=⟨h.size,fun k o hk ho _ => cells_map hM h hk ho,fun k e hk => h.block k hk (by intro e2; injection e2 with e2; subst e2; exact he e)⟩
theorem AuI.outs {c : Ax} {g : Nat → Option (Nat → Bool)} {m : Nat → Nat} {K Mb k : Nat} {w : World} (h : AuI c g m K Mb k w) : ¬ c.E K ∧ ¬ c.E Mb ∧ ¬ c.E c.ab:=⟨fun e => (h.out _ e).2.1 rfl,fun e => (h.out _ e).2.2.1 rfl,fun e => (h.out _ e).2.2.2 rfl⟩
def AuP (c : Ax) (g : Nat → Option (Nat → Bool)) (w : World) (p : Nat → Bool) (e : Ending) (w' : World) : Prop:=∃ g' m' K' Mb' k' σ,e = .returned (.pointer (some ⟨σ,0,none⟩)) ∧ AuI c g' m' K' Mb' k' w' ∧ Gle g g' ∧ g' σ = some p ∧ Below c.B w w' ∧ Kc c w w'
theorem Km.empty {w : World} {M : Nat} (kt : TypeId) (h : w.heap[M]? = some (.map #[] 0)) : Km w kt M 0 (fun _ _ => False):=by
  obtain ⟨es,clock,hb,r⟩:=World.ownsMap_made (H:=Value) w Tryz.prog kt asIs
  rw [World.alloc_heap_new] at hb
  injection hb with hb
  injection hb with h1 h2
  subst h1 h2
  exact ⟨.map [],⟨#[],0,h,r⟩,rfl,fun kl h => by simp [Maps.has] at h⟩
theorem forget_raw (ab : Nat) (s x y : Value) (w : World) (h : w.heap[ab]? = some (.cells #[s,x,y] 166 (0,0))) :
    Calls Tryz.prog 73 #[.pointer (some ⟨ab,0,none⟩)] w fun e w' => (∃ v,e = .returned v) ∧ w'.heap[ab]? = some (.cells #[s,.map (some w.heap.size),.map (some (w.heap.size + 1))] 166 (0,0)) ∧ w'.heap[w.heap.size]? = some (.map #[] 0) ∧ w'.heap[w.heap.size + 1]? = some (.map #[] 0) ∧ w.grownBy w' (some ab):=by
  have hlt:=heap_lt h
  have hmm:=@run_makeMap Tryz.prog
  obtain ⟨w1,hw1⟩ : ∃ w1,w.alloc (.map #[] 0) = w1:=⟨_,rfl⟩
  have h1 : w1.heap[ab]? = some (.cells #[s,x,y] 166 (0,0)):=by rw [← hw1]; exact (Below.heap_alloc w _ ab hlt).trans h
  have e1 : w1.heap[w.heap.size]? = some (.map #[] 0):=by rw [← hw1]; exact World.alloc_heap_new w _
  have s1 : w1.heap.size = w.heap.size + 1:=by rw [← hw1]; simp
  have g1 : w.grownBy w1 (some ab):=by rw [← hw1]; exact World.grownBy_alloc _ _ _
  have c1:=Lib.cell_of_heap h1 1
  have f1:=Lib.frozen_of_heap h1 1
  simp only [List.getElem?_toArray,List.getElem?_cons_zero,List.getElem?_cons_succ] at c1
  obtain ⟨w2,hw2⟩ : ∃ w2,w1.setCell ⟨ab,1,none⟩ (.map (some w.heap.size)) = w2:=⟨_,rfl⟩
  have h2 : w2.heap[ab]? = some (.cells #[s,.map (some w.heap.size),y] 166 (0,0)):=by
    rw [← hw2]
    simp [World.setCell,Array.getElem?_modify,h1]
  have g2 : w1.grownBy w2 (some ab):=by rw [← hw2]; exact grown_setS _ _ _ _
  have e2 : w2.heap[w.heap.size]? = some (.map #[] 0):=(g2.block _ (heap_lt e1) (by intro e; injection e with e; omega)).trans e1
  have s2 : w2.heap.size = w.heap.size + 1:=by rw [← hw2]; simpa using s1
  obtain ⟨w3,hw3⟩ : ∃ w3,w2.alloc (.map #[] 0) = w3:=⟨_,rfl⟩
  have h3 : w3.heap[ab]? = some (.cells #[s,.map (some w.heap.size),y] 166 (0,0)):=by rw [← hw3]; exact (Below.heap_alloc w2 _ ab (heap_lt h2)).trans h2
  have e3 : w3.heap[w.heap.size]? = some (.map #[] 0):=by rw [← hw3]; exact (Below.heap_alloc w2 _ _ (heap_lt e2)).trans e2
  have e4 : w3.heap[w.heap.size + 1]? = some (.map #[] 0):=by rw [← hw3,← s2]; exact World.alloc_heap_new w2 _
  have g3 : w2.grownBy w3 (some ab):=by rw [← hw3]; exact World.grownBy_alloc _ _ _
  have c3:=Lib.cell_of_heap h3 2
  have f3:=Lib.frozen_of_heap h3 2
  simp only [List.getElem?_toArray,List.getElem?_cons_zero,List.getElem?_cons_succ] at c3
  have HR : Hid ((w3.setCell ⟨ab,2,none⟩ (.map (some (w.heap.size + 1)))).heap[ab]? = some (.cells #[s,.map (some w.heap.size),.map (some (w.heap.size + 1))] 166 (0,0)) ∧ (w3.setCell ⟨ab,2,none⟩ (.map (some (w.heap.size + 1)))).heap[w.heap.size]? = some (.map #[] 0) ∧ (w3.setCell ⟨ab,2,none⟩ (.map (some (w.heap.size + 1)))).heap[w.heap.size + 1]? = some (.map #[] 0) ∧ w.grownBy (w3.setCell ⟨ab,2,none⟩ (.map (some (w.heap.size + 1)))) (some ab)):=by
    have g4:=grown_setS w3 ab 2 (.map (some (w.heap.size + 1)))
    refine ⟨by simp [World.setCell,Array.getElem?_modify,h3],(g4.block _ (heap_lt e3) (by intro e; injection e with e; omega)).trans e3,(g4.block _ (heap_lt e4) (by intro e; injection e with e; omega)).trans e4,((g1.trans g2).trans g3).trans g4⟩
  clear h h1 h2 h3 e1 e2 e3 e4 g1 g2 g3 s1
  go_enter Tryz.func73,Tryz.ntmps73
  go_wp2
  go_end0
  exact ⟨⟨_,rfl⟩,HR.out⟩
theorem AuI.forget {c : Ax} (hc : c.Good) {g : Nat → Option (Nat → Bool)} {m : Nat → Nat} {K Mb k : Nat} {w w' : World} (h : AuI c g m K Mb k w) (h1 : w'.heap[c.ab]? = some (auC c w.heap.size (w.heap.size + 1))) (h2 : w'.heap[w.heap.size]? = some (.map #[] 0)) (h3 : w'.heap[w.heap.size + 1]? = some (.map #[] 0)) (hg : w.grownBy w' (some c.ab)) : AuI c g m w.heap.size (w.heap.size + 1) 0 w' ∧ Below c.B w w':=by
  have hlo:=h.lo
  have hpos:=(stepsF_zero hc.fault).2.1
  have hba : c.b ≠ c.ab:=fun e => by
    obtain ⟨c0,_⟩:=h.steps 0 c.ss[0] (List.getElem?_eq_getElem hpos)
    have e0:=Lib.cell_of_heap h.au 0
    rw [e] at c0
    simp only [auC,List.getElem?_toArray,List.getElem?_cons_zero] at e0
    rw [show (0 : Nat) + 0 * 7 = 0 by omega,e0] at c0
    cases c0
  have mlt : ∀ τ q,g τ = some q → m τ < w.heap.size:=fun τ q e => by obtain ⟨kn,h1⟩:=h.mv τ q e; exact h1.lt
  have mab : ∀ τ q,g τ = some q → m τ ≠ c.ab:=fun τ q e hm => by
    obtain ⟨kn,h1⟩:=h.mv τ q e
    obtain ⟨es,cl,h2⟩:=h1.heap
    rw [hm,h.au] at h2
    cases h2
  refine ⟨⟨h1,h.steps.grown hg h.blt (by intro e; injection e with e; exact hba e),Nat.lt_of_lt_of_le h.blt hg.size,(Km.empty _ h2).mono (fun _ _ h => h.elim),by omega,⟨0,(Km.empty _ h3).mono (fun _ _ h => h.elim)⟩,h.sub,fun τ q e => ?_,fun τ q e => ?_,h.inj,fun τ q e => ?_,by omega,⟨by have:=h.size; omega,by have:=h.size; omega,hlo.2.2⟩,h.loS,fun k e => ⟨Nat.lt_of_lt_of_le (h.out k e).1 hg.size,by have:=(h.out k e).1; omega,by have:=(h.out k e).1; omega,(h.out k e).2.2.2⟩,h.outS⟩,?_⟩
  · exact (hg.block _ (heap_lt (h.st τ q e)) (by intro e2; injection e2 with e2; exact (h.loS τ q e).2.2 e2)).trans (h.st τ q e)
  · obtain ⟨kn,h4⟩:=h.mv τ q e
    exact ⟨kn,h4.kept hg (by intro e2; injection e2 with e2; exact mab τ q e e2)⟩
  · have:=mlt τ q e
    constructor <;> omega
  · exact ⟨hg.os,hg.tape,hg.output,hg.size,fun j hj => hg.block j (by have:=h.size; omega) (by intro e; injection e with e; omega)⟩
end Go.Proofs.YtcjghhedphmhkaaGreatDoor
namespace Go.Proofs.YtcjghhedphmhkaaGreatDoor
open Go.RowKit Go.Shelf
theorem le_alloc {a : Nat} {w : World} {o : Obj} (h : a ≤ w.heap.size) : a ≤ (w.alloc o).heap.size:=by rw [World.size_alloc]; omega
def Free (w : World) (kt mt : TypeId) (M k : Nat) (key : Value) (kl : Lit) (ok : Lit → Nat → Prop) : Prop :=
  k < maxLen → ∀ (w0 : World) (b : Nat) (ok' : Lit → Nat → Prop),w0.heap[M]? = w.heap[M]? → (∀ l c,ok l c → ok' l c) → ok' kl b → ∃ w',(Instr.mapUpdate mt (.map (some M)) key (.pointer (some ⟨b,0,none⟩))).run Tryz.prog w0 = .ok () w' ∧ Km w' kt M (k + 1) ok' ∧ w0.grownBy w' (some M)
theorem Free.same {w w' : World} {kt mt : TypeId} {M k : Nat} {key : Value} {kl : Lit} {ok : Lit → Nat → Prop} (h : Free w kt mt M k key kl ok) (e : w'.heap[M]? = w.heap[M]?) : Free w' kt mt M k key kl ok:=fun hk w0 b ok' h0 => h hk w0 b ok' (h0.trans e)
theorem Km.look2 {w : World} {kt mt : TypeId} {M k : Nat} {ok : Lit → Nat → Prop} (h : Km w kt M k ok) (K : Maps.Keyed Tryz.prog kt) (hu : Tryz.prog.underlying mt = some (.map kt 201)) {key : Value} {kl : Lit} (hkey : keyOf Tryz.prog kt key = some kl) :
    (∃ b,ok kl b ∧ ∀ w' : World,w'.heap[M]? = w.heap[M]? → (Instr.lookup mt (.map (some M)) key false).run Tryz.prog w' = .ok (.pointer (some ⟨b,0,none⟩)) w') ∨
    ((∀ w' : World,w'.heap[M]? = w.heap[M]? → (Instr.lookup mt (.map (some M)) key false).run Tryz.prog w' = .ok (.pointer none) w') ∧ Free w kt mt M k key kl ok):=h.look K hu hkey
theorem keep_any (c : Ax) (hc : c.Good) (g : Nat → Option (Nat → Bool)) (m : Nat → Nat) (K Mb k : Nat) (w : World) (h : AuI c g m K Mb k w) (hT : Tab w) (p : Nat → Bool) (hp : Sub c.ss p) :
    Calls Tryz.prog 125 #[c.u,stV p] w (AuP c g w p):=by
  obtain ⟨W0,hW0⟩ : ∃ W0,w.alloc (.cells #[.int .u64 (wd p 0),.int .u64 (wd p 1),.int .u64 (wd p 2),.int .u64 (wd p 3)] 207) = W0:=⟨_,rfl⟩
  have hb0 : Below w.heap.size w W0:=by rw [← hW0]; exact (Below.refl _ _).alloc (Nat.le_refl _) _
  have hq0 : Hq W0 w.heap.size p:=by rw [← hW0]; exact Hq.new w p _ rfl
  have h0:=h.below hb0
  have hBB : Below c.B w W0:=hb0.mono (by have:=h.size; omega)
  have hT0:=hT.below hb0 (Nat.le_refl _)
  have a1:=Lib.cell_of_heap h0.au 1
  simp only [auC,List.getElem?_toArray,List.getElem?_cons_zero,List.getElem?_cons_succ] at a1
  obtain ⟨q0,q1,q2,q3⟩:=hq0.all
  rcases h0.kn.look2 steps_keyed Tryz.underlying163 (steps_key p) with ⟨σ,⟨p',hpl,hg⟩,hlook⟩ | ⟨hlook,hfree⟩
  · -- it is known
    obtain rfl : p = p':=sub_ext (stepsF_zero hc.fault).1 hp (h0.sub σ p' hg) hpl
    have hl1:=fun n => hlook (W0.drewN n) rfl
    have HR : Hid (∀ w',Below W0.heap.size W0 w' → AuP c g w p (.returned (.pointer (some ⟨σ,0,none⟩))) w'):=fun w' hb => ⟨g,m,K,Mb,k,σ,rfl,h0.below hb,Gle.refl g,hg,hBB.trans (hb.mono (by have:=h0.size; omega)),(Kc.below hb0).trans (Kc.below hb)⟩
    unfold stV at hl1 ⊢
    clear hlook h h0 hT hT0 hq0 hb0 hBB hp hg hpl
    go_enter Tryz.func125,Tryz.ntmps125
    go_wp2_with fail
    go_big_quiet (fail)
    go_wp2
    go_ret
    exact HR.out _ (below_drewN' W0 nq)
  · -- it is new
    have hl1:=fun n => hlook (W0.drewN n) rfl
    have HC:=hid hc
    have HP:=hid hp
    have H0:=hid h0
    have HQ0:=hid hq0
    have HF:=hid hfree
    have HBB:=hid hBB
    have HK0 : Hid (Kc c w W0):=Kc.below hb0
    have HT0:=hid hT0
    clear hlook h hT hb0 hc hp h0 hq0 hfree hBB hT0
    unfold stV at hl1 ⊢
    go_enter Tryz.func125,Tryz.ntmps125
    go_wp2_with fail
    go_big_quiet (fail)
    have hbn:=below_drewN' W0 nq
    have H1:=hid (H0.out.below hbn)
    have HQ1:=hid (HQ0.out.below hbn HQ0.out.lt)
    have HT1:=hid (HT0.out.below hbn (Nat.le_refl _))
    have HB1:=hid (HBB.out.trans (hbn.mono (by have:=H0.out.size; omega)))
    have HF1:=hid (HF.out.same (w':=W0.drewN nq) rfl)
    have HK1:=hid (HK0.out.trans (Kc.below hbn))
    clear H0 HQ0 HT0 HBB HF HK0 hl1 q0 q1 q2 q3 a1 hW0 hbn
    generalize W0.drewN nq = W1 at *
    have a1:=Lib.cell_of_heap H1.out.au 1
    simp only [auC,List.getElem?_toArray,List.getElem?_cons_zero,List.getElem?_cons_succ] at a1
    have hln:=fun ty => H1.out.kn.len Tryz.underlying163 ty W1 rfl
    have hk100:=H1.out.k100
    have hk1 : ((k : Int) == 100) = decide (k = 100):=by
      by_cases h : k = 100
      · subst h; rfl
      · rw [decide_eq_false h,beq_eq_false_iff_ne]; omega
    go_upto_if 21 with fail
    go_cut [] from 16 to 40 (fun wc => ∃ K' Mb' k',AuI c g m K' Mb' k' wc ∧ k' < 100 ∧ Free wc 207 163 K' k' (stV p) (stepsL p) (okK g) ∧ Hq wc w.heap.size p ∧ Below c.B w wc ∧ Kc c w wc ∧ Tab wc)
    case first =>
      by_cases hk : k = 100
      · rw [decide_eq_true hk] at hk1
        have CF:=hid (forget_raw c.ab _ _ _ W1 H1.out.au)
        go_wp2_with fail
        refine Calls.mono CF.out ?_
        rintro e W2 ⟨⟨v,rfl⟩,e1,e2,e3,hg2⟩
        obtain ⟨h2,hB2⟩:=H1.out.forget HC.out e1 e2 e3 hg2
        have hfr2 : Free W2 207 163 W1.heap.size 0 (stV p) (stepsL p) (okK g):=by
          rcases (Km.empty 207 e2).look2 steps_keyed Tryz.underlying163 (steps_key p) with ⟨b,hb,_⟩ | ⟨_,hfr⟩
          · exact hb.elim
          · intro hk w0 b ok' h0 hm hb
            exact hfr hk w0 b ok' h0 (fun _ _ h => h.elim) hb
        have HR : Hid (∃ K' Mb' k',AuI c g m K' Mb' k' W2 ∧ k' < 100 ∧ Free W2 207 163 K' k' (stV p) (stepsL p) (okK g) ∧ Hq W2 w.heap.size p ∧ Below c.B w W2 ∧ Kc c w W2 ∧ Tab W2):=⟨_,_,0,h2,by omega,hfr2,HQ1.out.grown hg2 (by
          intro e; injection e with e
          have:=HQ1.out
          unfold Hq at this
          rw [e,H1.out.au] at this
          cases this),HB1.out.trans hB2,HK1.out.trans (Kc.own hg2 H1.out.outs.2.2),HT1.out.grown hg2 (by
          intro e; injection e with e
          have:=HC.out.tab
          have:=H1.out.lo
          omega)⟩
        clear e1 e2 e3 hg2 h2 hB2 hfr2 CF
        go_wp2_with fail
        go_meet
        case rel => exact HR.out
      · rw [decide_eq_false hk] at hk1
        go_wp2_with fail
        go_meet
        case rel => exact ⟨K,Mb,k,H1.out,by omega,HF1.out,HQ1.out,HB1.out,HK1.out,HT1.out⟩
    case rest =>
      obtain ⟨K',Mb',k',h2,hk2,hfr2,hq2,hB2,hK2,hT2⟩:=hcut
      have a0:=Lib.cell_of_heap h2.au 0
      simp only [auC,List.getElem?_toArray,List.getElem?_cons_zero,List.getElem?_cons_succ] at a0
      obtain ⟨q0,q1,q2,q3⟩:=hq2.all
      have S5 : ∀ w',Below wc.heap.size wc w' → w'.cell? ⟨c.ab,0,none⟩ = some (.slice (some ⟨c.b,0,none⟩) c.ss.length c.cap) ∧ w'.cell? ⟨w.heap.size,0,none⟩ = some (.int .u64 (wd p 0)) ∧ w'.cell? ⟨w.heap.size,1,none⟩ = some (.int .u64 (wd p 1)) ∧ w'.cell? ⟨w.heap.size,2,none⟩ = some (.int .u64 (wd p 2)) ∧ w'.cell? ⟨w.heap.size,3,none⟩ = some (.int .u64 (wd p 3)):=fun w' hb => by
        have h3:=h2.below hb
        have a0:=Lib.cell_of_heap h3.au 0
        simp only [auC,List.getElem?_toArray,List.getElem?_cons_zero,List.getElem?_cons_succ] at a0
        exact ⟨a0,(hq2.below hb hq2.lt).all⟩
      have HS5:=hid S5
      have CD:=hid (fun w' (hb : Below wc.heap.size wc w') => sdone_any c.ss (stepsF_zero HC.out.fault).1 c.b 0 c.cap p HP.out w' (hT2.below hb (Nat.le_refl _)) (Nat.lt_of_lt_of_le h2.blt hb.size) (h2.steps.below hb h2.blt))
      unfold stV at CD
      have H2:=hid h2
      have HF2:=hid hfr2
      have HQ2:=hid hq2
      have HB2:=hid hB2
      have HK2:=hid hK2
      have hmm:=@run_makeMap Tryz.prog
      clear h2 hfr2 hq2 hB2 hK2 hT2 S5 H1 HQ1 HT1 HB1 HF1 HK1 hln hk100 hk1 a1
      go_upto_region 24 with fail
      go_cut [6] from 24 to 40 (fun s6 wx => ∃ σ M,s6 = .pointer (some ⟨σ,0,none⟩) ∧ Below wc.heap.size wc wx ∧ wc.heap.size ≤ σ ∧ wc.heap.size ≤ M ∧ wx.heap[σ]? = some (stC c.ss p M) ∧ wx.heap[M]? = some (.map #[] 0))
      case first =>
        go_region_held3 (fun w' => w'.cell? ⟨c.ab,0,none⟩ = some (.slice (some ⟨c.b,0,none⟩) c.ss.length c.cap) ∧ w'.cell? ⟨w.heap.size,0,none⟩ = some (.int .u64 (wd p 0)) ∧ w'.cell? ⟨w.heap.size,1,none⟩ = some (.int .u64 (wd p 1)) ∧ w'.cell? ⟨w.heap.size,2,none⟩ = some (.int .u64 (wd p 2)) ∧ w'.cell? ⟨w.heap.size,3,none⟩ = some (.int .u64 (wd p 3))) (first | with_reducible exact HS5.out _ (Below.refl _ _).drew | with_reducible exact HS5.out _ ((Below.refl _ _).alloc (Nat.le_refl _) _).drew | with_reducible exact HS5.out _ hbw | with_reducible exact HS5.out _ (hbw.alloc hszw _) | with_reducible exact HS5.out _ ((hbw.alloc hszw _).alloc (le_alloc hszw) _) | (trace_state; fail)) (first
          | (go_at_call 137; refine (CD.out _ ?_).mono ?_; (first | with_reducible exact (Below.refl _ _).drew | with_reducible exact ((Below.refl _ _).alloc (Nat.le_refl _) _).drew); rintro e w5 ⟨rfl,hb5⟩; (first | (have hbw : Below wc.heap.size wc w5:=bel_d hb5; have hszw:=hbw.size) | (obtain ⟨hbw,hmap⟩ : Below wc.heap.size wc w5 ∧ w5.heap[wc.heap.size]? = some (.map #[] 0):=bel_da hb5; have hszw:=hbw.size))))
        all_goals go_wp2_with fail
        all_goals go_meet
        case rel =>
          refine ⟨_,w5.heap.size,rfl,(hbw.alloc hszw _).alloc (le_alloc hszw) _,by omega,hszw,?_,?_⟩
          · have:=World.alloc_heap_new (w5.alloc (.map #[] 0)) (stC c.ss p w5.heap.size)
            rwa [World.size_alloc] at this
          · exact (Below.heap_alloc _ _ _ (by simp)).trans (World.alloc_heap_new w5 _)
        exact ⟨_,wc.heap.size,rfl,hbw.alloc hszw _,hszw,Nat.le_refl _,World.alloc_heap_new w5 _,(Below.heap_alloc _ _ _ (heap_lt hmap)).trans hmap⟩
      case rest =>
        obtain ⟨σ,M,rfl,hbx,hσ,hM,es,em⟩:=hcut
        have hgl:=gle_put H2.out σ p hσ
        have h3:=(H2.out.grow trivial hbx σ M hσ hM p HP.out es em (Km.empty _ em)).below (Below.refl _ wc).drew
        have hgs : gPut g σ p σ = some p:=by unfold gPut; rw [if_pos rfl]
        obtain ⟨w9,hrun,hkm,hg9⟩:=HF2.out (by unfold maxLen; omega) wc.drew σ (okK (gPut g σ p)) (hbx.block K' H2.out.kn.lt) (okK.le hgl) ⟨p,rfl,hgs⟩
        have HR : Hid (AuP c g w p (.returned (.pointer (some ⟨σ,0,none⟩))) w9):=by
          refine ⟨_,_,_,_,_,σ,rfl,h3.putK HC.out hg9 hkm (by omega),hgl,hgs,?_,?_⟩
          rotate_left
          · obtain ⟨es',cl',hM'⟩:=h3.kn.heap
            exact (HK2.out.trans ((Kc.below hbx).trans (Kc.below (Below.refl _ wc).drew))).trans (Kc.map hM' hg9 h3.outs.1)
          have hb : Below c.B w wc.drew:=(HB2.out.trans (hbx.mono (by have:=H2.out.size; omega))).drew
          exact hb.grown hg9 (by have:=h3.size; omega) (fun k e => by injection e with e; have:=h3.lo; omega)
        have a2:=Lib.cell_of_heap h3.au 1
        simp only [auC,List.getElem?_toArray,List.getElem?_cons_zero,List.getElem?_cons_succ] at a2
        obtain ⟨y0,y1,y2,y3⟩:=(HQ2.out.below hbx HQ2.out.lt).all
        replace a2 : wc.cell? ⟨c.ab,1,none⟩ = some (.map (some K')):=a2
        unfold stV at hrun
        clear es em hgs h3 hkm hg9 hgl hbx
        go_wp2_with fail
        go_region
        go_wp2
        go_ret
        exact HR.out
theorem Km.store {w : World} {kt mt : TypeId} {M k : Nat} {ok : Lit → Nat → Prop} (h : Km w kt M k ok) (K : Maps.Keyed Tryz.prog kt) (hu : Tryz.prog.underlying mt = some (.map kt 201)) {key : Value} {kl : Lit} (hkey : keyOf Tryz.prog kt key = some kl) (hlt : k < maxLen) (b : Nat) (hb : ok kl b) :
    ∃ w' k',(Instr.mapUpdate mt (.map (some M)) key (.pointer (some ⟨b,0,none⟩))).run Tryz.prog w = .ok () w' ∧ Km w' kt M k' ok ∧ w.grownBy w' (some M):=by
  obtain ⟨D,h0,hs,hk⟩:=h
  have hkl:=K.key hkey
  obtain ⟨w',hrun,hown',hg⟩:=h0.update K hu (by omega) hkey (val:=.pointer (some ⟨b,0,none⟩)) (d:=.held (.pointer (some ⟨b,0,none⟩))) (ps:=[]) rfl
  refine ⟨w',Maps.size (D.put kl (.held (.pointer (some ⟨b,0,none⟩)))),hrun,⟨D.put kl (.held (.pointer (some ⟨b,0,none⟩))),?_,rfl,fun kl' hh' => ?_⟩,hg⟩
  · obtain ⟨es,clock,hb',F,_,e⟩:=hown'
    refine ⟨es,clock,hb',F,?_,e⟩
    rw [e]
    simp [Maps.size,length_sorted]
  · by_cases e : kl' = kl
    · subst e
      exact ⟨b,hb,fun z => Maps.atKey_put_same h0.isMap hkl _ _⟩
    · rw [Maps.has_put_other e] at hh'
      obtain ⟨c,h4,h5⟩:=hk kl' hh'
      exact ⟨c,h4,fun z => by rw [Maps.atKey_put_other e]; exact h5 z⟩
theorem okB_small {w : World} {Mb k : Nat} {ss : List St} {g : Nat → Option (Nat → Bool)} (h : Km w 204 Mb k (okB ss g)) : k ≤ 4:=by
  refine h.small place_keyed 4 (fun n => placeL (decide (n % 2 = 1)) (decide (n / 2 = 1))) (fun kl b ⟨fi,la,e,_⟩ => ?_)
  cases fi <;> cases la
  · exact ⟨0,by omega,by rw [e]; rfl⟩
  · exact ⟨2,by omega,by rw [e]; rfl⟩
  · exact ⟨1,by omega,by rw [e]; rfl⟩
  · exact ⟨3,by omega,by rw [e]; rfl⟩
theorem begin_any (c : Ax) (hc : c.Good) (g : Nat → Option (Nat → Bool)) (m : Nat → Nat) (K Mb k : Nat) (w : World) (h : AuI c g m K Mb k w) (hT : Tab w) (fi la : Bool) :
    Calls Tryz.prog 103 #[c.u,pcV fi la] w (AuP c g w (begS c.ss fi la)):=by
  obtain ⟨W0,hW0⟩ : ∃ W0,w.alloc (.cells #[.bool fi,.bool la] 204) = W0:=⟨_,rfl⟩
  have hb0 : Below w.heap.size w W0:=by rw [← hW0]; exact (Below.refl _ _).alloc (Nat.le_refl _) _
  have hq0 : W0.heap[w.heap.size]? = some (.cells #[.bool fi,.bool la] 204 (0,0)):=by rw [← hW0]; exact World.alloc_heap_new w _
  have h0:=h.below hb0
  have hzab : w.heap.size ≠ c.ab:=by have:=heap_lt h.au; omega
  have hBB : Below c.B w W0:=hb0.mono (by have:=h.size; omega)
  have hT0:=hT.below hb0 (Nat.le_refl _)
  have a2:=Lib.cell_of_heap h0.au 2
  have p0:=Lib.cell_of_heap hq0 0
  have p1:=Lib.cell_of_heap hq0 1
  simp only [auC,List.getElem?_toArray,List.getElem?_cons_zero,List.getElem?_cons_succ] at a2 p0 p1
  obtain ⟨kb,hbg⟩:=h0.bg
  rcases hbg.look2 place_keyed Tryz.underlying164 (place_key fi la) with ⟨σ,⟨fi',la',hpl,hg⟩,hlook⟩ | ⟨hlook,_⟩
  · -- it is known
    obtain ⟨rfl,rfl⟩:=place_inj hpl
    have hl1:=fun n => hlook (W0.drewN n) rfl
    have HR : Hid (∀ w',Below W0.heap.size W0 w' → AuP c g w (begS c.ss fi la) (.returned (.pointer (some ⟨σ,0,none⟩))) w'):=fun w' hb => ⟨g,m,K,Mb,k,σ,rfl,h0.below hb,Gle.refl g,hg,hBB.trans (hb.mono (by have:=h0.size; omega)),(Kc.below hb0).trans (Kc.below hb)⟩
    clear hlook h h0 hT hT0 hq0 hb0 hBB hg hpl hbg
    go_enter Tryz.func103,Tryz.ntmps103
    go_wp2_with fail
    go_big_quiet (fail)
    go_wp2
    go_ret
    exact HR.out _ (below_drewN' W0 nq)
  · -- it is not
    have hl1:=fun n => hlook (W0.drewN n) rfl
    have HC:=hid hc
    have H0:=hid h0
    have HQ0:=hid hq0
    have HBB:=hid hBB
    have HT0:=hid hT0
    have HK0 : Hid (Kc c w W0):=Kc.below hb0
    clear hlook h hT hb0 hc h0 hq0 hBB hT0 hbg
    go_enter Tryz.func103,Tryz.ntmps103
    go_wp2_with fail
    go_big_quiet (fail)
    have hbn:=below_drewN' W0 nq
    have H1:=hid (H0.out.below hbn)
    have HQ1 : Hid ((W0.drewN nq).heap[w.heap.size]? = some (.cells #[.bool fi,.bool la] 204 (0,0))):=HQ0.out
    have HT1:=hid (HT0.out.below hbn (Nat.le_refl _))
    have HB1:=hid (HBB.out.trans (hbn.mono (by have:=H0.out.size; omega)))
    have HK1:=hid (HK0.out.trans (Kc.below hbn))
    clear H0 HQ0 HT0 HBB HK0 hl1 a2 p0 p1 hW0 hbn
    generalize W0.drewN nq = W1 at *
    have HS : Hid (∀ w',Kc c W1 w' → (∃ K Mb,w'.heap[c.ab]? = some (auC c K Mb)) → w'.cell? ⟨c.ab,0,none⟩ = some (.slice (some ⟨c.b,0,none⟩) c.ss.length c.cap) ∧ w'.cell? ⟨w.heap.size,0,none⟩ = some (.bool fi) ∧ w'.cell? ⟨w.heap.size,1,none⟩ = some (.bool la)):=fun w' hk ⟨K,Mb,ha⟩ => by
      have hq:=hk.same _ _ HQ1.out rfl hzab
      have a0:=Lib.cell_of_heap ha 0
      have p0:=Lib.cell_of_heap hq 0
      have p1:=Lib.cell_of_heap hq 1
      simp only [auC,List.getElem?_toArray,List.getElem?_cons_zero,List.getElem?_cons_succ] at a0 p0 p1
      exact ⟨a0,p0,p1⟩
    have hS0:=HS.out W1.drew (Kc.below (Below.refl _ _).drew) ⟨K,Mb,H1.out.au⟩
    have CB:=hid (sbegin_any c.ss HC.out.fault c.b 0 c.cap fi la W1.drew (HT1.out.below (Below.refl _ _).drew (Nat.le_refl _)) H1.out.blt H1.out.steps)
    have CK:=hid (fun w' (hb : Below W1.drew.heap.size W1.drew w') => keep_any c HC.out g m K Mb k w' ((H1.out.below (Below.refl _ _).drew).below hb) ((HT1.out.below (Below.refl _ _).drew (Nat.le_refl _)).below hb (Nat.le_refl _)) (begS c.ss fi la) (beg_sub (leads_of HC.out.fault) (stepsF_zero HC.out.fault).2.1 fi la))
    unfold stV at CB CK
    go_upto_region 14 with fail
    go_region_held3 (fun w' => w'.cell? ⟨c.ab,0,none⟩ = some (.slice (some ⟨c.b,0,none⟩) c.ss.length c.cap) ∧ w'.cell? ⟨w.heap.size,0,none⟩ = some (.bool fi) ∧ w'.cell? ⟨w.heap.size,1,none⟩ = some (.bool la)) (first | with_reducible exact hS0 | with_reducible exact hS5 | with_reducible exact hS6 | (trace_state; fail)) (first
      | (go_at_call 126; refine CB.out.mono ?_; rintro e w5 ⟨rfl,hb5⟩; have hS5:=HS.out w5 ((Kc.below (Below.refl _ _).drew).trans (Kc.below hb5)) ⟨K,Mb,(H1.out.below ((Below.refl _ _).drew.trans hb5)).au⟩)
      | (go_at_call 125; refine (CK.out w5 hb5).mono ?_; rintro e w6 ⟨g2,m2,K2,Mb2,k2,σ,rfl,h2,hgl,hgs,hB2,hK2⟩; have hS6:=HS.out w6 (((Kc.below (Below.refl _ _).drew).trans (Kc.below hb5)).trans hK2) ⟨K2,Mb2,h2.au⟩))
    obtain ⟨kb2,hbg2⟩:=(h2.below (Below.refl _ w6).drew).bg
    obtain ⟨w9,k9,hrun,hkm,hg9⟩:=hbg2.store place_keyed Tryz.underlying164 (place_key fi la) (by have:=okB_small hbg2; unfold maxLen; omega) σ ⟨fi,la,rfl,hgs⟩
    have HR : Hid (AuP c g w (begS c.ss fi la) (.returned (.pointer (some ⟨σ,0,none⟩))) w9):=by
      have h3:=(h2.below (Below.refl _ w6).drew)
      refine ⟨g2,m2,K2,Mb2,k2,σ,rfl,h3.putB HC.out hg9 hkm,hgl,hgs,?_,?_⟩
      · have hb : Below c.B w w6.drew:=((HB1.out.trans ((Below.refl _ _).drew.trans (hb5.mono (by have:=H1.out.size; show c.B ≤ W1.heap.size; omega)))).trans hB2).drew
        exact hb.grown hg9 (by have:=h3.size; omega) (fun k e => by injection e with e; have:=h3.lo; omega)
      · obtain ⟨es',cl',hM'⟩:=hbg2.heap
        exact (((HK1.out.trans ((Kc.below (Below.refl _ _).drew).trans (Kc.below hb5))).trans hK2).trans (Kc.below (Below.refl _ w6).drew)).trans (Kc.map hM' hg9 h3.outs.2.1)
    have a2:=Lib.cell_of_heap h2.au 2
    simp only [auC,List.getElem?_toArray,List.getElem?_cons_zero,List.getElem?_cons_succ] at a2
    obtain ⟨_,y0,y1⟩:=hS6
    clear h2 hkm hg9 hgl hgs hB2 hK2 hb5 hbg2
    go_wp2_with fail
    go_region
    go_wp2
    go_ret
    exact HR.out
theorem okM_small {w : World} {M k : Nat} {ss : List St} {g : Nat → Option (Nat → Bool)} {p : Nat → Bool} (h : Km w 213 M k (okM ss g p)) : k ≤ 1024:=by
  refine h.small move_keyed 1024 (fun n => moveL (UInt8.ofNat (n / 4)) (decide (n % 2 = 1)) (decide (n / 2 % 2 = 1))) (fun kl b ⟨x,fi,la,e,_⟩ => ?_)
  have hx:=x.toNat_lt
  have hu : ∀ r,r < 4 → UInt8.ofNat ((4 * x.toNat + r) / 4) = x:=fun r hr => by
    rw [show (4 * x.toNat + r) / 4 = x.toNat by omega]
    simp
  cases fi <;> cases la
  · refine ⟨4 * x.toNat + 0,by omega,?_⟩
    rw [e,hu 0 (by omega),decide_eq_false (by omega),decide_eq_false (by omega)]
  · refine ⟨4 * x.toNat + 2,by omega,?_⟩
    rw [e,hu 2 (by omega),decide_eq_false (by omega),decide_eq_true (by omega)]
  · refine ⟨4 * x.toNat + 1,by omega,?_⟩
    rw [e,hu 1 (by omega),decide_eq_true (by omega),decide_eq_false (by omega)]
  · refine ⟨4 * x.toNat + 3,by omega,?_⟩
    rw [e,hu 3 (by omega),decide_eq_true (by omega),decide_eq_true (by omega)]
theorem next_any (c : Ax) (hc : c.Good) (g : Nat → Option (Nat → Bool)) (m : Nat → Nat) (K Mb k : Nat) (w : World) (h : AuI c g m K Mb k w) (hT : Tab w) (ρ : Nat) (q : Nat → Bool) (hρ : g ρ = some q) (x : UInt8) (fi la : Bool) :
    Calls Tryz.prog 106 #[c.u,.pointer (some ⟨ρ,0,none⟩),mvV x fi la] w (AuP c g w (nxtS c.ss q x.toNat fi la)):=by
  obtain ⟨W0,hW0⟩ : ∃ W0,w.alloc (.cells #[.int .u8 (x.toNat : Int),.bool fi,.bool la] 213) = W0:=⟨_,rfl⟩
  have hb0 : Below w.heap.size w W0:=by rw [← hW0]; exact (Below.refl _ _).alloc (Nat.le_refl _) _
  have hq0 : W0.heap[w.heap.size]? = some (.cells #[.int .u8 (x.toNat : Int),.bool fi,.bool la] 213 (0,0)):=by rw [← hW0]; exact World.alloc_heap_new w _
  have h0:=h.below hb0
  have hzab : w.heap.size ≠ c.ab:=by have:=heap_lt h.au; omega
  have hBB : Below c.B w W0:=hb0.mono (by have:=h.size; omega)
  have hT0:=hT.below hb0 (Nat.le_refl _)
  have hst0:=h0.st ρ q hρ
  have hρab:=(h0.loS ρ q hρ).2.2
  have a2:=Lib.cell_of_heap hst0 5
  have p0:=Lib.cell_of_heap hq0 0
  have p1:=Lib.cell_of_heap hq0 1
  have p2:=Lib.cell_of_heap hq0 2
  simp only [stC,List.getElem?_toArray,List.getElem?_cons_zero,List.getElem?_cons_succ] at a2 p0 p1 p2
  obtain ⟨kb,hbg⟩:=h0.mv ρ q hρ
  rcases hbg.look2 move_keyed Tryz.underlying208 (move_key x fi la) with ⟨σ,⟨x',fi',la',hpl,hg⟩,hlook⟩ | ⟨hlook,_⟩
  · -- it is known
    obtain ⟨rfl,rfl,rfl⟩:=move_inj hpl
    have hl1:=fun n => hlook (W0.drewN n) rfl
    have HR : Hid (∀ w',Below W0.heap.size W0 w' → AuP c g w (nxtS c.ss q x.toNat fi la) (.returned (.pointer (some ⟨σ,0,none⟩))) w'):=fun w' hb => ⟨g,m,K,Mb,k,σ,rfl,h0.below hb,Gle.refl g,hg,hBB.trans (hb.mono (by have:=h0.size; omega)),(Kc.below hb0).trans (Kc.below hb)⟩
    unfold mvV at hl1 ⊢
    clear hlook h h0 hT hT0 hq0 hb0 hBB hg hpl hbg hst0
    go_enter Tryz.func106,Tryz.ntmps106
    go_wp2_with fail
    go_big_quiet (fail)
    go_wp2
    go_ret
    exact HR.out _ (below_drewN' W0 nq)
  · -- it is not
    have hl1:=fun n => hlook (W0.drewN n) rfl
    have HC:=hid hc
    have H0:=hid h0
    have HQ0:=hid hq0
    have HBB:=hid hBB
    have HT0:=hid hT0
    have HK0 : Hid (Kc c w W0):=Kc.below hb0
    have HST0:=hid hst0
    unfold mvV at hl1 ⊢
    clear hlook h hT hb0 hc h0 hq0 hBB hT0 hbg hst0
    go_enter Tryz.func106,Tryz.ntmps106
    go_wp2_with fail
    go_big_quiet (fail)
    have hbn:=below_drewN' W0 nq
    have H1:=hid (H0.out.below hbn)
    have HQ1 : Hid ((W0.drewN nq).heap[w.heap.size]? = some (.cells #[.int .u8 (x.toNat : Int),.bool fi,.bool la] 213 (0,0))):=HQ0.out
    have HST1 : Hid ((W0.drewN nq).heap[ρ]? = some (stC c.ss q (m ρ))):=HST0.out
    have HT1:=hid (HT0.out.below hbn (Nat.le_refl _))
    have HB1:=hid (HBB.out.trans (hbn.mono (by have:=H0.out.size; omega)))
    have HK1:=hid (HK0.out.trans (Kc.below hbn))
    clear H0 HQ0 HT0 HBB HK0 HST0 hl1 a2 p0 p1 p2 hW0 hbn
    generalize W0.drewN nq = W1 at *
    have HS : Hid (∀ w',Kc c W1 w' → (∃ K Mb,w'.heap[c.ab]? = some (auC c K Mb)) → w'.cell? ⟨c.ab,0,none⟩ = some (.slice (some ⟨c.b,0,none⟩) c.ss.length c.cap) ∧ w'.cell? ⟨w.heap.size,0,none⟩ = some (.int .u8 (x.toNat : Int)) ∧ w'.cell? ⟨w.heap.size,1,none⟩ = some (.bool fi) ∧ w'.cell? ⟨w.heap.size,2,none⟩ = some (.bool la) ∧ w'.cell? ⟨ρ,0,none⟩ = some (.int .u64 (wd q 0)) ∧ w'.cell? ⟨ρ,1,none⟩ = some (.int .u64 (wd q 1)) ∧ w'.cell? ⟨ρ,2,none⟩ = some (.int .u64 (wd q 2)) ∧ w'.cell? ⟨ρ,3,none⟩ = some (.int .u64 (wd q 3))):=fun w' hk ⟨K,Mb,ha⟩ => by
      have hq:=hk.same _ _ HQ1.out rfl hzab
      have hs:=hk.same _ _ HST1.out rfl hρab
      have a0:=Lib.cell_of_heap ha 0
      have p0:=Lib.cell_of_heap hq 0
      have p1:=Lib.cell_of_heap hq 1
      have p2:=Lib.cell_of_heap hq 2
      have s0:=Lib.cell_of_heap hs 0
      have s1:=Lib.cell_of_heap hs 1
      have s2:=Lib.cell_of_heap hs 2
      have s3:=Lib.cell_of_heap hs 3
      simp only [auC,stC,List.getElem?_toArray,List.getElem?_cons_zero,List.getElem?_cons_succ] at a0 p0 p1 p2 s0 s1 s2 s3
      exact ⟨a0,p0,p1,p2,s0,s1,s2,s3⟩
    have hS0:=HS.out W1.drew (Kc.below (Below.refl _ _).drew) ⟨K,Mb,H1.out.au⟩
    have CB:=hid (snext_any c.ss HC.out.fault HC.out.ok c.b 0 c.cap q (H1.out.sub ρ q hρ) x fi la W1.drew (HT1.out.below (Below.refl _ _).drew (Nat.le_refl _)) H1.out.blt H1.out.steps)
    have CK:=hid (fun w' (hb : Below W1.drew.heap.size W1.drew w') => keep_any c HC.out g m K Mb k w' ((H1.out.below (Below.refl _ _).drew).below hb) ((HT1.out.below (Below.refl _ _).drew (Nat.le_refl _)).below hb (Nat.le_refl _)) (nxtS c.ss q x.toNat fi la) (nxt_sub (leads_of HC.out.fault) q x.toNat fi la))
    unfold stV at CB CK
    go_upto_region 16 with fail
    go_region_held3 (fun w' => w'.cell? ⟨c.ab,0,none⟩ = some (.slice (some ⟨c.b,0,none⟩) c.ss.length c.cap) ∧ w'.cell? ⟨w.heap.size,0,none⟩ = some (.int .u8 (x.toNat : Int)) ∧ w'.cell? ⟨w.heap.size,1,none⟩ = some (.bool fi) ∧ w'.cell? ⟨w.heap.size,2,none⟩ = some (.bool la) ∧ w'.cell? ⟨ρ,0,none⟩ = some (.int .u64 (wd q 0)) ∧ w'.cell? ⟨ρ,1,none⟩ = some (.int .u64 (wd q 1)) ∧ w'.cell? ⟨ρ,2,none⟩ = some (.int .u64 (wd q 2)) ∧ w'.cell? ⟨ρ,3,none⟩ = some (.int .u64 (wd q 3))) (first | with_reducible exact hS0 | with_reducible exact hS5 | with_reducible exact hS6 | (trace_state; fail)) (first
      | (go_at_call 127; refine CB.out.mono ?_; rintro e w5 ⟨rfl,hb5⟩; have hS5:=HS.out w5 ((Kc.below (Below.refl _ _).drew).trans (Kc.below hb5)) ⟨K,Mb,(H1.out.below ((Below.refl _ _).drew.trans hb5)).au⟩)
      | (go_at_call 125; refine (CK.out w5 hb5).mono ?_; rintro e w6 ⟨g2,m2,K2,Mb2,k2,σ,rfl,h2,hgl,hgs,hB2,hK2⟩; have hS6:=HS.out w6 (((Kc.below (Below.refl _ _).drew).trans (Kc.below hb5)).trans hK2) ⟨K2,Mb2,h2.au⟩))
    obtain ⟨kb2,hbg2⟩:=(h2.below (Below.refl _ w6).drew).mv ρ q (hgl ρ q hρ)
    obtain ⟨w9,k9,hrun,hkm,hg9⟩:=hbg2.store move_keyed Tryz.underlying208 (move_key x fi la) (by have:=okM_small hbg2; unfold maxLen; omega) σ ⟨x,fi,la,rfl,hgs⟩
    have HR : Hid (AuP c g w (nxtS c.ss q x.toNat fi la) (.returned (.pointer (some ⟨σ,0,none⟩))) w9):=by
      have h3:=(h2.below (Below.refl _ w6).drew)
      refine ⟨g2,m2,K2,Mb2,k2,σ,rfl,h3.putM HC.out (hgl ρ q hρ) hg9 hkm,hgl,hgs,?_,?_⟩
      · have hb : Below c.B w w6.drew:=((HB1.out.trans ((Below.refl _ _).drew.trans (hb5.mono (by have:=H1.out.size; show c.B ≤ W1.heap.size; omega)))).trans hB2).drew
        exact hb.grown hg9 (by have:=h3.size; omega) (fun k e => by injection e with e; have:=h3.loS ρ q (hgl ρ q hρ); omega)
      · obtain ⟨es',cl',hM'⟩:=hbg2.heap
        exact (((HK1.out.trans ((Kc.below (Below.refl _ _).drew).trans (Kc.below hb5))).trans hK2).trans (Kc.below (Below.refl _ w6).drew)).trans (Kc.map hM' hg9 (h3.outS ρ q (hgl ρ q hρ)))
    unfold mvV at hrun
    have a2:=Lib.cell_of_heap (h2.st ρ q (hgl ρ q hρ)) 5
    simp only [stC,List.getElem?_toArray,List.getElem?_cons_zero,List.getElem?_cons_succ] at a2
    obtain ⟨_,y0,y1,y2,_⟩:=hS6
    clear h2 hkm hg9 hgl hgs hB2 hK2 hb5 hbg2
    go_wp2_with fail
    go_region
    go_wp2
    go_ret
    exact HR.out
def LpI (c : Ax) (s : ByteArray) (i a σ : Nat) (w wr : World) : Prop:=∃ g m K Mb k,AuI c g m K Mb k wr ∧ g σ = some (curS c.ss s.data.toList i a) ∧ Below c.B w wr ∧ Kc c w wr
theorem lastI_no {l : List Nat} (a : Nat) (h : ¬ a ∈ l) : lastI (ahead l (a + 1)) = lastI (ahead l a):=by rw [ahead_no a h]
theorem lastI_yes {l : List Nat} (hl : l.Pairwise (· < ·)) (a : Nat) (h : a ∈ l) : lastI (ahead l (a + 1)) = (a : Int):=by rw [ahead_yes hl a h,lastI_snoc]
theorem along_any (c : Ax) (hc : c.Good) (g : Nat → Option (Nat → Bool)) (m : Nat → Nat) (K Mb k : Nat) (w : World) (h : AuI c g m K Mb k w) (hT : Tab w) (s : ByteArray) (hs : s.size ≤ 400) (i : Nat) (hi : i ≤ s.size) (l : List Nat) (hl : RunR c.ss s.data.toList i l) :
    Calls Tryz.prog 74 #[c.u,.string s,.int .i64 (i : Int)] w fun e w' => e = .returned (.tuple #[.int .i64 (lastI l),.nilIface]) ∧ (∃ g m K Mb k,AuI c g m K Mb k w') ∧ Below c.B w w' ∧ Kc c w w':=by
  have hpl : plE s.size (i : Int) = 0:=by unfold plE; rw [if_neg (by omega),if_pos ⟨by omega,by omega⟩]
  have HCP:=hid (checkPlace_any s (i : Int) w (by unfold maxLen; omega))
  rw [hpl,show errV 0 = .nilIface from rfl] at HCP
  have hlen : s.data.toList.length = s.size:=by simp
  obtain ⟨h200,hpos,_⟩:=stepsF_zero hc.fault
  have HPL:=hid (fun w' => placeOf_any s i w')
  have HBG:=hid (fun w' (hb : Below w.heap.size w w') => begin_any c hc g m K Mb k w' (h.below hb) (hT.below hb (Nat.le_refl _)) (decide (i = 0)) (decide (i = s.data.toList.length)))
  have HTB : Hid (∀ w',Below c.B w w' → Tab w'):=fun w' hb j hj => by
    have e:=hT j hj
    exact (hb.cell (p:=⟨2,j,none⟩) hc.tab).trans e
  have HSZ:=hid h.size
  have HC:=hid hc
  have HL:=hid hl
  rw [← cur_beg c.ss s.data.toList i (by omega)] at HBG
  clear hpl h hT hc hl
  go_enter Tryz.func74,Tryz.ntmps74
  go_wp2_with fail
  refine Calls.mono HCP.out ?_
  rintro e w1 ⟨rfl,hb1⟩
  go_wp2_with fail
  refine Calls.mono (HPL.out w1) ?_
  rintro e w2 ⟨rfl,hb2⟩
  have hb12:=hb1.trans (hb2.mono hb1.size)
  go_wp2_with fail
  refine Calls.mono (HBG.out w2 hb12) ?_
  rintro e w3 ⟨g3,m3,K3,Mb3,k3,σ,rfl,h3,_,hg3,hB3,hK3⟩
  have HR0 : Hid (∃ a σ' : Nat,i ≤ a ∧ a ≤ s.size ∧ (i : Int) = (a : Int) ∧ σ = σ' ∧ (-1 : Int) = lastI (ahead l a) ∧ LpI c s i a σ' w w3):=by
    refine ⟨i,σ,Nat.le_refl _,hi,rfl,rfl,?_,g3,m3,K3,Mb3,k3,h3,hg3,(hb12.mono (Nat.le_of_lt HSZ.out)).trans hB3,(Kc.below hb12).trans hK3⟩
    rw [cur_begin (by omega) HL.out]
    rfl
  clear h3 hg3 hB3 hK3 hb12 hb2 hb1 HBG HPL HCP
  go_wp2_with fail
  go_loopw [9,10,11] (fun lo no av wr => ∃ a σ : Nat,i ≤ a ∧ a ≤ s.size ∧ av = .int .i64 (a : Int) ∧ no = .pointer (some ⟨σ,0,none⟩) ∧ lo = .int .i64 (lastI (ahead l a)) ∧ Hid (LpI c s i a σ w wr)) (fun _ _ av _ => s.size + 1 - (intOf av).toNat)
  case atStart =>
    obtain ⟨a,σ',h1,h2,h3,h4,h5,h6⟩:=HR0.out
    exact ⟨a,σ',h1,h2,by rw [h3],by rw [h4],by rw [h5],h6⟩
  case round =>
    clear HR0
    obtain ⟨a,ρ,hia,has,rfl,rfl,rfl,HR⟩:=hrel
    obtain ⟨g4,m4,K4,Mb4,k4,h4,hg4,hB4,hK4⟩:=HR.out
    have HK4:=hid hK4
    have hst:=h4.st ρ _ hg4
    have c0:=Lib.cell_of_heap hst 0
    have c1:=Lib.cell_of_heap hst 1
    have c2:=Lib.cell_of_heap hst 2
    have c3:=Lib.cell_of_heap hst 3
    simp only [stC,List.getElem?_toArray,List.getElem?_cons_zero,List.getElem?_cons_succ] at c0 c1 c2 c3
    have CE:=hid (sempty_any h200 (curS c.ss s.data.toList i a) (h4.sub ρ _ hg4) wr)
    have HEND : Hid (curS c.ss s.data.toList i a = noP → ahead l a = l):=fun h => cur_all (by omega) hia HL.out h
    have H4:=hid h4
    have HB4:=hid hB4
    unfold stV at CE
    clear h4 hB4 hK4 hst HR
    go_wp2_with fail
    refine Calls.mono CE.out ?_
    rintro e w5 ⟨y,rfl,hy,hb5⟩
    have H5:=hid (H4.out.below hb5)
    have HB5:=hid (HB4.out.trans (hb5.mono (Nat.le_of_lt H4.out.size)))
    have HK5:=hid (HK4.out.trans (Kc.below hb5))
    clear hb5 H4 HB4 HK4 CE c0 c1 c2 c3
    cases y with
    | true =>
      have HE : Hid (ahead l a = l):=HEND.out (hy.1 rfl)
      clear hy HEND
      go_wp2
      go_ret2
      exact ⟨by rw [HE.out]; rfl,⟨_,_,_,_,_,H5.out⟩,HB5.out,HK5.out⟩
    | false =>
      have c4:=Lib.cell_of_heap (H5.out.st ρ _ hg4) 4
      simp only [stC,List.getElem?_toArray,List.getElem?_cons_zero,List.getElem?_cons_succ] at c4
      clear hy HEND
      have HDN:=hid (cur_done (ss:=c.ss) (s:=s.data.toList) (i:=i) (show i ≤ s.data.toList.length by omega) HL.out a)
      cases hd : donF c.ss (curS c.ss s.data.toList i a)
      case' false =>
        rw [hd] at c4
        have HV : Hid (lastI (ahead l (a + 1)) = lastI (ahead l a)):=lastI_no a (fun h => by
          have:=HDN.out.2 h
          rw [hd] at this
          cases this)
      case' true =>
        rw [hd] at c4
        have HV : Hid (lastI (ahead l (a + 1)) = (a : Int)):=lastI_yes HL.out.1 a (HDN.out.1 hd)
      all_goals
        clear HDN hd
        by_cases hae : a = s.size
        · have he : ((a : Int) == (s.size : Int)) = true:=by rw [hae]; simp
          have HE : Hid (ahead l (a + 1) = l):=by
            show _ = _
            rw [hae,← hlen]
            exact cur_last (by omega) HL.out
          rw [HE.out] at HV
          clear hae
          go_wp2
          go_ret2
          exact ⟨by rw [HV.out]; rfl,⟨_,_,_,_,_,H5.out⟩,HB5.out,HK5.out⟩
        · have he : ((a : Int) == (s.size : Int)) = false:=by rw [beq_eq_false_iff_ne]; omega
          have hal : a < s.size:=by omega
          have g0 : (0 : Int) ≤ (a : Int):=by omega
          have g1 : (a : Int) < (s.size : Int):=by omega
          have hsa : s.data.toList[a]? = some s[a]:=by
            rw [List.getElem?_eq_getElem (by simpa using hal)]; rfl
          have HNX : Hid (nxtS c.ss (curS c.ss s.data.toList i a) s[a].toNat false (decide (a + 1 = s.size)) = curS c.ss s.data.toList i (a + 1)):=by
            show _ = _
            rw [cur_next c.ss s.data.toList i a hia s[a] hsa,hlen]
          have CP:=hid (fun w' => placeOf_any s (a + 1) w')
          have e1 : ((a + 1 : Nat) : Int) = (a : Int) + 1:=by omega
          rw [e1,show decide (a + 1 = 0) = false by simp,hlen] at CP
          have hw1 : IntKind.i64.wrap ((a : Int) + 1) = (a : Int) + 1:=by rw [IntKind.wrap_i64]; omega
          have CN:=hid (fun w' (hb : Below w5.heap.size w5 w') => next_any c HC.out g4 m4 K4 Mb4 k4 w' (H5.out.below hb) (HTB.out _ (HB5.out.trans (hb.mono (Nat.le_of_lt H5.out.size)))) ρ _ hg4 s[a] false (decide (a + 1 = s.size)))
          rw [HNX.out] at CN
          unfold mvV at CN
          have HG4:=hid hg4
          clear e1 hsa hg4
          go_wp2_with fail
          go_region_with (first
            | (go_at_call 104; refine (CP.out _).mono ?_; rintro e w6 ⟨rfl,hb6⟩; have hbw : Below w5.heap.size w5 w6:=bel_d hb6)
            | (go_at_call 106; refine (CN.out w6 hbw).mono ?_; rintro e w7 ⟨g7,m7,K7,Mb7,k7,τ,rfl,h7,hgl7,hg7,hB7,hK7⟩))
          all_goals trace_state
          all_goals
            have HR : Hid (LpI c s i (a + 1) τ w w7):=⟨g7,m7,K7,Mb7,k7,h7,hg7,(HB5.out.trans (hbw.mono (Nat.le_of_lt H5.out.size))).trans hB7,(HK5.out.trans (Kc.below hbw)).trans hK7⟩
            clear h7 hgl7 hg7 hB7 hK7 hb6 hbw
            go_wp2
            exact ⟨⟨a + 1,τ,by omega,by omega,by go_num,rfl,by rw [HV.out],HR⟩,by simp [intOf]; omega⟩
theorem along_bad (c : Ax) (s : ByteArray) (i : Int) (w : World) (hs : s.size ≤ maxLen) (hp : ¬ plE s.size i = 0) :
    Calls Tryz.prog 74 #[c.u,.string s,.int .i64 i] w fun e w' => e = .returned (.tuple #[.int .i64 0,errV (plE s.size i)]) ∧ Below w.heap.size w w':=by
  have HC:=hid (checkPlace_any s i w hs)
  rw [show errV (plE s.size i) = .iface 32 (.int .i64 (plE s.size i)) by unfold errV; rw [if_neg hp]] at HC ⊢
  clear hp
  go_enter Tryz.func74,Tryz.ntmps74
  go_wp2_with fail
  refine Calls.mono HC.out ?_
  rintro e w1 ⟨rfl,hb⟩
  go_wp2
  go_ret2
  exact ⟨rfl,hb⟩
theorem new_ok (ss : List St) (v : Value) (w : World) (hf : stepsF ss = 0) (hS : SsIn w v ss) :
    Calls Tryz.prog 50 #[v] w fun e w' => ∃ c : Ax,c.ss = ss ∧ c.B = w.heap.size ∧ e = .returned (.tuple #[c.u,.nilIface]) ∧ Below w.heap.size w w' ∧ ∃ K Mb,AuI c (fun _ => none) (fun n => n) K Mb 0 w':=by
  have HC:=hid (waysOf_ok ss v w hf hS)
  obtain ⟨a,cap,rfl,hm⟩:=ssIn_form hS
  have HF:=hid hf
  clear hS hf
  go_enter Tryz.func50,Tryz.ntmps50
  go_wp2_with fail
  refine Calls.mono HC.out ?_
  rintro e w1 ⟨b,c,rfl,hb1,hN1,hb,hbl⟩
  obtain ⟨w3,hw3⟩ : ∃ w3,(w1.alloc (.cells #[.slice (some ⟨b,0,none⟩) ss.length c] 160)).alloc (.cells #[.slice (some ⟨b,0,none⟩) ss.length c,.map none,.map none] 166) = w3:=⟨_,rfl⟩
  have hb3 : Below w1.heap.size w1 w3:=by rw [← hw3]; exact ((Below.refl _ _).alloc (Nat.le_refl _) _).alloc (by simp) _
  have ha3 : w3.heap[w1.heap.size + 1]? = some (.cells #[.slice (some ⟨b,0,none⟩) ss.length c,.map none,.map none] 166 (0,0)):=by
    rw [← hw3]
    have:=World.alloc_heap_new (w1.alloc (.cells #[.slice (some ⟨b,0,none⟩) ss.length c] 160)) (.cells #[.slice (some ⟨b,0,none⟩) ss.length c,.map none,.map none] 166)
    rwa [World.size_alloc] at this
  have hsz3 : w3.heap.size = w1.heap.size + 2:=by rw [← hw3]; simp
  have CF:=hid (forget_raw (w1.heap.size + 1) _ _ _ w3 ha3)
  have HB1:=hid hb1
  have HN1:=hid hN1
  have HB3:=hid hb3
  have hs1:=hb1.size
  clear HC hb1 hN1 hb3 ha3
  go_wp2_with fail
  refine Calls.mono CF.out ?_
  rintro e w4 ⟨⟨v4,rfl⟩,e1,e2,e3,hg4⟩
  have HR : Hid (∃ c' : Ax,c'.ss = ss ∧ c'.B = w.heap.size ∧ c'.u = .pointer (some ⟨w1.heap.size + 1,0,none⟩) ∧ Below w.heap.size w w4 ∧ ∃ K Mb,AuI c' (fun _ => none) (fun n => n) K Mb 0 w4):=by
    refine ⟨⟨ss,w1.heap.size + 1,b,c,w.heap.size,fun _ => False⟩,rfl,rfl,rfl,?_,w3.heap.size,w3.heap.size + 1,?_⟩
    · exact (HB1.out.trans (HB3.out.mono hs1)).grown hg4 (by omega) (fun k e => by injection e with e; omega)
    · exact {
        au:=e1
        steps:=(HN1.out.below HB3.out hbl).grown hg4 (show b < _ by omega) (fun e => absurd (show b = w1.heap.size + 1 from Option.some.inj e) (by omega))
        blt:=by have:=hg4.size; show b < _; omega
        kn:=(Km.empty _ e2).mono (fun _ _ h => h.elim)
        k100:=by omega
        bg:=⟨0,(Km.empty _ e3).mono (fun _ _ h => h.elim)⟩
        sub:=fun σ p h => by cases h
        st:=fun σ p h => by cases h
        mv:=fun σ p h => by cases h
        inj:=fun σ τ p q h => by cases h
        mK:=fun σ p h => by cases h
        KM:=by omega
        lo:=⟨show w.heap.size ≤ _ by omega,show w.heap.size ≤ _ by omega,show w.heap.size ≤ w1.heap.size + 1 by omega,hb⟩
        loS:=fun σ p h => by cases h
        out:=fun k e => e.elim
        outS:=fun σ p h => by cases h }
  clear e1 e2 e3 hg4 CF HB1 HN1 HB3
  go_wp2
  go_ret2
  obtain ⟨c',r1,r2,r3,r4,r5⟩:=HR.out
  exact ⟨c',r1,r2,by rw [r3]; rfl,r4,r5⟩
end Go.Proofs.YtcjghhedphmhkaaGreatDoor
namespace Go.Proofs.YtcjghhedphmhkaaGreatDoor
open Go.RowKit
structure BB (w : World) (g : Nat) (nv : Value) (ss : List St) : Prop where
  of : ∃ sv,Bld w g nv sv ∧ SsOwn w (g + 1) sv ss
theorem Bld.grownS {w w' : World} {g B : Nat} {nv sv u : Value} {ss : List St} (h : Bld w g nv sv) (hO : SsOwn w B u ss) (hB : g < B) (hg : w.grownBy w' u.ownBlock) : Bld w' g nv sv:=by
  refine (hg.block g h.lt ?_).trans h
  intro e
  have:=(hO.ne g e.symm).1
  omega
theorem below_grownS {w w' : World} {g B : Nat} {u : Value} {ss : List St} (hO : SsOwn w B u ss) (hB : g ≤ B) (hgs : g ≤ w.heap.size) (hg : w.grownBy w' u.ownBlock) : Below g w w' :=
  ⟨hg.os,hg.tape,hg.output,hg.size,fun k hk => hg.block k (by omega) (by
    intro e
    have:=(hO.ne k e.symm).1
    omega)⟩
theorem add_any (g : Nat) (nv : Value) (ss : List St) (n : St) (w : World) (h : BB w g nv ss) (hm : ss.length ≤ 1000) :
    Calls Tryz.prog 71 #[.pointer (some ⟨g,0,none⟩),n.v] w fun e w' => e = .returned (.tuple #[]) ∧ BB w' g nv (ss ++ [n]) ∧ Below g w w':=by
  obtain ⟨sv,hb,hO⟩:=h.of
  have hg:=hb.lt
  obtain ⟨a0,cap0,hsv⟩:=hO.len
  have n0 : ¬ g = w.heap.size:=by omega
  have n1 : ¬ w.heap.size = g:=by omega
  have n2 : ¬ w.heap.size + 1 = g:=by omega
  have n3 : ¬ g = w.heap.size + 1:=by omega
  obtain ⟨c0,c1,f1⟩:=hb.all
  have k1 : ∀ o,(w.alloc o).cell? ⟨g,1,none⟩ = some sv:=fun o => (hb.alloc o).all.2.1
  have k2 : ∀ o o',((w.alloc o).alloc o').cell? ⟨g,1,none⟩ = some sv:=fun o o' => ((hb.alloc o).alloc o').all.2.1
  have AO : Hid (∀ W : World,W = ((w.alloc (.cells #[.int .i64 n.op,.int .u64 n.c.a,.int .u64 n.c.b,.int .u64 n.c.c,.int .u64 n.c.d,.int .i64 n.x,.int .i64 n.y] 158)).alloc (.cells #[.int .i64 n.op,.int .u64 n.c.a,.int .u64 n.c.b,.int .u64 n.c.c,.int .u64 n.c.d,.int .i64 n.x,.int .i64 n.y] 158)).drew → SsOwn W (g + 1) sv ss ∧ (∀ j u,(ssCells [n])[j]? = some u → W.cell? ⟨w.heap.size + 1,j,none⟩ = some u) ∧ g + 1 ≤ W.heap.size ∧ Bld W g nv sv ∧ Below g w W):=by
    rintro _ rfl
    have hB2 : Below w.heap.size w ((w.alloc (.cells #[.int .i64 n.op,.int .u64 n.c.a,.int .u64 n.c.b,.int .u64 n.c.c,.int .u64 n.c.d,.int .i64 n.x,.int .i64 n.y] 158)).alloc (.cells #[.int .i64 n.op,.int .u64 n.c.a,.int .u64 n.c.b,.int .u64 n.c.c,.int .u64 n.c.d,.int .i64 n.x,.int .i64 n.y] 158)).drew:=(((Below.refl _ _).alloc (Nat.le_refl _) _).alloc (by simp) _).drew
    refine ⟨hO.below hB2,?_,?_,hb.below hB2,hB2.mono (by omega)⟩
    · intro j u hj
      show ((w.alloc _).alloc _).cell? _ = _
      rw [World.cell?_alloc_at (w:=w.alloc (.cells #[.int .i64 n.op,.int .u64 n.c.a,.int .u64 n.c.b,.int .u64 n.c.c,.int .u64 n.c.d,.int .i64 n.x,.int .i64 n.y] 158)) _ _ (w.heap.size + 1) j (by simp)]
      simpa [ssCells,stCells] using hj
    · have:=hB2.size
      omega
  clear h hO hsv hb
  go_enter Tryz.func71,Tryz.ntmps71
  go_wp2_with fail
  go_region_law (first | (refine step_append_ss (by rfl) _ _ (by rfl) (g + 1) sv (by rfl) ss (AO.out _ rfl).1 (w.heap.size + 1) 1 n (by rfl) (AO.out _ rfl).2.1 (by omega) (AO.out _ rfl).2.2.1 ?_; intro g3 cap3 w3 ho3 hg3 hb3 hl3; have HO3:=hid ho3; have hp3:=(AO.out _ rfl).2.2.2.1.grownS (AO.out _ rfl).1 (by omega) hg3; have HB3:=hid ((AO.out _ rfl).2.2.2.2.trans (below_grownS (AO.out _ rfl).1 (by omega) (by have:=(AO.out _ rfl).2.2.1; omega) hg3)); have HP3:=hid hp3; obtain ⟨d0,d1,e1⟩:=hp3.all; clear ho3 hg3 hb3 hl3 hp3))
  all_goals go_wp2
  all_goals go_end0
  all_goals exact ⟨rfl,⟨_,HP3.out.setSteps _,HO3.out.keptG (bgrown_cell _ _ _ _) (by omega)⟩,HB3.out.setCell (Nat.le_refl _) _⟩
theorem BB.below {w w' : World} {g : Nat} {nv : Value} {ss : List St} (h : BB w g nv ss) (hb : Below w.heap.size w w') : BB w' g nv ss:=by
  obtain ⟨sv,h1,h2⟩:=h.of
  exact ⟨sv,h1.below hb,h2.below hb⟩
theorem BB.lt {w : World} {g : Nat} {nv : Value} {ss : List St} (h : BB w g nv ss) : g < w.heap.size:=by
  obtain ⟨sv,h1,_⟩:=h.of
  exact h1.lt
theorem BB.read {w : World} {g : Nat} {nv : Value} {ss : List St} (h : BB w g nv ss) : ∃ a cap,w.cell? ⟨g,0,none⟩ = some nv ∧ w.cell? ⟨g,1,none⟩ = some (.slice a ss.length cap):=by
  obtain ⟨sv,h1,h2⟩:=h.of
  obtain ⟨a,cap,rfl⟩:=h2.len
  exact ⟨a,cap,h1.all.1,h1.all.2.1⟩
theorem hold_any (g : Nat) (nv : Value) (ss : List St) (w : World) (h : BB w g nv ss) (hm : ss.length ≤ 1000) :
    Calls Tryz.prog 121 #[.pointer (some ⟨g,0,none⟩)] w fun e w' => e = .returned (.int .i64 (ss.length : Int)) ∧ BB w' g nv (ss ++ [stZ]) ∧ Below g w w':=by
  have HA:=hid (add_any g nv ss stZ w h hm)
  clear h
  go_enter Tryz.func121,Tryz.ntmps121
  go_wp2_with fail
  refine Calls.mono HA.out ?_
  rintro e w1 ⟨rfl,h1,hb⟩
  obtain ⟨a,cap,d0,d1⟩:=h1.read
  have HB:=hid h1
  have HL:=hid hb
  rw [List.length_append] at d1
  have hl : (((ss.length + [stZ].length : Nat) : Int)) - 1 = (ss.length : Int):=by simp
  clear h1 hb
  go_wp2
  go_ret
  exact ⟨by first | rfl | (simp; done),HB.out,HL.out⟩
def putSt (w : World) (g o : Nat) (s : St) : World:=((((((w.setCell ⟨g,o,none⟩ (.int .i64 s.op)).setCell ⟨g,o + 1,none⟩ (.int .u64 s.c.a)).setCell ⟨g,o + 2,none⟩ (.int .u64 s.c.b)).setCell ⟨g,o + 3,none⟩ (.int .u64 s.c.c)).setCell ⟨g,o + 4,none⟩ (.int .u64 s.c.d)).setCell ⟨g,o + 5,none⟩ (.int .i64 s.x)).setCell ⟨g,o + 6,none⟩ (.int .i64 s.y)
theorem heap_set {w : World} {r : Nat} {cur : Array Value} {t : TypeId} {fz : Nat × Nat} (h : w.heap[r]? = some (.cells cur t fz)) (o : Nat) (v : Value) : (w.setCell ⟨r,o,none⟩ v).heap[r]? = some (.cells (cur.setIfInBounds o v) t fz):=by
  simp [World.setCell,Array.getElem?_modify,h]
theorem stCells_set (m : St) (R : List Value) (k t : Nat) (v : Value) : (stCells m ++ R).set ((k + 1) * 7 + t) v = stCells m ++ R.set (k * 7 + t) v:=by
  rw [List.set_append_right _ _ (by simp [stCells]; omega)]
  congr 2
  simp [stCells]
  omega
theorem ssCells_set (s : St) : ∀ (ss : List St) (k : Nat),k < ss.length → ssCells (ss.set k s) = ((((((((ssCells ss).set (k * 7 + 0) (.int .i64 s.op)).set (k * 7 + 1) (.int .u64 s.c.a)).set (k * 7 + 2) (.int .u64 s.c.b)).set (k * 7 + 3) (.int .u64 s.c.c)).set (k * 7 + 4) (.int .u64 s.c.d)).set (k * 7 + 5) (.int .i64 s.x)).set (k * 7 + 6) (.int .i64 s.y))
  | [],k,h => by simp at h
  | m :: r,0,h => by simp [ssCells,stCells]
  | m :: r,k + 1,h => by
    rw [List.set_cons_succ,ssCells,ssCells,ssCells_set s r k (by simpa using h)]
    rw [stCells_set,stCells_set,stCells_set,stCells_set,stCells_set,stCells_set,stCells_set]
theorem SsOwn.put {w : World} {base r cap : Nat} {ss : List St} (h : SsOwn w base (.slice (some ⟨r,0,none⟩) ss.length cap) ss) (k : Nat) (hk : k < ss.length) (s : St) :
    SsOwn (putSt w r (k * 7) s) base (.slice (some ⟨r,0,none⟩) ss.length cap) (ss.set k s):=by
  refine ⟨by rw [ssCells_len],Or.inr ?_⟩
  rcases h.2 with ⟨hv,hn⟩ | ⟨g,cap',cur,hv,hb,hh,hnc,hcm,hcs,htk⟩
  · omega
  · injection hv with e1 e2 e3
    injection e1 with e1
    injection e1 with e1
    subst e1
    subst e3
    have hh':=heap_set (heap_set (heap_set (heap_set (heap_set (heap_set (heap_set hh (k * 7) (.int .i64 s.op)) (k * 7 + 1) (.int .u64 s.c.a)) (k * 7 + 2) (.int .u64 s.c.b)) (k * 7 + 3) (.int .u64 s.c.c)) (k * 7 + 4) (.int .u64 s.c.d)) (k * 7 + 5) (.int .i64 s.x)) (k * 7 + 6) (.int .i64 s.y)
    refine ⟨r,cap,_,by rw [List.length_set],hb,hh',by rw [List.length_set]; exact hnc,hcm,by simp only [Array.size_setIfInBounds]; exact hcs,?_⟩
    rw [List.length_set,ssCells_set s ss k hk]
    simp only [Array.toList_setIfInBounds,List.take_set,htk,Nat.add_zero]
theorem grown_putSt (w : World) (r o : Nat) (s : St) : w.grownBy (putSt w r o s) (some r) :=
  Lib.grownBy_setB (Lib.grownBy_setB (Lib.grownBy_setB (Lib.grownBy_setB (Lib.grownBy_setB (Lib.grownBy_setB (Lib.grownBy_setB (World.grownBy.refl w _) _ _) _ _) _ _) _ _) _ _) _ _) _ _
theorem fork_any (g : Nat) (nv : Value) (ss : List St) (k x y : Nat) (w : World) (h : BB w g nv ss) (hk : k < ss.length) :
    Calls Tryz.prog 122 #[.pointer (some ⟨g,0,none⟩),.int .i64 (k : Int),.int .i64 (x : Int),.int .i64 (y : Int)] w fun e w' => e = .returned (.tuple #[]) ∧ BB w' g nv (ss.set k (stF x y)) ∧ Below g w w':=by
  obtain ⟨sv,hb,hO⟩:=h.of
  obtain ⟨c0,c1,f1⟩:=hb.all
  obtain ⟨r,cap,rfl,hr,hrl,hlc,cur,hh,hcs,htk⟩:=hO.form (by omega)
  have k0 : (0 : Int) ≤ (k : Int):=by omega
  have k1 : (k : Int) < (ss.length : Int):=by omega
  have z0 : w.frozen? ⟨r,k * 7,none⟩ = false:=Lib.frozen_of_heap hh _
  have z1 : w.frozen? ⟨r,k * 7 + 1,none⟩ = false:=Lib.frozen_of_heap hh _
  have z2 : w.frozen? ⟨r,k * 7 + 2,none⟩ = false:=Lib.frozen_of_heap hh _
  have z3 : w.frozen? ⟨r,k * 7 + 3,none⟩ = false:=Lib.frozen_of_heap hh _
  have z4' : w.frozen? ⟨r,k * 7 + 4,none⟩ = false:=Lib.frozen_of_heap hh _
  have z5 : w.frozen? ⟨r,k * 7 + 5,none⟩ = false:=Lib.frozen_of_heap hh _
  have z6 : w.frozen? ⟨r,k * 7 + 6,none⟩ = false:=Lib.frozen_of_heap hh _
  have HC : Hid (∃ c : Nat → Value,∀ t,t < 7 → w.cell? ⟨r,k * 7 + t,none⟩ = some (c t)):=by
    refine ⟨fun t => cur.toList.getD (k * 7 + t) .nilIface,fun t ht => ?_⟩
    have : k * 7 + t < cur.size:=by rw [hcs]; omega
    rw [Lib.cell_of_heap hh,Array.getElem?_eq_getElem this]
    simp [List.getD,Array.getElem?_toList,Array.getElem?_eq_getElem this]
  obtain ⟨c,hc⟩:=HC.out
  have y0:=hc 0 (by omega)
  have y1:=hc 1 (by omega)
  have y2:=hc 2 (by omega)
  have y3:=hc 3 (by omega)
  have y4:=hc 4 (by omega)
  have y5:=hc 5 (by omega)
  have y6:=hc 6 (by omega)
  rw [Nat.add_zero] at y0
  have HP : Hid (BB (putSt w r (k * 7) (stF x y)) g nv (ss.set k (stF x y)) ∧ Below g w (putSt w r (k * 7) (stF x y))):=by
    refine ⟨⟨.slice (some ⟨r,0,none⟩) ss.length cap,?_,hO.put k hk _⟩,?_⟩
    · exact ((grown_putSt w r (k * 7) (stF x y)).block g hb.lt (by intro e; injection e with e; omega)).trans hb
    · have hgr:=grown_putSt w r (k * 7) (stF x y)
      exact ⟨hgr.os,hgr.tape,hgr.output,hgr.size,fun i hi => hgr.block i (by omega) (by intro e; injection e with e; omega)⟩
  clear hc h hb hO hh htk hcs HC
  go_enter Tryz.func122,Tryz.ntmps122
  go_wp2
  go_end0
  exact ⟨rfl,HP.out⟩
def BPart (ns : List Nd) (b off cap : Nat) (t : Rx) (i : Nat) : Prop:=∀ (g : Nat) (ss : List St) (w : World),BB w g (.slice (some ⟨b,off,none⟩) ns.length cap) ss → b < g → NsAt w b off ns → ss.length + 2 * t.flat.length ≤ 500 →
  Calls Tryz.prog 70 #[.pointer (some ⟨g,0,none⟩),.int .i64 (i : Int)] w fun e w' => e = .returned (.int .i64 ((i + t.flat.length : Nat) : Int)) ∧ BB w' g (.slice (some ⟨b,off,none⟩) ns.length cap) (ss ++ t.cod ss.length) ∧ Below g w w'
theorem part_leaf (ns : List Nd) (hl : ns.length ≤ 60) (b off cap i : Nat) (n : Nd) (hn : ns[i]? = some n) (hi : i < ns.length) (hop : n.op = 1 ∨ n.op = 2 ∨ n.op = 8 ∨ n.op = 9) : BPart ns b off cap (.leaf n) i:=by
  intro g ss w hB hbg hN hm
  have hml : ss.length ≤ 500:=by omega
  obtain ⟨c0,c1,c2,c3,c4⟩:=hN i n hn
  obtain ⟨a,cap',d0,d1⟩:=hB.read
  have i0 : (0 : Int) ≤ (i : Int):=by omega
  have i1 : (i : Int) < (ns.length : Int):=by omega
  have HL : Hid (((i + (Rx.leaf n).flat.length : Nat) : Int) = (i : Int) + 1):=by show _ = _; simp [Rx.flat]
  rw [HL.out]
  rcases hop with hop | hop | hop | hop
  · have HC : Hid ((Rx.leaf n).cod ss.length = [⟨1,n.c,((ss.length + 1 : Nat) : Int),0⟩]):=by show _ = _; simp [Rx.cod,hop]
    rw [hop] at c0
    have HA:=hid (add_any g _ ss ⟨1,n.c,((ss.length + 1 : Nat) : Int),0⟩ w hB (by omega))
    have hx : Hid ((ss.length : Int) + 1 = ((ss.length + 1 : Nat) : Int)):=by show _ = _; omega
    rw [HC.out]
    clear hN hB
    go_enter Tryz.func70,Tryz.ntmps70
    go_wp2_with fail
    rw [hx.out]
    refine Calls.mono HA.out ?_
    rintro e w1 ⟨rfl,h1,hb1⟩
    go_wp2
    go_ret
    exact ⟨rfl,h1,hb1⟩
  · have HC : Hid ((Rx.leaf n).cod ss.length = []):=by show _ = _; simp [Rx.cod,hop]
    rw [hop] at c0
    rw [HC.out,List.append_nil]
    have HB:=hid hB
    clear hN hB
    go_enter Tryz.func70,Tryz.ntmps70
    go_wp2
    go_ret
    exact ⟨rfl,HB.out,Below.refl _ _⟩
  · have HC : Hid ((Rx.leaf n).cod ss.length = [⟨3,z4,((ss.length + 1 : Nat) : Int),0⟩]):=by show _ = _; simp [Rx.cod,hop]
    rw [hop] at c0
    have HA:=hid (add_any g _ ss ⟨3,z4,((ss.length + 1 : Nat) : Int),0⟩ w hB (by omega))
    have hx : Hid ((ss.length : Int) + 1 = ((ss.length + 1 : Nat) : Int)):=by show _ = _; omega
    rw [HC.out]
    clear hN hB
    go_enter Tryz.func70,Tryz.ntmps70
    go_wp2_with fail
    rw [hx.out]
    refine Calls.mono HA.out ?_
    rintro e w1 ⟨rfl,h1,hb1⟩
    go_wp2
    go_ret
    exact ⟨rfl,h1,hb1⟩
  · have HC : Hid ((Rx.leaf n).cod ss.length = [⟨4,z4,((ss.length + 1 : Nat) : Int),0⟩]):=by show _ = _; simp [Rx.cod,hop]
    rw [hop] at c0
    have HA:=hid (add_any g _ ss ⟨4,z4,((ss.length + 1 : Nat) : Int),0⟩ w hB (by omega))
    have hx : Hid ((ss.length : Int) + 1 = ((ss.length + 1 : Nat) : Int)):=by show _ = _; omega
    rw [HC.out]
    clear hN hB
    go_enter Tryz.func70,Tryz.ntmps70
    go_wp2_with fail
    rw [hx.out]
    refine Calls.mono HA.out ?_
    rintro e w1 ⟨rfl,h1,hb1⟩
    go_wp2
    go_ret
    exact ⟨rfl,h1,hb1⟩
theorem set_mid (l r : List St) (x y : St) : (l ++ x :: r).set l.length y = l ++ y :: r:=by
  rw [List.set_append_right _ _ (Nat.le_refl _)]
  simp
theorem plus_any (ns : List Nd) (hl : ns.length ≤ 60) (b off cap i : Nat) (hi : i ≤ 60) (a : Rx) (hP : BPart ns b off cap a (i + 1)) (g : Nat) (ss : List St) (w : World) (hB : BB w g (.slice (some ⟨b,off,none⟩) ns.length cap) ss) (hbg : b < g) (hN : NsAt w b off ns) (hm : ss.length + 2 * a.flat.length + 1 ≤ 500) :
    Calls Tryz.prog 98 #[.pointer (some ⟨g,0,none⟩),.int .i64 (i : Int)] w fun e w' => e = .returned (.int .i64 ((i + 1 + a.flat.length : Nat) : Int)) ∧ BB w' g (.slice (some ⟨b,off,none⟩) ns.length cap) (ss ++ (a.cod ss.length ++ [stF ss.length (ss.length + (a.cod ss.length).length + 1)])) ∧ Below g w w':=by
  obtain ⟨a',cap',d0,d1⟩:=hB.read
  have hcl:=a.cod_len ss.length
  have HP:=hid (hP g ss w hB hbg hN (by omega))
  have hx : Hid ((i : Int) + 1 = ((i + 1 : Nat) : Int)):=by show _ = _; omega
  clear hB hN hP
  go_enter Tryz.func98,Tryz.ntmps98
  go_wp2_with fail
  rw [hx.out]
  refine Calls.mono HP.out ?_
  rintro e w1 ⟨rfl,h1,hb1⟩
  have HH:=hid (hold_any g _ _ w1 h1 (by rw [List.length_append]; omega))
  have HL1:=hid hb1
  clear h1 hb1 HP
  go_wp2_with fail
  refine Calls.mono HH.out ?_
  rintro e w2 ⟨rfl,h2,hb2⟩
  have HF:=hid (fork_any g _ _ (ss ++ a.cod ss.length).length ss.length ((ss ++ a.cod ss.length).length + 1) w2 h2 (by simp))
  have HL2:=hid (HL1.out.trans hb2)
  have hk : (ss ++ a.cod ss.length).length ≤ 500:=by rw [List.length_append]; omega
  have hy : Hid ((((ss ++ a.cod ss.length).length : Nat) : Int) + 1 = (((ss ++ a.cod ss.length).length + 1 : Nat) : Int)):=by show _ = _; omega
  have HS : Hid (((ss ++ a.cod ss.length) ++ [stZ]).set (ss ++ a.cod ss.length).length (stF ss.length ((ss ++ a.cod ss.length).length + 1)) = ss ++ (a.cod ss.length ++ [stF ss.length (ss.length + (a.cod ss.length).length + 1)])):=by
    show _ = _
    rw [set_mid,List.append_assoc,List.length_append]
  rw [HS.out] at HF
  generalize (ss ++ a.cod ss.length).length = K at *
  clear h2 hb2 HH HL1 HS
  go_wp2_with fail
  rw [hy.out]
  refine Calls.mono HF.out ?_
  rintro e w3 ⟨rfl,h3,hb3⟩
  have H3:=hid h3
  have HL3:=hid (HL2.out.trans hb3)
  clear h3 hb3 HF
  go_wp2
  go_ret
  exact ⟨rfl,H3.out,HL3.out⟩
theorem set_held (l A : List St) (y : St) : (l ++ [stZ] ++ A).set l.length y = l ++ y :: A:=by
  rw [List.append_assoc,List.singleton_append,set_mid]
theorem opt_any (ns : List Nd) (hl : ns.length ≤ 60) (b off cap i : Nat) (hi : i ≤ 60) (a : Rx) (hP : BPart ns b off cap a (i + 1)) (g : Nat) (ss : List St) (w : World) (hB : BB w g (.slice (some ⟨b,off,none⟩) ns.length cap) ss) (hbg : b < g) (hN : NsAt w b off ns) (hm : ss.length + 2 * a.flat.length + 1 ≤ 500) (K : Nat) (hK : K = ss.length + 1 + (a.cod (ss.length + 1)).length) :
    Calls Tryz.prog 99 #[.pointer (some ⟨g,0,none⟩),.int .i64 (i : Int)] w fun e w' => e = .returned (.int .i64 ((i + 1 + a.flat.length : Nat) : Int)) ∧ BB w' g (.slice (some ⟨b,off,none⟩) ns.length cap) (ss ++ stF (ss.length + 1) K :: a.cod (ss.length + 1)) ∧ Below g w w':=by
  have hcl:=a.cod_len (ss.length + 1)
  have HH:=hid (hold_any g _ ss w hB (by omega))
  have HN:=hid hN
  have HP:=hid hP
  have HK:=hid hK
  have hx : Hid ((i : Int) + 1 = ((i + 1 : Nat) : Int)):=by show _ = _; omega
  clear hB hN hP hK
  go_enter Tryz.func99,Tryz.ntmps99
  go_wp2_with fail
  refine Calls.mono HH.out ?_
  rintro e w1 ⟨rfl,h1,hb1⟩
  have HP1:=hid (HP.out g (ss ++ [stZ]) w1 h1 hbg (HN.out.below hb1 hbg) (by simp; omega))
  have HL1:=hid hb1
  rw [show (ss ++ [stZ]).length = ss.length + 1 from by simp] at HP1
  clear h1 hb1 HH HP
  go_wp2_with fail
  rw [hx.out]
  refine Calls.mono HP1.out ?_
  rintro e w2 ⟨rfl,h2,hb2⟩
  obtain ⟨a',cap',d0,d1⟩:=h2.read
  have HF:=hid (fork_any g _ _ ss.length (ss.length + 1) K w2 h2 (by first | (simp; done) | (simp; omega)))
  rw [set_held] at HF
  have HL2:=hid (HL1.out.trans hb2)
  rw [show (ss ++ [stZ] ++ a.cod (ss.length + 1)).length = K from by have:=HK.out; first | (simp; done) | (simp; omega)] at d1
  have hy : Hid (((ss.length : Nat) : Int) + 1 = ((ss.length + 1 : Nat) : Int)):=by show _ = _; omega
  have hk : K ≤ 500:=by have:=HK.out; omega
  clear h2 hb2 HL1 HP1 d0
  go_wp2_with fail
  rw [hy.out]
  refine Calls.mono HF.out ?_
  rintro e w3 ⟨rfl,h3,hb3⟩
  have H3:=hid h3
  have HL3:=hid (HL2.out.trans hb3)
  clear h3 hb3 HF
  go_wp2
  go_ret
  exact ⟨rfl,H3.out,HL3.out⟩
theorem star_any (ns : List Nd) (hl : ns.length ≤ 60) (b off cap i : Nat) (hi : i ≤ 60) (a : Rx) (hP : BPart ns b off cap a (i + 1)) (g : Nat) (ss : List St) (w : World) (hB : BB w g (.slice (some ⟨b,off,none⟩) ns.length cap) ss) (hbg : b < g) (hN : NsAt w b off ns) (hm : ss.length + 2 * a.flat.length + 2 ≤ 500) (K : Nat) (hK : K = ss.length + 1 + (a.cod (ss.length + 1)).length + 1) :
    Calls Tryz.prog 97 #[.pointer (some ⟨g,0,none⟩),.int .i64 (i : Int)] w fun e w' => e = .returned (.int .i64 ((i + 1 + a.flat.length : Nat) : Int)) ∧ BB w' g (.slice (some ⟨b,off,none⟩) ns.length cap) (ss ++ stF (ss.length + 1) K :: (a.cod (ss.length + 1) ++ [stF (ss.length + 1) K])) ∧ Below g w w':=by
  have hcl:=a.cod_len (ss.length + 1)
  have HH:=hid (hold_any g _ ss w hB (by omega))
  have HN:=hid hN
  have HP:=hid hP
  have HK:=hid hK
  clear hB hN hP hK
  go_enter Tryz.func97,Tryz.ntmps97
  go_wp2_with fail
  refine Calls.mono HH.out ?_
  rintro e w1 ⟨rfl,h1,hb1⟩
  have HP1:=hid (plus_any ns hl b off cap i hi a HP.out g (ss ++ [stZ]) w1 h1 hbg (HN.out.below hb1 hbg) (by simp; omega))
  have HL1:=hid hb1
  rw [show (ss ++ [stZ]).length = ss.length + 1 from by simp,← HK.out] at HP1
  clear h1 hb1 HH HP
  go_wp2_with fail
  refine Calls.mono HP1.out ?_
  rintro e w2 ⟨rfl,h2,hb2⟩
  obtain ⟨a',cap',d0,d1⟩:=h2.read
  have HF:=hid (fork_any g _ _ ss.length (ss.length + 1) K w2 h2 (by first | (simp; done) | (simp; omega)))
  rw [set_held] at HF
  have HL2:=hid (HL1.out.trans hb2)
  rw [show (ss ++ [stZ] ++ (a.cod (ss.length + 1) ++ [stF (ss.length + 1) K])).length = K from by have:=HK.out; first | (simp; done) | (simp; omega)] at d1
  have hy : Hid (((ss.length : Nat) : Int) + 1 = ((ss.length + 1 : Nat) : Int)):=by show _ = _; omega
  have hk : K ≤ 500:=by have:=HK.out; omega
  clear h2 hb2 HL1 HP1 d0
  go_wp2_with fail
  rw [hy.out]
  refine Calls.mono HF.out ?_
  rintro e w3 ⟨rfl,h3,hb3⟩
  have H3:=hid h3
  have HL3:=hid (HL2.out.trans hb3)
  clear h3 hb3 HF
  go_wp2
  go_ret
  exact ⟨rfl,H3.out,HL3.out⟩
theorem or_any (ns : List Nd) (hl : ns.length ≤ 60) (b off cap i : Nat) (hi : i ≤ 60) (a c : Rx) (hP : BPart ns b off cap a (i + 1)) (hQ : BPart ns b off cap c (i + 1 + a.flat.length)) (hal : a.flat.length ≤ 60) (g : Nat) (ss : List St) (w : World) (hB : BB w g (.slice (some ⟨b,off,none⟩) ns.length cap) ss) (hbg : b < g) (hN : NsAt w b off ns) (hm : ss.length + 2 * a.flat.length + 2 * c.flat.length + 2 ≤ 500) (A C : List St) (p2 E : Nat) (hA : A = a.cod (ss.length + 1)) (hp2 : p2 = ss.length + 1 + A.length + 1) (hC : C = c.cod p2) (hE : E = p2 + C.length) :
    Calls Tryz.prog 96 #[.pointer (some ⟨g,0,none⟩),.int .i64 (i : Int)] w fun e w' => e = .returned (.int .i64 ((i + 1 + a.flat.length + c.flat.length : Nat) : Int)) ∧ BB w' g (.slice (some ⟨b,off,none⟩) ns.length cap) (ss ++ stF (ss.length + 1) p2 :: (A ++ stF E E :: C)) ∧ Below g w w':=by
  have hcl:=a.cod_len (ss.length + 1)
  have hcl2:=c.cod_len p2
  rw [← hA] at hcl
  rw [← hC] at hcl2
  have hpb : p2 ≤ 500:=by omega
  have hEb : E ≤ 500:=by omega
  have HH:=hid (hold_any g _ ss w hB (by omega))
  have HN:=hid hN
  have HP:=hid hP
  have HQ:=hid hQ
  have hx : Hid ((i : Int) + 1 = ((i + 1 : Nat) : Int)):=by show _ = _; omega
  have HE2:=hid hp2
  have HE3:=hid hE
  have HA:=hid hA
  have HC:=hid hC
  clear hB hN hP hQ hp2 hE hA hC
  go_enter Tryz.func96,Tryz.ntmps96
  go_wp2_with fail
  refine Calls.mono HH.out ?_
  rintro e w1 ⟨rfl,h1,hb1⟩
  have HP1:=hid (HP.out g (ss ++ [stZ]) w1 h1 hbg (HN.out.below hb1 hbg) (by simp; omega))
  have HL1:=hid hb1
  rw [show (ss ++ [stZ]).length = ss.length + 1 from by simp] at HP1
  clear h1 hb1 HH HP
  go_wp2_with fail
  rw [hx.out]
  refine Calls.mono HP1.out ?_
  rintro e w2 ⟨rfl,h2,hb2⟩
  rw [← HA.out] at h2
  obtain ⟨L,HL⟩ : ∃ L,Hid (L = ss.length + 1 + A.length):=⟨_,Eq.refl _⟩
  have hLe : (ss ++ [stZ] ++ A).length = L:=by rw [HL.out]; simp; omega
  have hLb : L ≤ 500:=by have:=HL.out; omega
  have HH2:=hid (hold_any g _ _ w2 h2 (by omega))
  rw [hLe] at HH2
  have HL2:=hid (HL1.out.trans hb2)
  clear h2 hb2 HL1 HP1
  go_wp2_with fail
  refine Calls.mono HH2.out ?_
  rintro e w3 ⟨rfl,h3,hb3⟩
  have HF:=hid (fork_any g _ _ ss.length (ss.length + 1) (L + 1) w3 h3 (by first | (simp; done) | (simp; omega)))
  rw [show ss ++ [stZ] ++ A ++ [stZ] = ss ++ [stZ] ++ (A ++ [stZ]) from by simp,set_held] at HF
  have HL3:=hid (HL2.out.trans hb3)
  have hy : Hid (((ss.length : Nat) : Int) + 1 = ((ss.length + 1 : Nat) : Int)):=by show _ = _; omega
  have hz : Hid (((L : Nat) : Int) + 1 = ((L + 1 : Nat) : Int)):=by show _ = _; omega
  have hsl : ss.length ≤ 500:=by omega
  clear h3 hb3 HL2 HH2
  go_wp2_with fail
  rw [hy.out,hz.out]
  refine Calls.mono HF.out ?_
  rintro e w4 ⟨rfl,h4,hb4⟩
  have HL4:=hid (HL3.out.trans hb4)
  have HP4:=hid (HQ.out g _ w4 h4 hbg (HN.out.below HL4.out hbg) (by have:=HL.out; simp; omega))
  rw [show (ss ++ stF (ss.length + 1) (L + 1) :: (A ++ [stZ])).length = p2 from by have:=HL.out; have:=HE2.out; simp; omega] at HP4
  clear h4 hb4 HL3 HF HQ
  go_wp2_with fail
  refine Calls.mono HP4.out ?_
  rintro e w5 ⟨rfl,h5,hb5⟩
  rw [← HC.out] at h5
  have hLp : L + 1 = p2:=by have:=HL.out; have:=HE2.out; omega
  obtain ⟨a',cap',d0,d1⟩:=h5.read
  have HS : Hid ((ss ++ stF (ss.length + 1) (L + 1) :: (A ++ [stZ]) ++ C).set L (stF E E) = ss ++ stF (ss.length + 1) p2 :: (A ++ stF E E :: C)):=by
    show _ = _
    rw [show ss ++ stF (ss.length + 1) (L + 1) :: (A ++ [stZ]) ++ C = (ss ++ stF (ss.length + 1) p2 :: A) ++ stZ :: C from by rw [hLp]; simp]
    have hL2 : L = (ss ++ stF (ss.length + 1) p2 :: A).length:=by have:=HL.out; simp; omega
    rw [hL2,set_mid]
    simp
  have HL5:=hid (HL4.out.trans hb5)
  have HF5 : Hid (∀ W,Below w5.heap.size w5 W → Calls Tryz.prog 122 #[.pointer (some ⟨g,0,none⟩),.int .i64 (L : Int),.int .i64 (E : Int),.int .i64 (E : Int)] W fun e w' => e = .returned (.tuple #[]) ∧ BB w' g (.slice (some ⟨b,off,none⟩) ns.length cap) (ss ++ stF (ss.length + 1) p2 :: (A ++ stF E E :: C)) ∧ Below g w w'):=by
    intro W hW
    have hf:=fork_any g _ _ L E E W (h5.below hW) (by have:=HL.out; simp; omega)
    rw [HS.out] at hf
    refine hf.mono ?_
    rintro e w' ⟨rfl,h6,hb6⟩
    exact ⟨rfl,h6,(HL5.out.trans (hW.mono (Nat.le_of_lt h5.lt))).trans hb6⟩
  rw [show (ss ++ stF (ss.length + 1) (L + 1) :: (A ++ [stZ]) ++ C).length = E from by have:=HL.out; have:=HE3.out; simp; omega] at d1
  clear h5 hb5 HL4 HP4 d0 HS hLp hLe HL5
  go_wp2_with fail
  go_region_with (go_at_call 122; refine Calls.mono (HF5.out _ (below_drewN' w5 1)) ?_; rintro e w6 ⟨rfl,h6,hb6⟩)
  all_goals have H6:=hid h6
  all_goals have HL6:=hid hb6
  all_goals clear h6 hb6 HF5
  all_goals go_wp2
  all_goals go_ret
  all_goals refine ⟨?_,H6.out,HL6.out⟩
  all_goals first | rfl | (congr 1; simp; done) | trace_state
theorem part_one (ns : List Nd) (hl : ns.length ≤ 60) (b off cap i : Nat) (n : Nd) (a : Rx) (hn : ns[i]? = some n) (hi : i < ns.length) (hop : n.op = 5 ∨ n.op = 6 ∨ n.op = 7) (hP : BPart ns b off cap a (i + 1)) : BPart ns b off cap (.one n a) i:=by
  intro g ss w hB hbg hN hm
  have hml : ss.length ≤ 500:=by omega
  obtain ⟨c0,c1,c2,c3,c4⟩:=hN i n hn
  obtain ⟨x',cap',d0,d1⟩:=hB.read
  have i0 : (0 : Int) ≤ (i : Int):=by omega
  have i1 : (i : Int) < (ns.length : Int):=by omega
  have hfl : (Rx.one n a).flat.length = 1 + a.flat.length:=by simp [Rx.flat]; omega
  have HL : Hid ((i + (Rx.one n a).flat.length : Nat) = i + 1 + a.flat.length):=by show _ = _; rw [hfl]; omega
  rw [HL.out]
  rcases hop with hop | hop | hop
  · have HC : Hid ((Rx.one n a).cod ss.length = stF (ss.length + 1) (ss.length + 1 + (a.cod (ss.length + 1)).length + 1) :: (a.cod (ss.length + 1) ++ [stF (ss.length + 1) (ss.length + 1 + (a.cod (ss.length + 1)).length + 1)])):=by show _ = _; simp [Rx.cod,hop]
    have HA:=hid (star_any ns hl b off cap i (by omega) a hP g ss w hB hbg hN (by omega) _ rfl)
    rw [hop] at c0
    rw [HC.out]
    clear hN hB hP HC HL hfl
    go_enter Tryz.func70,Tryz.ntmps70
    go_wp2_with fail
    refine Calls.mono HA.out ?_
    rintro e w1 ⟨rfl,h1,hb1⟩
    have H1:=hid h1
    have HB1:=hid hb1
    clear h1 hb1 HA
    go_wp2
    go_ret
    exact ⟨rfl,H1.out,HB1.out⟩
  · have HC : Hid ((Rx.one n a).cod ss.length = a.cod ss.length ++ [stF ss.length (ss.length + (a.cod ss.length).length + 1)]):=by show _ = _; simp [Rx.cod,hop]
    have HA:=hid (plus_any ns hl b off cap i (by omega) a hP g ss w hB hbg hN (by omega))
    rw [hop] at c0
    rw [HC.out]
    clear hN hB hP HC HL hfl
    go_enter Tryz.func70,Tryz.ntmps70
    go_wp2_with fail
    refine Calls.mono HA.out ?_
    rintro e w1 ⟨rfl,h1,hb1⟩
    have H1:=hid h1
    have HB1:=hid hb1
    clear h1 hb1 HA
    go_wp2
    go_ret
    exact ⟨rfl,H1.out,HB1.out⟩
  · have HC : Hid ((Rx.one n a).cod ss.length = stF (ss.length + 1) (ss.length + 1 + (a.cod (ss.length + 1)).length) :: a.cod (ss.length + 1)):=by show _ = _; simp [Rx.cod,hop]
    have HA:=hid (opt_any ns hl b off cap i (by omega) a hP g ss w hB hbg hN (by omega) _ rfl)
    rw [hop] at c0
    rw [HC.out]
    clear hN hB hP HC HL hfl
    go_enter Tryz.func70,Tryz.ntmps70
    go_wp2_with fail
    refine Calls.mono HA.out ?_
    rintro e w1 ⟨rfl,h1,hb1⟩
    have H1:=hid h1
    have HB1:=hid hb1
    clear h1 hb1 HA
    go_wp2
    go_ret
    exact ⟨rfl,H1.out,HB1.out⟩
theorem part_or (ns : List Nd) (hl : ns.length ≤ 60) (b off cap i : Nat) (n : Nd) (a c : Rx) (hn : ns[i]? = some n) (hi : i < ns.length) (hop : n.op = 4) (hal : a.flat.length ≤ 60) (hP : BPart ns b off cap a (i + 1)) (hQ : BPart ns b off cap c (i + 1 + a.flat.length)) : BPart ns b off cap (.two n a c) i:=by
  intro g ss w hB hbg hN hm
  have hml : ss.length ≤ 500:=by omega
  obtain ⟨c0,c1,c2,c3,c4⟩:=hN i n hn
  obtain ⟨x',cap',d0,d1⟩:=hB.read
  have i0 : (0 : Int) ≤ (i : Int):=by omega
  have i1 : (i : Int) < (ns.length : Int):=by omega
  have hfl : (Rx.two n a c).flat.length = 1 + a.flat.length + c.flat.length:=by simp [Rx.flat]; omega
  have HL : Hid ((i + (Rx.two n a c).flat.length : Nat) = i + 1 + a.flat.length + c.flat.length):=by show _ = _; rw [hfl]; omega
  rw [HL.out]
  · have HA:=hid (or_any ns hl b off cap i (by omega) a c hP hQ hal g ss w hB hbg hN (by omega) _ _ _ _ rfl rfl rfl rfl)
    have HC : Hid ((Rx.two n a c).cod ss.length = stF (ss.length + 1) (ss.length + 1 + (a.cod (ss.length + 1)).length + 1) :: (a.cod (ss.length + 1) ++ (stF (ss.length + 1 + (a.cod (ss.length + 1)).length + 1 + (c.cod (ss.length + 1 + (a.cod (ss.length + 1)).length + 1)).length) (ss.length + 1 + (a.cod (ss.length + 1)).length + 1 + (c.cod (ss.length + 1 + (a.cod (ss.length + 1)).length + 1)).length) :: c.cod (ss.length + 1 + (a.cod (ss.length + 1)).length + 1)))):=by show _ = _; simp [Rx.cod,hop]
    rw [hop] at c0
    rw [HC.out]
    clear hN hB hP hQ HC HL hfl
    go_enter Tryz.func70,Tryz.ntmps70
    go_wp2_with fail
    refine Calls.mono HA.out ?_
    rintro e w1 ⟨rfl,h1,hb1⟩
    have H1:=hid h1
    have HB1:=hid hb1
    clear h1 hb1 HA
    go_wp2
    go_ret
    exact ⟨rfl,H1.out,HB1.out⟩
theorem part_cat (ns : List Nd) (hl : ns.length ≤ 60) (b off cap i : Nat) (n : Nd) (a c : Rx) (hn : ns[i]? = some n) (hi : i < ns.length) (hop : n.op = 3) (hal : a.flat.length ≤ 60) (hP : BPart ns b off cap a (i + 1)) (hQ : BPart ns b off cap c (i + 1 + a.flat.length)) : BPart ns b off cap (.two n a c) i:=by
  intro g ss w hB hbg hN hm
  have hml : ss.length ≤ 500:=by omega
  obtain ⟨c0,c1,c2,c3,c4⟩:=hN i n hn
  obtain ⟨x',cap',d0,d1⟩:=hB.read
  have i0 : (0 : Int) ≤ (i : Int):=by omega
  have i1 : (i : Int) < (ns.length : Int):=by omega
  have hfl : (Rx.two n a c).flat.length = 1 + a.flat.length + c.flat.length:=by simp [Rx.flat]; omega
  have HL : Hid ((i + (Rx.two n a c).flat.length : Nat) = i + 1 + a.flat.length + c.flat.length):=by show _ = _; rw [hfl]; omega
  rw [HL.out]
  have hcl:=a.cod_len ss.length
  have HA:=hid (hP g ss w hB hbg hN (by omega))
  have HC : Hid ((Rx.two n a c).cod ss.length = a.cod ss.length ++ c.cod (ss.length + (a.cod ss.length).length)):=by show _ = _; simp [Rx.cod,hop]
  have hx : Hid ((i : Int) + 1 = ((i + 1 : Nat) : Int)):=by show _ = _; omega
  have HN:=hid hN
  have HQ:=hid hQ
  rw [hop] at c0
  rw [HC.out]
  clear hN hB hP hQ HC HL
  go_enter Tryz.func70,Tryz.ntmps70
  go_wp2_with fail
  rw [hx.out]
  refine Calls.mono HA.out ?_
  rintro e w1 ⟨rfl,h1,hb1⟩
  have HQ1:=hid (HQ.out g _ w1 h1 hbg (HN.out.below hb1 hbg) (by rw [List.length_append]; omega))
  rw [List.length_append,List.append_assoc] at HQ1
  have HB1:=hid hb1
  clear h1 hb1 HA HQ HN
  go_wp2_with fail
  refine Calls.mono HQ1.out ?_
  rintro e w2 ⟨rfl,h2,hb2⟩
  have H2:=hid h2
  have HB2:=hid (HB1.out.trans hb2)
  clear h2 hb2 HQ1 HB1
  go_wp2
  go_ret
  exact ⟨rfl,H2.out,HB2.out⟩
theorem bpart_tree (b off cap : Nat) : ∀ (t : Rx),t.Ok → ∀ (p q : List Nd),(∀ n ∈ t.flat,1 ≤ n.op ∧ n.op ≤ 9) → (p ++ t.flat ++ q).length ≤ 60 → BPart (p ++ t.flat ++ q) b off cap t p.length
  | .leaf n,h,p,q,ho,hl => by
    have hn : (p ++ (Rx.leaf n).flat ++ q)[p.length]? = some n:=by simp [Rx.flat]
    have h1:=ho n (by simp [Rx.flat])
    refine part_leaf _ hl b off cap p.length n hn (by simp [Rx.flat]) ?_
    have h0 : prt n.op = 0:=h
    have h2 : ¬ prt n.op = 2:=by omega
    have h3 : ¬ prt n.op = 1:=by omega
    rw [prt_two] at h2
    rw [prt_one] at h3
    omega
  | .one n a,h,p,q,ho,hl => by
    have e : p ++ (Rx.one n a).flat ++ q = (p ++ [n]) ++ a.flat ++ q:=by simp [Rx.flat]
    have ih:=bpart_tree b off cap a h.2 (p ++ [n]) q (fun m hm => ho m (by simp [Rx.flat,hm])) (by rw [← e]; exact hl)
    rw [← e,show (p ++ [n]).length = p.length + 1 from by simp] at ih
    exact part_one _ hl b off cap p.length n a (by simp [Rx.flat]) (by simp [Rx.flat]) ((prt_one n.op).1 h.1) ih
  | .two n a c,h,p,q,ho,hl => by
    have e1 : p ++ (Rx.two n a c).flat ++ q = (p ++ [n]) ++ a.flat ++ (c.flat ++ q):=by simp [Rx.flat]
    have e2 : p ++ (Rx.two n a c).flat ++ q = (p ++ [n] ++ a.flat) ++ c.flat ++ q:=by simp [Rx.flat]
    have ih1:=bpart_tree b off cap a h.2.1 (p ++ [n]) (c.flat ++ q) (fun m hm => ho m (by simp [Rx.flat,hm])) (by rw [← e1]; exact hl)
    have ih2:=bpart_tree b off cap c h.2.2 (p ++ [n] ++ a.flat) q (fun m hm => ho m (by simp [Rx.flat,hm])) (by rw [← e2]; exact hl)
    rw [← e1,show (p ++ [n]).length = p.length + 1 from by simp] at ih1
    rw [← e2,show (p ++ [n] ++ a.flat).length = p.length + 1 + a.flat.length from by simp; omega] at ih2
    have hal : a.flat.length ≤ 60:=by
      rw [e1] at hl
      simp at hl
      omega
    rcases (prt_two n.op).1 h.1 with hop | hop
    · exact part_cat _ hl b off cap p.length n a c (by simp [Rx.flat]) (by simp [Rx.flat]) hop hal ih1 ih2
    · exact part_or _ hl b off cap p.length n a c (by simp [Rx.flat]) (by simp [Rx.flat]) hop hal ih1 ih2
end Go.Proofs.YtcjghhedphmhkaaGreatDoor
