/- Own texts. -/
import Derived.Test.YtcjghhedphmhkaaGreatDoorY08
import Derived.RangeFuncNested
import Derived.RangeFuncBound
import Derived.RangeFuncCalls
import Derived.RangeFuncLeaves
import Derived.Shelf.Abstract
import Derived.Shelf.RegionOpen
import Derived.OwnWalkIn
import Derived.TacticsInMore
import Derived.LoopNIn
import Derived.LoopIn
import Derived.RangeFuncBox
import Derived.RangeFuncWrites
import Derived.RangeFuncFrom
set_option linter.unusedSimpArgs false
set_option linter.unusedVariables false
set_option maxRecDepth 100000
set_option maxHeartbeats 8000000
namespace Go.Proofs.YtcjghhedphmhkaaGreatDoor
open Go.RowKit
inductive Sta (ss : List St) (s : List UInt8) (a : Nat) : Nat → Nat → Prop
  | nil (k : Nat) : Sta ss s a k k
  | cons (k k1 k2 : Nat) : Stp ss s k a k1 a → Sta ss s a k1 k2 → Sta ss s a k k2
theorem Sta.snoc {ss : List St} {s : List UInt8} {a k k1 k2 : Nat} (h : Sta ss s a k k1) (h2 : Stp ss s k1 a k2 a) : Sta ss s a k k2:=by
  induction h with
  | nil k => exact .cons _ _ _ h2 (.nil _)
  | cons k k1 k2 h _ ih => exact .cons _ _ _ h (ih h2)
theorem Sta.trans {ss : List St} {s : List UInt8} {a k k1 k2 : Nat} (h : Sta ss s a k k1) (h2 : Sta ss s a k1 k2) : Sta ss s a k k2:=by
  induction h with
  | nil k => exact h2
  | cons k k1 k2 h _ ih => exact .cons _ _ _ h (ih h2)
structure Vst (ss : List St) (s : List UInt8) (a : Nat) (S S' K : List Nat) : Prop where
  pre : ∃ m,S' = S ++ m
  has : ∀ k ∈ K,k ∈ S'
  sound : ∀ x ∈ S',x ∈ S ∨ ∃ k ∈ K,Sta ss s a k x
  shut : ∀ x ∈ S',x ∈ S ∨ ∀ y,Stp ss s x a y a → y ∈ S'
theorem Vst.sub {ss : List St} {s : List UInt8} {a : Nat} {S S' K : List Nat} (h : Vst ss s a S S' K) : ∀ x ∈ S,x ∈ S':=fun x hx => by
  obtain ⟨m,rfl⟩:=h.pre
  simp [hx]
theorem Vst.refl (ss : List St) (s : List UInt8) (a : Nat) (S K : List Nat) (h : ∀ k ∈ K,k ∈ S) : Vst ss s a S S K:=⟨⟨[],by simp⟩,h,fun x hx => Or.inl hx,fun x hx => Or.inl hx⟩
theorem Vst.comp {ss : List St} {s : List UInt8} {a : Nat} {S S1 S2 K L : List Nat} (h : Vst ss s a S S1 K) (g : Vst ss s a S1 S2 L) : Vst ss s a S S2 (K ++ L) where
  pre:=by
    obtain ⟨m,rfl⟩:=h.pre
    obtain ⟨m',rfl⟩:=g.pre
    exact ⟨m ++ m',by simp⟩
  has:=fun k hk => by
    rcases List.mem_append.1 hk with hk | hk
    · exact g.sub k (h.has k hk)
    · exact g.has k hk
  sound:=fun x hx => by
    rcases g.sound x hx with h1 | ⟨k,hk,h1⟩
    · rcases h.sound x h1 with h2 | ⟨k,hk,h2⟩
      · exact Or.inl h2
      · exact Or.inr ⟨k,by simp [hk],h2⟩
    · exact Or.inr ⟨k,by simp [hk],h1⟩
  shut:=fun x hx => by
    rcases g.shut x hx with h1 | h1
    · rcases h.shut x h1 with h2 | h2
      · exact Or.inl h2
      · exact Or.inr fun y hy => g.sub y (h2 y hy)
    · exact Or.inr h1
theorem Vst.enter {ss : List St} {s : List UInt8} {a k : Nat} {S S' K : List Nat} (h : Vst ss s a (S ++ [k]) S' K) (hK : ∀ y,Stp ss s k a y a ↔ y ∈ K) : Vst ss s a S S' [k] where
  pre:=by
    obtain ⟨m,rfl⟩:=h.pre
    exact ⟨k :: m,by simp⟩
  has:=fun x hx => by
    rw [List.mem_singleton.1 hx]
    exact h.sub k (by simp)
  sound:=fun x hx => by
    rcases h.sound x hx with h1 | ⟨y,hy,h1⟩
    · rcases List.mem_append.1 h1 with h2 | h2
      · exact Or.inl h2
      · rw [List.mem_singleton.1 h2]
        exact Or.inr ⟨k,by simp,.nil _⟩
    · exact Or.inr ⟨k,by simp,.cons _ _ _ ((hK y).2 hy) h1⟩
  shut:=fun x hx => by
    rcases h.shut x hx with h1 | h1
    · rcases List.mem_append.1 h1 with h2 | h2
      · exact Or.inl h2
      · rw [List.mem_singleton.1 h2]
        exact Or.inr fun y hy => h.has y ((hK y).1 hy)
    · exact Or.inr h1
def Clo (ss : List St) (s : List UInt8) (a : Nat) (b F : List Nat) : Prop:=∀ k,k ∈ F ↔ ∃ k0 ∈ b,Sta ss s a k0 k
theorem Vst.clo {ss : List St} {s : List UInt8} {a : Nat} {b F : List Nat} (h : Vst ss s a [] F b) : Clo ss s a b F:=by
  intro k
  constructor
  · intro hk
    rcases h.sound k hk with h1 | h1
    · cases h1
    · exact h1
  · rintro ⟨k0,hk0,h1⟩
    have h2:=h.has k0 hk0
    clear hk0
    induction h1 with
    | nil k => exact h2
    | cons k k1 k2 hs _ ih =>
      refine ih ?_
      rcases h.shut k h2 with h3 | h3
      · cases h3
      · exact h3 k1 hs
inductive Rc (ss : List St) (s : List UInt8) (i : Nat) : Nat → Nat → Prop
  | base : Rc ss s i 0 i
  | step (k a k' a' : Nat) : Rc ss s i k a → Stp ss s k a k' a' → Rc ss s i k' a'
theorem Rc.sta {ss : List St} {s : List UInt8} {i k a k' : Nat} (h : Rc ss s i k a) (h2 : Sta ss s a k k') : Rc ss s i k' a:=by
  induction h2 with
  | nil k => exact h
  | cons k k1 k2 hs _ ih => exact ih (.step _ _ _ _ h hs)
theorem Rc.le {ss : List St} {s : List UInt8} {i k a : Nat} (hi : i ≤ s.length) (h : Rc ss s i k a) : i ≤ a ∧ a ≤ s.length:=by
  induction h with
  | base => exact ⟨Nat.le_refl _,hi⟩
  | step k a k' a' _ hs ih =>
    refine ⟨?_,stp_le ih.2 hs⟩
    obtain ⟨n,_,⟨_,_,h,_⟩ | ⟨_,_,h⟩ | ⟨_,_,h,_⟩ | ⟨_,_,h,_⟩⟩:=hs <;> omega
theorem stp_place {ss : List St} {s : List UInt8} {k a k' a' : Nat} (hs : Stp ss s k a k' a') : a' = a ∨ a' = a + 1:=by
  obtain ⟨n,_,⟨_,_,h,_⟩ | ⟨_,_,h⟩ | ⟨_,_,h,_⟩ | ⟨_,_,h,_⟩⟩:=hs <;> omega
theorem Rc.last {ss : List St} {s : List UInt8} {i k a : Nat} (h : Rc ss s i k a) : (a = i ∧ Sta ss s a 0 k) ∨ ∃ a0 k0 k1,a = a0 + 1 ∧ Rc ss s i k0 a0 ∧ Stp ss s k0 a0 k1 (a0 + 1) ∧ Sta ss s a k1 k:=by
  induction h with
  | base => exact Or.inl ⟨rfl,.nil _⟩
  | step k a k' a' hr hs ih =>
    rcases stp_place hs with rfl | rfl
    · rcases ih with ⟨h1,h2⟩ | ⟨a0,k0,k1,h1,h2,h3,h4⟩
      · exact Or.inl ⟨h1,h2.snoc hs⟩
      · exact Or.inr ⟨a0,k0,k1,h1,h2,h3,h4.snoc hs⟩
    · exact Or.inr ⟨a,k,k',rfl,hr,hs,.nil _⟩
def Bgn (ss : List St) (s : List UInt8) (i a : Nat) (b : List Nat) : Prop:=∀ k,Rc ss s i k a ↔ ∃ k0 ∈ b,Sta ss s a k0 k
def Tkn (ss : List St) (s : List UInt8) (a : Nat) (F b' : List Nat) : Prop:=∀ k',k' ∈ b' ↔ ∃ k ∈ F,Stp ss s k a k' (a + 1)
theorem bgn_init (ss : List St) (s : List UInt8) (i : Nat) (hi : i ≤ s.length) : Bgn ss s i i [0]:=by
  intro k
  constructor
  · intro h
    rcases h.last with ⟨_,h1⟩ | ⟨a0,k0,k1,h1,h2,_,_⟩
    · exact ⟨0,by simp,h1⟩
    · have:=(h2.le hi).1
      omega
  · rintro ⟨k0,hk,h⟩
    rw [List.mem_singleton.1 hk] at h
    exact Rc.base.sta h
theorem Bgn.clo {ss : List St} {s : List UInt8} {i a : Nat} {b F : List Nat} (h : Bgn ss s i a b) (hF : Clo ss s a b F) (k : Nat) : k ∈ F ↔ Rc ss s i k a:=(hF k).trans (h k).symm
theorem Bgn.next {ss : List St} {s : List UInt8} {i a : Nat} {b F b' : List Nat} (hia : i ≤ a) (h : Bgn ss s i a b) (hF : Clo ss s a b F) (hT : Tkn ss s a F b') : Bgn ss s i (a + 1) b':=by
  intro k
  constructor
  · intro hr
    rcases hr.last with ⟨h1,_⟩ | ⟨a0,k0,k1,h1,h2,h3,h4⟩
    · omega
    · obtain rfl : a0 = a:=by omega
      exact ⟨k1,(hT k1).2 ⟨k0,(h.clo hF k0).2 h2,h3⟩,h4⟩
  · rintro ⟨k1,hk1,h4⟩
    obtain ⟨k0,hk0,h3⟩:=(hT k1).1 hk1
    exact (Rc.step _ _ _ _ ((h.clo hF k0).1 hk0) h3).sta h4
def Dne (ss : List St) (k : Nat) : Prop:=∃ n,ss[k]? = some n ∧ n.op = 5
theorem rc_rch {ss : List St} {s : List UInt8} {i k a : Nat} (hi : i ≤ s.length) (h : Rc ss s i k a) : Rch ss s i (k * (s.length + 1) + a):=by
  induction h with
  | base => simpa using Rch.base
  | step k a k' a' hr hs ih =>
    have ha:=(hr.le hi).2
    exact .step _ _ ih ((nx_stp ss s ha).2 ⟨k',a',hs,stp_le ha hs,rfl⟩)
theorem pth_rc {ss : List St} {s : List UInt8} {i m k a k' a' : Nat} (h : Pth ss s m k a k' a') : Rc ss s i k a → Rc ss s i k' a':=by
  induction h with
  | nil k a => exact id
  | cons m k a k1 a1 k' a' hs _ ih => exact fun hr => ih (.step _ _ _ _ hr hs)
theorem run_mem {ss : List St} {s : List UInt8} {i : Nat} (hi : i ≤ s.length) {l : List Nat} (hl : RunR ss s i l) (j : Nat) : j ∈ l ↔ ∃ k,Rc ss s i k j ∧ Dne ss k:=by
  rw [hl.2 j]
  constructor
  · rintro ⟨q,hq,hd,rfl⟩
    obtain ⟨n,k,a,ha,rfl,hp⟩:=rch_pth ss s hi hq
    have hsd:=spot_div (N:=s.length + 1) (k:=k) (a:=a) (by omega)
    rw [hsd.2]
    refine ⟨k,pth_rc hp .base,?_⟩
    unfold dn at hd
    rw [hsd.1] at hd
    cases hn : ss[k]? with
    | none => rw [hn] at hd; cases hd
    | some n => rw [hn] at hd; exact ⟨n,hn,of_decide_eq_true hd⟩
  · rintro ⟨k,hr,n,hn,h5⟩
    have ha:=(hr.le hi).2
    have hsd:=spot_div (N:=s.length + 1) (k:=k) (a:=j) (by omega)
    refine ⟨_,rc_rch hi hr,?_,hsd.2⟩
    unfold dn
    rw [hsd.1,hn]
    exact decide_eq_true h5
def ahead (l : List Nat) (a : Nat) : List Nat:=l.filter fun j => decide (j < a)
theorem ahead_yes {l : List Nat} (hl : l.Pairwise (· < ·)) (a : Nat) (ha : a ∈ l) : ahead l (a + 1) = ahead l a ++ [a]:=by
  induction l with
  | nil => cases ha
  | cons x r ih =>
    rw [List.pairwise_cons] at hl
    rcases List.mem_cons.1 ha with rfl | ha
    · have h1 : ahead r (a + 1) = []:=List.filter_eq_nil_iff.2 fun j hj => by
        have:=hl.1 j hj
        simp
        omega
      have h2 : ahead r a = []:=List.filter_eq_nil_iff.2 fun j hj => by
        have:=hl.1 j hj
        simp
        omega
      unfold ahead at h1 h2 ⊢
      simp [h1,h2]
    · have hx:=hl.1 a ha
      have:=ih hl.2 ha
      unfold ahead at this ⊢
      simp [this,show x < a + 1 by omega,hx]
theorem ahead_no {l : List Nat} (a : Nat) (ha : ¬ a ∈ l) : ahead l (a + 1) = ahead l a:=by
  unfold ahead
  refine List.filter_congr fun j hj => ?_
  have : j ≠ a:=fun e => ha (e ▸ hj)
  rw [decide_eq_decide]
  omega
theorem ahead_all {l : List Nat} (a : Nat) (h : ∀ j ∈ l,j < a) : ahead l a = l:=List.filter_eq_self.2 fun j hj => decide_eq_true (h j hj)
theorem ahead_none {l : List Nat} (a : Nat) (h : ∀ j ∈ l,a ≤ j) : ahead l a = []:=List.filter_eq_nil_iff.2 fun j hj => by
  have:=h j hj
  simp
  omega
theorem Bgn.none {ss : List St} {s : List UInt8} {i a : Nat} (h : Bgn ss s i a []) (hia : i ≤ a) : ∀ k a',Rc ss s i k a' → a' < a:=by
  have key : ∀ d k,¬ Rc ss s i k (a + d):=by
    intro d
    induction d with
    | zero =>
      intro k hr
      obtain ⟨k0,hk0,_⟩:=(h k).1 hr
      cases hk0
    | succ d ih =>
      intro k hr
      rcases hr.last with ⟨h1,_⟩ | ⟨a0,k0,k1,h1,h2,_,_⟩
      · omega
      · obtain rfl : a0 = a + d:=by omega
        exact ih k0 h2
  intro k a' hr
  rcases Nat.lt_or_ge a' a with h1 | h1
  · exact h1
  · obtain ⟨d,rfl⟩ : ∃ d,a' = a + d:=⟨a' - a,by omega⟩
    exact absurd hr (key d k)
theorem nodup_le (N : Nat) : ∀ (l : List Nat),l.Nodup → (∀ x ∈ l,x < N) → l.length ≤ N:=by
  induction N with
  | zero =>
    intro l _ h
    cases l with
    | nil => simp
    | cons x r => exact absurd (h x (by simp)) (by omega)
  | succ N ih =>
    intro l hn h
    have h1:=ih (l.erase N) (hn.erase N) fun x hx => by
      have h2:=h x (List.mem_of_mem_erase hx)
      have h3 : x ≠ N:=fun e => by
        subst e
        exact hn.not_mem_erase hx
      omega
    by_cases hN : N ∈ l
    · rw [List.length_erase_of_mem hN] at h1
      omega
    · rw [List.erase_of_not_mem hN] at h1
      omega
theorem stp_stay {ss : List St} {s : List UInt8} {a k y : Nat} {n : St} (hn : ss[k]? = some n) : Stp ss s k a y a ↔ (n.op = 2 ∧ (y = n.x.toNat ∨ y = n.y.toNat)) ∨ (n.op = 3 ∧ y = n.x.toNat ∧ a = 0) ∨ (n.op = 4 ∧ y = n.x.toNat ∧ a = s.length):=by
  constructor
  · rintro ⟨n',hn',h⟩
    rw [hn] at hn'
    obtain rfl:=Option.some.inj hn'
    rcases h with ⟨_,_,h,_⟩ | ⟨h1,h2,_⟩ | ⟨h1,h2,_,h3⟩ | ⟨h1,h2,_,h3⟩
    · omega
    · exact Or.inl ⟨h1,h2⟩
    · exact Or.inr (Or.inl ⟨h1,h2,h3⟩)
    · exact Or.inr (Or.inr ⟨h1,h2,h3⟩)
  · rintro (⟨h1,h2⟩ | ⟨h1,h2,h3⟩ | ⟨h1,h2,h3⟩)
    · exact ⟨n,hn,Or.inr (Or.inl ⟨h1,h2,rfl⟩)⟩
    · exact ⟨n,hn,Or.inr (Or.inr (Or.inl ⟨h1,h2,rfl,h3⟩))⟩
    · exact ⟨n,hn,Or.inr (Or.inr (Or.inr ⟨h1,h2,rfl,h3⟩))⟩
def tx : Bool → Bool → List UInt8
  | true,true => []
  | true,false => [0]
  | false,true => [0]
  | false,false => [0,0]
def pc : Bool → Nat
  | true => 0
  | false => 1
theorem tx_first (fi : Bool) : pc fi = 0 ↔ fi = true:=by cases fi <;> simp [pc]
theorem tx_last (fi la : Bool) : pc fi = (tx fi la).length ↔ la = true:=by cases fi <;> cases la <;> simp [pc,tx]
theorem sta_same {ss : List St} {s s' : List UInt8} {a a' : Nat} (h0 : a = 0 ↔ a' = 0) (h1 : a = s.length ↔ a' = s'.length) {k k' : Nat} (h : Sta ss s a k k') : Sta ss s' a' k k':=by
  induction h with
  | nil k => exact .nil _
  | cons k k1 k2 hs _ ih =>
    refine .cons _ k1 _ ?_ ih
    obtain ⟨n,hn,_⟩:=id hs
    rw [stp_stay hn] at hs ⊢
    rw [← h0,← h1]
    exact hs
theorem fun_ext {p q : Nat → Bool} (h : ∀ j,p j = true ↔ q j = true) : p = q:=by
  funext j
  have:=h j
  cases hp : p j <;> cases hq : q j <;> simp_all
noncomputable def cloF (ss : List St) (fi la : Bool) (b : Nat → Bool) : Nat → Bool:=fun k => @decide (∃ k0,b k0 = true ∧ Sta ss (tx fi la) (pc fi) k0 k) (Classical.propDecidable _)
theorem cloF_iff {ss : List St} {fi la : Bool} {b : Nat → Bool} {k : Nat} : cloF ss fi la b k = true ↔ ∃ k0,b k0 = true ∧ Sta ss (tx fi la) (pc fi) k0 k:=@decide_eq_true_iff _ (Classical.propDecidable _)
def Tks (ss : List St) (c k k' : Nat) : Prop:=∃ n,ss[k]? = some n ∧ n.op = 1 ∧ n.c.has c = true ∧ k' = n.x.toNat
noncomputable def takF (ss : List St) (c : Nat) (p : Nat → Bool) : Nat → Bool:=fun k' => @decide (∃ k,p k = true ∧ Tks ss c k k') (Classical.propDecidable _)
theorem takF_iff {ss : List St} {c : Nat} {p : Nat → Bool} {k' : Nat} : takF ss c p k' = true ↔ ∃ k,p k = true ∧ Tks ss c k k':=@decide_eq_true_iff _ (Classical.propDecidable _)
noncomputable def takL (ss : List St) (c : Nat) (l : List Nat) : Nat → Bool:=fun k' => @decide (∃ k ∈ l,Tks ss c k k') (Classical.propDecidable _)
theorem takL_iff {ss : List St} {c : Nat} {l : List Nat} {k' : Nat} : takL ss c l k' = true ↔ ∃ k ∈ l,Tks ss c k k':=@decide_eq_true_iff _ (Classical.propDecidable _)
noncomputable def donF (ss : List St) (p : Nat → Bool) : Bool:=@decide (∃ k,p k = true ∧ Dne ss k) (Classical.propDecidable _)
theorem donF_iff {ss : List St} {p : Nat → Bool} : donF ss p = true ↔ ∃ k,p k = true ∧ Dne ss k:=@decide_eq_true_iff _ (Classical.propDecidable _)
noncomputable def begS (ss : List St) (fi la : Bool) : Nat → Bool:=cloF ss fi la (withP noP 0)
noncomputable def nxtS (ss : List St) (p : Nat → Bool) (c : Nat) (fi la : Bool) : Nat → Bool:=cloF ss fi la (takF ss c p)
def Sub (ss : List St) (p : Nat → Bool) : Prop:=∀ k,p k = true → k < ss.length
def Leads (ss : List St) : Prop:=∀ (k : Nat) (n : St),ss[k]? = some n → (n.op = 1 ∨ n.op = 2 ∨ n.op = 3 ∨ n.op = 4 → n.x.toNat < ss.length) ∧ (n.op = 2 → n.y.toNat < ss.length)
theorem sta_lt {ss : List St} (hL : Leads ss) {s : List UInt8} {a k k' : Nat} (h : Sta ss s a k k') (hk : k < ss.length) : k' < ss.length:=by
  induction h with
  | nil k => exact hk
  | cons k k1 k2 hs _ ih =>
    refine ih ?_
    obtain ⟨n,hn,_⟩:=id hs
    rw [stp_stay hn] at hs
    have:=hL k n hn
    rcases hs with ⟨h1,h2 | h2⟩ | ⟨h1,h2,_⟩ | ⟨h1,h2,_⟩
    · rw [h2]; exact this.1 (by omega)
    · rw [h2]; exact this.2 h1
    · rw [h2]; exact this.1 (by omega)
    · rw [h2]; exact this.1 (by omega)
theorem clo_sub {ss : List St} (hL : Leads ss) {fi la : Bool} {b : Nat → Bool} (hb : Sub ss b) : Sub ss (cloF ss fi la b):=fun k hk => by
  obtain ⟨k0,h0,h1⟩:=cloF_iff.1 hk
  exact sta_lt hL h1 (hb k0 h0)
theorem tak_sub {ss : List St} (hL : Leads ss) {c : Nat} {p : Nat → Bool} : Sub ss (takF ss c p):=fun k hk => by
  obtain ⟨k0,_,n,hn,h1,_,rfl⟩:=takF_iff.1 hk
  exact (hL k0 n hn).1 (Or.inl h1)
theorem takL_sub {ss : List St} (hL : Leads ss) {c : Nat} {l : List Nat} : Sub ss (takL ss c l):=fun k hk => by
  obtain ⟨k0,_,n,hn,h1,_,rfl⟩:=takL_iff.1 hk
  exact (hL k0 n hn).1 (Or.inl h1)
theorem zero_sub {ss : List St} (h : 0 < ss.length) : Sub ss (withP noP 0):=fun k hk => by
  simp [withP,noP] at hk
  omega
theorem beg_sub {ss : List St} (hL : Leads ss) (h : 0 < ss.length) (fi la : Bool) : Sub ss (begS ss fi la):=clo_sub hL (zero_sub h)
theorem nxt_sub {ss : List St} (hL : Leads ss) (p : Nat → Bool) (c : Nat) (fi la : Bool) : Sub ss (nxtS ss p c fi la):=clo_sub hL (tak_sub hL)
theorem el_in {ss : List St} (hl : ss.length ≤ 200) {p : Nat → Bool} (hp : Sub ss p) (k : Nat) : k ∈ el p 256 ↔ p k = true:=by
  rw [el_mem]
  constructor
  · exact fun h => h.2
  · exact fun h => ⟨by have:=hp k h; omega,h⟩
theorem clo_list {ss : List St} (hl : ss.length ≤ 200) {fi la : Bool} {b : Nat → Bool} (hb : Sub ss b) {S : List Nat} (h : Vst ss (tx fi la) (pc fi) [] S (el b 256)) : (fun j => decide (j ∈ S)) = cloF ss fi la b:=fun_ext fun j => by
  rw [decide_eq_true_iff,cloF_iff,h.clo j]
  constructor
  · rintro ⟨k0,h1,h2⟩
    exact ⟨k0,(el_in hl hb k0).1 h1,h2⟩
  · rintro ⟨k0,h1,h2⟩
    exact ⟨k0,(el_in hl hb k0).2 h1,h2⟩
theorem tak_list {ss : List St} (hl : ss.length ≤ 200) {c : Nat} {p : Nat → Bool} (hp : Sub ss p) : takL ss c (el p 256) = takF ss c p:=fun_ext fun j => by
  rw [takL_iff,takF_iff]
  constructor
  · rintro ⟨k0,h1,h2⟩
    exact ⟨k0,(el_in hl hp k0).1 h1,h2⟩
  · rintro ⟨k0,h1,h2⟩
    exact ⟨k0,(el_in hl hp k0).2 h1,h2⟩
theorem takL_nil (ss : List St) (c : Nat) : takL ss c [] = noP:=fun_ext fun j => by
  rw [takL_iff]
  simp [noP]
theorem takL_yes {ss : List St} {c x : Nat} {l : List Nat} {n : St} (hn : ss[x]? = some n) (h1 : n.op = 1) (hc : n.c.has c = true) : takL ss c (l ++ [x]) = withP (takL ss c l) n.x.toNat:=fun_ext fun j => by
  unfold withP
  rw [Bool.or_eq_true,takL_iff,takL_iff,decide_eq_true_iff]
  constructor
  · rintro ⟨k,hk,ht⟩
    rcases List.mem_append.1 hk with hk | hk
    · exact Or.inl ⟨k,hk,ht⟩
    · rw [List.mem_singleton.1 hk] at ht
      obtain ⟨m,hm,_,_,e⟩:=ht
      rw [hn] at hm
      obtain rfl:=Option.some.inj hm
      exact Or.inr e
  · rintro (⟨k,hk,ht⟩ | e)
    · exact ⟨k,List.mem_append.2 (Or.inl hk),ht⟩
    · exact ⟨x,by simp,n,hn,h1,hc,e⟩
theorem takL_no {ss : List St} {c x : Nat} {l : List Nat} {n : St} (hn : ss[x]? = some n) (h : ¬ (n.op = 1 ∧ n.c.has c = true)) : takL ss c (l ++ [x]) = takL ss c l:=fun_ext fun j => by
  rw [takL_iff,takL_iff]
  constructor
  · rintro ⟨k,hk,ht⟩
    rcases List.mem_append.1 hk with hk | hk
    · exact ⟨k,hk,ht⟩
    · rw [List.mem_singleton.1 hk] at ht
      obtain ⟨m,hm,h1,h2,e⟩:=ht
      rw [hn] at hm
      obtain rfl:=Option.some.inj hm
      exact absurd ⟨h1,h2⟩ h
  · rintro ⟨k,hk,ht⟩
    exact ⟨k,List.mem_append.2 (Or.inl hk),ht⟩
noncomputable def curS (ss : List St) (s : List UInt8) (i a : Nat) : Nat → Bool:=fun k => @decide (Rc ss s i k a) (Classical.propDecidable _)
theorem curS_iff {ss : List St} {s : List UInt8} {i a k : Nat} : curS ss s i a k = true ↔ Rc ss s i k a:=@decide_eq_true_iff _ (Classical.propDecidable _)
theorem cur_beg (ss : List St) (s : List UInt8) (i : Nat) (hi : i ≤ s.length) : curS ss s i i = begS ss (decide (i = 0)) (decide (i = s.length)):=fun_ext fun k => by
  unfold begS
  rw [curS_iff,cloF_iff,bgn_init ss s i hi k]
  have e0 : i = 0 ↔ pc (decide (i = 0)) = 0:=by rw [tx_first,decide_eq_true_iff]
  have e1 : i = s.length ↔ pc (decide (i = 0)) = (tx (decide (i = 0)) (decide (i = s.length))).length:=by rw [tx_last,decide_eq_true_iff]
  constructor
  · rintro ⟨k0,hk,h⟩
    rw [List.mem_singleton.1 hk] at h
    exact ⟨0,by simp [withP],sta_same e0 e1 h⟩
  · rintro ⟨k0,hk,h⟩
    have : k0 = 0:=by simpa [withP,noP] using hk
    subst this
    exact ⟨0,by simp,sta_same e0.symm e1.symm h⟩
theorem cur_next (ss : List St) (s : List UInt8) (i a : Nat) (hia : i ≤ a) (c : UInt8) (hc : s[a]? = some c) : curS ss s i (a + 1) = nxtS ss (curS ss s i a) c.toNat false (decide (a + 1 = s.length)):=fun_ext fun k => by
  unfold nxtS
  rw [curS_iff,cloF_iff]
  have e0 : a + 1 = 0 ↔ pc false = 0:=by simp [pc]
  have e1 : a + 1 = s.length ↔ pc false = (tx false (decide (a + 1 = s.length))).length:=by rw [tx_last,decide_eq_true_iff]
  constructor
  · intro hr
    rcases hr.last with ⟨h1,_⟩ | ⟨a0,k0,k1,h1,h2,h3,h4⟩
    · omega
    · obtain rfl : a0 = a:=by omega
      refine ⟨k1,takF_iff.2 ⟨k0,curS_iff.2 h2,?_⟩,sta_same e0 e1 h4⟩
      obtain ⟨n,hn,⟨q1,q2,_,c',q3,q4⟩ | ⟨_,_,h⟩ | ⟨_,_,h,_⟩ | ⟨_,_,h,_⟩⟩:=h3
      · rw [hc] at q3
        obtain rfl:=Option.some.inj q3
        exact ⟨n,hn,q1,q4,q2⟩
      · omega
      · omega
      · omega
  · rintro ⟨k1,hk1,h4⟩
    obtain ⟨k0,hk0,n,hn,q1,q2,q3⟩:=takF_iff.1 hk1
    exact (Rc.step _ _ _ _ (curS_iff.1 hk0) ⟨n,hn,Or.inl ⟨q1,q3,rfl,c,hc,q2⟩⟩).sta (sta_same e0.symm e1.symm h4)
theorem cur_done {ss : List St} {s : List UInt8} {i : Nat} (hi : i ≤ s.length) {l : List Nat} (hl : RunR ss s i l) (a : Nat) : donF ss (curS ss s i a) = true ↔ a ∈ l:=by
  rw [donF_iff,run_mem hi hl a]
  constructor
  · rintro ⟨k,h1,h2⟩
    exact ⟨k,curS_iff.1 h1,h2⟩
  · rintro ⟨k,h1,h2⟩
    exact ⟨k,curS_iff.2 h1,h2⟩
theorem cur_none {ss : List St} {s : List UInt8} {i a : Nat} (hia : i ≤ a) (h : curS ss s i a = noP) : ∀ k a',Rc ss s i k a' → a' < a:=by
  refine Bgn.none (fun k => ⟨fun hr => ?_,fun ⟨k0,hk,_⟩ => by cases hk⟩) hia
  have : curS ss s i a k = true:=curS_iff.2 hr
  rw [h] at this
  cases this
theorem cur_all {ss : List St} {s : List UInt8} {i a : Nat} (hi : i ≤ s.length) (hia : i ≤ a) {l : List Nat} (hl : RunR ss s i l) (h : curS ss s i a = noP) : ahead l a = l:=ahead_all a fun j hj => by
  obtain ⟨k,hr,_⟩:=(run_mem hi hl j).1 hj
  exact cur_none hia h k j hr
theorem cur_last {ss : List St} {s : List UInt8} {i : Nat} (hi : i ≤ s.length) {l : List Nat} (hl : RunR ss s i l) : ahead l (s.length + 1) = l:=ahead_all _ fun j hj => by
  obtain ⟨k,hr,_⟩:=(run_mem hi hl j).1 hj
  have:=(hr.le hi).2
  omega
theorem cur_begin {ss : List St} {s : List UInt8} {i : Nat} (hi : i ≤ s.length) {l : List Nat} (hl : RunR ss s i l) : ahead l i = []:=ahead_none i fun j hj => by
  obtain ⟨k,hr,_⟩:=(run_mem hi hl j).1 hj
  exact (hr.le hi).1
def stV (p : Nat → Bool) : Value:=.agg #[.int .u64 (wd p 0),.int .u64 (wd p 1),.int .u64 (wd p 2),.int .u64 (wd p 3)]
def cellsS (p : Nat → Bool) : List Value:=[.int .u64 (wd p 0),.int .u64 (wd p 1),.int .u64 (wd p 2),.int .u64 (wd p 3)]
theorem cellsS_get (p : Nat → Bool) (i : Nat) (h : i < 4) : (cellsS p)[i]? = some (.int .u64 (wd p i)):=by
  match i,h with
  | 0,_ | 1,_ | 2,_ | 3,_ => rfl
theorem cellsS_set {p q : Nat → Bool} (i : Nat) (hi : i < 4) {x : Int} (hx : okW x) (hb : ∀ j,j < 64 → x.toNat.testBit j = q (64 * i + j)) (ho : ∀ k j,k < 4 → k ≠ i → j < 64 → p (64 * k + j) = q (64 * k + j)) :
    (cellsS p).set i (.int .u64 x) = cellsS q:=by
  have e1 : x = wd q i:=wd_of hx hb
  have e2 : ∀ k,k < 4 → k ≠ i → wd p k = wd q k:=fun k hk hne => wd_congr (fun j hj => ho k j hk hne hj)
  subst e1
  apply List.ext_getElem?
  intro k
  rw [List.getElem?_set]
  have hl : (cellsS p).length = 4:=rfl
  have hl2 : (cellsS q).length = 4:=rfl
  by_cases hk : k < 4
  · by_cases hki : i = k
    · subst hki
      rw [if_pos rfl,if_pos (by omega),cellsS_get q i hk]
    · rw [if_neg hki,cellsS_get p k hk,cellsS_get q k hk,e2 k hk (fun e => hki e.symm)]
  · rw [if_neg (by omega),List.getElem?_eq_none (by omega),List.getElem?_eq_none (by omega)]
theorem withS_set (p : Nat → Bool) (a : Nat) (ha : a < 256) : (cellsS p).set (a / 64) (.int .u64 (bits .or .u64 (wd p (a / 64)) (IntKind.u64.wrap (2 ^ (a % 64))))) = cellsS (withP p a):=by
  have h1:=or_ok (wd_ok p (a / 64)) (pow_small (a % 64) (by omega)).1
  refine cellsS_set (a / 64) (by omega) h1.1 (fun j hj => ?_) (fun k j hk hne hj => ?_)
  · rw [h1.2,wd_bit p _ j hj,(pow_small (a % 64) (by omega)).2]
    unfold withP
    congr 1
    have : (a % 64 = j) = (64 * (a / 64) + j = a):=by apply propext; omega
    simp only [this]
  · unfold withP
    have : ¬ 64 * k + j = a:=by omega
    simp [this]
def Hq (w : World) (b : Nat) (p : Nat → Bool) : Prop:=w.heap[b]? = some (.cells #[.int .u64 (wd p 0),.int .u64 (wd p 1),.int .u64 (wd p 2),.int .u64 (wd p 3)] 207 (0,0))
theorem Hq.cell {w : World} {b : Nat} {p : Nat → Bool} (h : Hq w b p) (i : Nat) (hi : i < 4) : w.cell? ⟨b,i,none⟩ = some (.int .u64 (wd p i)):=by
  rw [Lib.cell_of_heap h]
  have:=cellsS_get p i hi
  simpa [cellsS] using this
theorem Hq.frozen {w : World} {b : Nat} {p : Nat → Bool} (h : Hq w b p) (i : Nat) : w.frozen? ⟨b,i,none⟩ = false:=Lib.frozen_of_heap h i
theorem Hq.all {w : World} {b : Nat} {p : Nat → Bool} (h : Hq w b p) : w.cell? ⟨b,0,none⟩ = some (.int .u64 (wd p 0)) ∧ w.cell? ⟨b,1,none⟩ = some (.int .u64 (wd p 1)) ∧ w.cell? ⟨b,2,none⟩ = some (.int .u64 (wd p 2)) ∧ w.cell? ⟨b,3,none⟩ = some (.int .u64 (wd p 3)) :=
  ⟨h.cell 0 (by decide),h.cell 1 (by decide),h.cell 2 (by decide),h.cell 3 (by decide)⟩
theorem Hq.frz {w : World} {b : Nat} {p : Nat → Bool} (h : Hq w b p) : w.frozen? ⟨b,0,none⟩ = false ∧ w.frozen? ⟨b,1,none⟩ = false ∧ w.frozen? ⟨b,2,none⟩ = false ∧ w.frozen? ⟨b,3,none⟩ = false :=
  ⟨h.frozen 0,h.frozen 1,h.frozen 2,h.frozen 3⟩
theorem Hq.lt {w : World} {b : Nat} {p : Nat → Bool} (h : Hq w b p) : b < w.heap.size:=by
  rcases Nat.lt_or_ge b w.heap.size with h' | h'
  · exact h'
  · simp [Hq,Array.getElem?_eq_none h'] at h
theorem Hq.drew {w : World} {b : Nat} {p : Nat → Bool} (h : Hq w b p) : Hq w.drew b p:=h
theorem Hq.below {w w' : World} {B b : Nat} {p : Nat → Bool} (h : Hq w b p) (hb : Below B w w') (hlt : b < B) : Hq w' b p:=(hb.block b hlt).trans h
theorem Hq.grown {w w' : World} {b : Nat} {p : Nat → Bool} {row : Option Nat} (h : Hq w b p) (hg : w.grownBy w' row) (hne : some b ≠ row) : Hq w' b p:=(hg.block b h.lt hne).trans h
theorem Hq.alloc {w : World} {b : Nat} {p : Nat → Bool} (h : Hq w b p) (o : Obj) : Hq (w.alloc o) b p:=(Below.heap_alloc w o b h.lt).trans h
theorem Hq.new (w : World) (p : Nat → Bool) (b : Nat) (hb : b = w.heap.size) : Hq (w.alloc (.cells #[.int .u64 (wd p 0),.int .u64 (wd p 1),.int .u64 (wd p 2),.int .u64 (wd p 3)] 207)) b p:=by subst hb; exact heap_alloc_new w _
theorem Hq.zero (w : World) (b : Nat) (hb : b = w.heap.size) : Hq (w.alloc (.cells #[.int .u64 0,.int .u64 0,.int .u64 0,.int .u64 0] 207)) b noP:=by
  subst hb
  unfold Hq
  rw [wd_no,wd_no,wd_no,wd_no]
  exact heap_alloc_new w _
theorem stV_no : stV noP = .agg #[.int .u64 0,.int .u64 0,.int .u64 0,.int .u64 0]:=by
  unfold stV
  rw [wd_no,wd_no,wd_no,wd_no]
theorem Hq.other {w : World} {b : Nat} {p : Nat → Bool} (h : Hq w b p) (a : Addr) (v : Value) (hp : b ≠ a.block) : Hq (w.setCell a v) b p:=(Below.heap_setCell w a v b hp).trans h
theorem Hq.store {w : World} {b : Nat} {p q : Nat → Bool} (h : Hq w b p) (i : Nat) (hi : i < 4) (z : Int) (hs : (cellsS p).set i (.int .u64 z) = cellsS q) : Hq (w.setCell ⟨b,i,none⟩ (.int .u64 z)) b q:=by
  unfold cellsS at hs
  unfold Hq at h ⊢
  simp [World.setCell,Array.getElem?_modify,h,hs]
abbrev putS (w : World) (b : Nat) (q : Nat → Bool) : World:=(((w.setCell ⟨b,0,none⟩ (.int .u64 (wd q 0))).setCell ⟨b,1,none⟩ (.int .u64 (wd q 1))).setCell ⟨b,2,none⟩ (.int .u64 (wd q 2))).setCell ⟨b,3,none⟩ (.int .u64 (wd q 3))
theorem Hq.putS {w : World} {b : Nat} {p : Nat → Bool} (h : Hq w b p) (q : Nat → Bool) : Hq (putS w b q) b q:=by
  unfold Hq at h ⊢
  simp [World.setCell,Array.getElem?_modify,h]
theorem below_putS {w0 w : World} {B b : Nat} (h : Below B w0 w) (hb : B ≤ b) (q : Nat → Bool) : Below B w0 (putS w b q) :=
  (((h.setCell hb _).setCell hb _).setCell hb _).setCell hb _
theorem grown_setS (w : World) (b i : Nat) (v : Value) : w.grownBy (w.setCell ⟨b,i,none⟩ v) (some b) :=
  ⟨rfl,rfl,rfl,by simp [World.setCell],fun k _ hk => Below.heap_setCell _ _ _ _ (fun e => hk (by rw [e]))⟩
theorem grown_putS (w : World) (b : Nat) (q : Nat → Bool) : w.grownBy (putS w b q) (some b) :=
  (((grown_setS w b 0 _).trans (grown_setS _ b 1 _)).trans (grown_setS _ b 2 _)).trans (grown_setS _ b 3 _)
theorem gr_below {w w' : World} (h : Below w.heap.size w w') (row : Option Nat) : w.grownBy w' row:=⟨h.1,h.2,h.3,h.size,fun i hi _ => h.block i hi⟩
theorem sd64 (a : Nat) : (a : Int).tdiv 64 = ((a / 64 : Nat) : Int):=by
  rw [Int.tdiv_eq_ediv_of_nonneg (by omega)]; omega
theorem sm64 (a : Nat) : (a : Int).tmod 64 = ((a % 64 : Nat) : Int):=by
  rw [Int.tmod_eq_emod_of_nonneg (by omega)]; omega
theorem shas_any (p : Nat → Bool) (a : Nat) (ha : a < 256) (w : World) :
    Calls Tryz.prog 152 #[stV p,.int .i64 (a : Int)] w fun e w' => e = .returned (.bool (p a)) ∧ Below w.heap.size w w':=by
  have hw:=(Hq.new w p _ rfl).cell (a / 64) (by omega)
  have h1:=sd64 a
  have h2:=sm64 a
  have hx:=has_word p a
  unfold stV
  go_enter Tryz.func152,Tryz.ntmps152
  go_wp2
  go_ret
  exact ⟨rfl,(Below.refl _ _).alloc (Nat.le_refl _) _⟩
theorem swith_any (p : Nat → Bool) (a : Nat) (ha : a < 256) (w : World) :
    Calls Tryz.prog 139 #[stV p,.int .i64 (a : Int)] w fun e w' => e = .returned (stV (withP p a)) ∧ Below w.heap.size w w':=by
  have h1:=sd64 a
  have h2:=sm64 a
  have i0 : (0 : Int) ≤ (a : Int) / 64:=by omega
  have i1 : (a : Int) / 64 < 4:=by omega
  have i2 : ((a : Int) / 64).toNat = a / 64:=by omega
  have i3 : ((a : Int) % 64).toNat = a % 64:=by omega
  have i4 : (0 : Int) ≤ (a : Int) % 64:=by omega
  obtain ⟨w0,hw0⟩ : ∃ w0,w0 = (w.alloc (.cells #[.int .u64 (wd p 0),.int .u64 (wd p 1),.int .u64 (wd p 2),.int .u64 (wd p 3)] 207)).alloc (.cells #[.int .u64 0,.int .u64 0,.int .u64 0,.int .u64 0] 207):=⟨_,rfl⟩
  have hP : Hq w0 w.heap.size p:=by rw [hw0]; exact (Hq.new w p _ rfl).alloc _
  have hZ : Hq w0 (w.heap.size + 1) noP:=by rw [hw0]; exact Hq.zero _ _ (by simp)
  have hB : Below w.heap.size w w0:=by rw [hw0]; exact ((Below.refl _ w).alloc (Nat.le_refl _) _).alloc (by simp) _
  have hc:=hP.cell (a / 64) (by omega)
  have hf:=hP.frozen (a / 64)
  unfold stV
  go_enter Tryz.func139,Tryz.ntmps139
  go_wp2_with fail
  rw [← hw0]
  clear hw0
  go_region
  have hP1 : Hq (w0.setCell ⟨w.heap.size,a / 64,none⟩ (.int .u64 (bits .or .u64 (wd p (a / 64)) (IntKind.u64.wrap (2 ^ (a % 64)))))).drew w.heap.size (withP p a):=(hP.store (a / 64) (by omega) _ (withS_set p a ha)).drew
  have hZ1 : Hq (w0.setCell ⟨w.heap.size,a / 64,none⟩ (.int .u64 (bits .or .u64 (wd p (a / 64)) (IntKind.u64.wrap (2 ^ (a % 64)))))).drew (w.heap.size + 1) noP:=(hZ.other _ _ (by simp)).drew
  have hB1 : Below w.heap.size w (w0.setCell ⟨w.heap.size,a / 64,none⟩ (.int .u64 (bits .or .u64 (wd p (a / 64)) (IntKind.u64.wrap (2 ^ (a % 64)))))).drew:=(hB.setCell (Nat.le_refl _) _).drew
  generalize (w0.setCell ⟨w.heap.size,a / 64,none⟩ (.int .u64 (bits .or .u64 (wd p (a / 64)) (IntKind.u64.wrap (2 ^ (a % 64)))))).drew = w1 at hP1 hZ1 hB1 ⊢
  clear hP hZ hB hc hf
  obtain ⟨c0,c1,c2,c3⟩:=hP1.all
  obtain ⟨d0,d1,d2,d3⟩:=hZ1.all
  obtain ⟨f0,f1,f2,f3⟩:=hZ1.frz
  go_wp2
  have hq:=hZ1.putS (withP p a)
  obtain ⟨e0,e1,e2,e3⟩:=hq.all
  refine bodyPost_ret (v:=stV (withP p a)) (by simp [results,Tryz.results139,go_sem,stV,e0,e1,e2,e3]) rfl ⟨rfl,?_⟩
  exact below_putS hB1 (by omega) _
theorem eqSt (a0 a1 a2 a3 b0 b1 b2 b3 : Int) (w : World) : (Op.equalIn 10000 207 (.agg #[.int .u64 a0,.int .u64 a1,.int .u64 a2,.int .u64 a3]) (.agg #[.int .u64 b0,.int .u64 b1,.int .u64 b2,.int .u64 b3])).run Tryz.prog w = .ok (a0 == b0 && (a1 == b1 && (a2 == b2 && a3 == b3))) w:=by
  have hs : Tryz.prog.underlying 207 = some (.struct (Tryz.prog.fieldsOf 207)):=by kernel_rfl
  have hp : Tryz.prog.stoodInHeld 207 = false:=by kernel_rfl
  rw [show (10000 : Nat) = 9999 + 1 from rfl,run_equalIn_struct w 9999 _ _ _ hs hp]
  have hf : (Tryz.prog.fieldsOf 207).toList.map (fun f => (f.type, f.offset, f.name == "_")) = [(103, 0, false)] := by kernel_rfl
  generalize (Tryz.prog.fieldsOf 207).toList = fs at hf
  obtain ⟨f0,rfl⟩ : ∃ f0,fs = [f0]:=List.length_eq_one_iff.1 (by have:=congrArg List.length hf; simpa using this)
  · simp only [List.map_cons,List.map_nil,List.cons.injEq,Prod.mk.injEq,and_true] at hf
    obtain ⟨t0,o0,n0⟩:=hf
    have n0' : f0.name ≠ "_" := by simpa using n0
    have hi : ∀ (a b : Int) (w : World),(Op.equalIn 9998 102 (.int .u64 a) (.int .u64 b)).run Tryz.prog w = .ok (a == b) w:=fun a b w => run_equalIn_int w 9997 102 .u64 .u64 a b Tryz.underlying102
    have p0 : ∀ (a b c d : Int) (w : World),(part 102 #[.int .u64 a,.int .u64 b,.int .u64 c,.int .u64 d] 0).run Tryz.prog w = .ok (.int .u64 a) w:=fun _ _ _ _ _ => by kernel_rfl
    have p1 : ∀ (a b c d : Int) (w : World),(part 102 #[.int .u64 a,.int .u64 b,.int .u64 c,.int .u64 d] 1).run Tryz.prog w = .ok (.int .u64 b) w:=fun _ _ _ _ _ => by kernel_rfl
    have p2 : ∀ (a b c d : Int) (w : World),(part 102 #[.int .u64 a,.int .u64 b,.int .u64 c,.int .u64 d] 2).run Tryz.prog w = .ok (.int .u64 c) w:=fun _ _ _ _ _ => by kernel_rfl
    have p3 : ∀ (a b c d : Int) (w : World),(part 102 #[.int .u64 a,.int .u64 b,.int .u64 c,.int .u64 d] 3).run Tryz.prog w = .ok (.int .u64 d) w:=fun _ _ _ _ _ => by kernel_rfl
    have q0 : ∀ (a b c d : Int) (w : World),(part 103 #[.int .u64 a,.int .u64 b,.int .u64 c,.int .u64 d] 0).run Tryz.prog w = .ok (.agg #[.int .u64 a,.int .u64 b,.int .u64 c,.int .u64 d]) w:=fun _ _ _ _ _ => by kernel_rfl
    have hc : ∀ (w : World),(Op.equalIn 9999 103 (.agg #[.int .u64 a0,.int .u64 a1,.int .u64 a2,.int .u64 a3]) (.agg #[.int .u64 b0,.int .u64 b1,.int .u64 b2,.int .u64 b3])).run Tryz.prog w = .ok (a0 == b0 && (a1 == b1 && (a2 == b2 && a3 == b3))) w:=fun w => by
      rw [show (9999 : Nat) = 9998 + 1 from rfl,Op.equalIn]
      simp only [Sem.run_bind,run_underlying Tryz.underlying103,Result.andThen_ok,Tryz.sizeOf102]
      rw [Std.Legacy.Range.forIn_eq_forIn_range']
      rw [show List.range' _ _ _ = [0,1,2,3] from rfl]
      simp only [List.forIn_cons,List.forIn_nil,Sem.run_bind,Nat.mul_one,p0,Result.andThen_ok,hi,Sem.run_ite]
      cases h1 : a0 == b0 <;> cases h2 : a1 == b1 <;> cases h3 : a2 == b2 <;> cases h4 : a3 == b3 <;> simp [p1,p2,p3,hi,h2,h3,h4]
    simp only [Op.eqFields,t0,o0,ne_eq,n0',not_false_eq_true,if_true,Sem.run_bind,q0,Result.andThen_ok,hc,Sem.run_ite,Sem.run_pure]
    cases h1 : (a0 == b0 && (a1 == b1 && (a2 == b2 && a3 == b3))) <;> simp
theorem empty_iff {ss : List St} (hl : ss.length ≤ 200) {p : Nat → Bool} (hp : Sub ss p) : (wd p 0 == 0 && (wd p 1 == 0 && (wd p 2 == 0 && wd p 3 == 0))) = true ↔ p = noP:=by
  constructor
  · intro h
    simp only [Bool.and_eq_true,beq_iff_eq] at h
    obtain ⟨h0,h1,h2,h3⟩:=h
    funext j
    by_cases hj : j < 256
    · have key : ∀ i,i < 4 → wd p i = 0:=fun i hi => by
        rcases (by omega : i = 0 ∨ i = 1 ∨ i = 2 ∨ i = 3) with rfl | rfl | rfl | rfl <;> assumption
      have:=wd_bit p (j / 64) (j % 64) (by omega)
      rw [key (j / 64) (by omega),show 64 * (j / 64) + j % 64 = j by omega] at this
      rw [← this]
      simp [noP]
    · cases hpj : p j with
      | false => rfl
      | true =>
        have:=hp j hpj
        omega
  · rintro rfl
    rw [wd_no,wd_no,wd_no,wd_no]
    rfl
theorem sempty_any {ss : List St} (hl : ss.length ≤ 200) (p : Nat → Bool) (hp : Sub ss p) (w : World) :
    Calls Tryz.prog 105 #[stV p] w fun e w' => ∃ y,e = .returned (.bool y) ∧ (y = true ↔ p = noP) ∧ Below w.heap.size w w':=by
  have hy:=hid (empty_iff hl hp)
  have hq:=fun w => eqSt (wd p 0) (wd p 1) (wd p 2) (wd p 3) 0 0 0 0 w
  generalize (wd p 0 == 0 && (wd p 1 == 0 && (wd p 2 == 0 && wd p 3 == 0))) = y at hq hy
  unfold stV
  go_enter Tryz.func105,Tryz.ntmps105
  go_wp2
  go_ret
  exact ⟨y,rfl,hy.out,(Below.refl _ _).alloc (Nat.le_refl _) _⟩
abbrev pcV (fi la : Bool) : Value:=.agg #[.bool fi,.bool la]
theorem placeOf_any (s : ByteArray) (i : Nat) (w : World) :
    Calls Tryz.prog 104 #[.string s,.int .i64 (i : Int)] w fun e w' => e = .returned (pcV (decide (i = 0)) (decide (i = s.data.toList.length))) ∧ Below w.heap.size w w':=by
  have h0 : ((i : Int) == 0) = decide (i = 0):=by
    by_cases h : i = 0
    · subst h; rfl
    · rw [decide_eq_false h,beq_eq_false_iff_ne]; omega
  have h1 : ((i : Int) == (s.size : Int)) = decide (i = s.data.toList.length):=by
    have : s.data.toList.length = s.size:=by simp
    rw [this]
    by_cases h : i = s.size
    · subst h; simp
    · rw [decide_eq_false h,beq_eq_false_iff_ne]; omega
  generalize decide (i = 0) = fi at h0 ⊢
  generalize decide (i = s.data.toList.length) = la at h1 ⊢
  go_enter Tryz.func104,Tryz.ntmps104
  go_wp2
  have hh : (w.alloc (.cells #[.bool fi,.bool la] 204)).heap[w.heap.size]? = some (.cells #[.bool fi,.bool la] 204 (0,0)):=heap_alloc_new w _
  have c0:=Lib.cell_of_heap hh 0
  have c1:=Lib.cell_of_heap hh 1
  refine bodyPost_ret (v:=pcV fi la) (by simp [results,Tryz.results104,go_sem,c0,c1]) rfl ⟨rfl,?_⟩
  exact (Below.refl _ _).alloc (Nat.le_refl _) _
variable {F : Fence} {n : Nat} {P : Program}
end Go.Proofs.YtcjghhedphmhkaaGreatDoor
namespace Go.Proofs.YtcjghhedphmhkaaGreatDoor
open Go.RowKit
variable {F : Fence} {n : Nat} {P : Program}
def RunsTo {α : Type} (F : Fence) (n : Nat) (P : Program) (g : Nat) (fb : Array Value) (enc : α → Value) (Tb : World → Prop) (xs : List α) : Prop :=
  ∀ (l : Nat) (J Jx : List α → World → Prop) (W : World),AbidesFrom W.heap.size J → AbidesFrom W.heap.size Jx → (∀ pre W1,J pre W1 → Tb W1) →
    (∀ pre x rest W1,xs = pre ++ x :: rest → J pre W1 → YieldAt F (n - 1) P l #[enc x] W1 fun e W' => (e = .returned (.bool true) ∧ J (pre ++ [x]) W') ∨ (e = .returned (.bool false) ∧ Jx (pre ++ [x]) W')) →
    J [] W → CallsIn F n P g (fb ++ #[.func (.yield l) #[] #[]]) W fun e W' => (∃ v,e = .returned v) ∧ (J xs W' ∨ ∃ pre,Jx pre W')
def toPost {α : Type} (B : Nat) (I Ix : List α → World → Prop) (xs : List α) (W : World) : Exit → Act → World → Prop
  | .normal,_,W' => KeepsFrom B W W' ∧ I xs W'
  | .ret,_,W' => KeepsFrom B W W' ∧ Ix xs W'
  | _,_,_ => False
theorem wpIn_runsTo {α : Type} {g : Operand} {ps : Array Tmp} {assign body : Code} {Q : Exit → Act → World → Prop} {a : Act} {w : World}
    (hro : F.round = none) (h1 : 1 ≤ n) (gf : Nat) (fb : Array Value) (hg : a.eval g = .func (.func gf) fb #[]) (hFg : F.fn gf) (eg : ∀ args w,(callFunc gf args).run P w = .ok (.enter gf args) w)
    (enc : α → Value) (Tb : World → Prop) (xs : List α) (hseq : RunsTo F (n - 1) P gf fb enc Tb xs) (hps : ps.size = 1)
    (I Ix : List α → World → Prop) (hI : OwnFrom w.heap.size I) (hIx : OwnFrom w.heap.size Ix) (hIT : ∀ pre W,I pre W → Tb W) (h0 : I [] w) (a₁ : α → Act)
    (hassign : ∀ (l : Nat) (x : α) (W : World) (K : Act → World → Prop),K (a₁ x) W →
      assign.wpIn (F.inRound l) (n - 1 - 1) P (Exit.then K (fun _ _ _ => False)) { tmps:=(ps.zip #[enc x]).foldl (fun t (p,v) => t.setIfInBounds p v) a.tmps,defers:=[] } W)
    (hbody : ∀ (l : Nat) (pre : List α) (x : α) (rest : List α) (W : World),xs = pre ++ x :: rest → I pre W → body.wpIn (F.inRound l) (n - 1 - 1) P (toPost w.heap.size I Ix (pre ++ [x]) W) (a₁ x) W)
    (hdone : ∀ (D : Nat) (W : World),w.heap.size ≤ D → I xs W → W.heap[D]? = some (.deferred (some [])) → Q .normal { a with defers:={ target:=.collected D,args:=#[] } :: a.defers } W)
    (hstop : ∀ (D : Nat) (pre : List α) (W : World),w.heap.size ≤ D → Ix pre W → W.heap[D]? = some (.deferred (some [])) → Code.ret.wpIn F n P Q { a with defers:={ target:=.collected D,args:=#[] } :: a.defers } W) :
    (Code.rangeFunc g ps assign body).wpIn F n P Q a w:=by
  refine wpIn_rangeFunc fun fn hfn => ?_
  rw [hro]
  let D:=w.heap.size
  let L:=w.heap.size + 1
  let rec0 : LoopState → Option Code → Loop:=fun st pe => { state:=st,pending:=pe,fn:=fn,tmps:=a.tmps,params:=ps,assign:=assign,body:=body,defers:=D }
  let V:=(w.alloc (.deferred (some []))).alloc (.loop (rec0 .ready none))
  have hVL : V.heap[L]? = some (.loop (rec0 .ready none)):=by
    have:=World.alloc_heap_new (w.alloc (.deferred (some []))) (.loop (rec0 .ready none))
    rwa [World.size_alloc] at this
  have hVD : V.heap[D]? = some (.deferred (some [])):=(Below.heap_alloc _ _ _ (by simp [D])).trans (World.alloc_heap_new w _)
  have hVI : I [] V:=hI.alloc _ (hI.alloc _ h0)
  have hVs : V.heap.size = w.heap.size + 2:=by simp [V]
  refine ⟨L,[{ target:=.collected D,args:=#[] }],V,{ target:=.fn (.func gf) #[],args:=fb ++ #[.func (.yield L) #[] #[]] },V,gf,fb ++ #[.func (.yield L) #[] #[]],V,run_enterLoop_outer _ _ _ _ _,?_,?_,?_,fun _ => h1,?_⟩
  · simp only [resolve,hg]
    simp [go_sem,Deferred.ofValue]
  · intro f' hf'
    simp [Target.leads] at hf'
    subst hf'
    exact hFg
  · simp [invoke,go_sem,eg]
  · have hr' : ∀ {A : World} {row : Option Nat},(∀ r,row = some r → V.heap.size ≤ r ∧ ∃ o : Obj,A.heap[r]? = some o ∧ o.isWalk = true) → ∀ r,row = some r → w.heap.size ≤ r ∧ ∃ o : Obj,A.heap[r]? = some o ∧ o.isCells = false:=fun hr r e => by
      obtain ⟨h2,o,ho,hw⟩:=hr r e
      exact ⟨by omega,o,ho,Obj.not_cells_of_walk hw⟩
    have key:=hseq L (fun pre W => I pre W ∧ W.heap[L]? = some (.loop (rec0 .ready none)) ∧ W.heap[D]? = some (.deferred (some [])))
      (fun pre W => Ix pre W ∧ W.heap[L]? = some (.loop (rec0 .done (some .ret))) ∧ W.heap[D]? = some (.deferred (some []))) V
      (fun s A B row hs hgr hr => ⟨hI s A B row hs.1 hgr (hr' hr),(grownBy_keeps hgr (fun r e => (hr r e).2) hs.2.1 rfl).trans hs.2.1,(grownBy_keeps hgr (fun r e => (hr r e).2) hs.2.2 rfl).trans hs.2.2⟩)
      (fun s A B row hs hgr hr => ⟨hIx s A B row hs.1 hgr (hr' hr),(grownBy_keeps hgr (fun r e => (hr r e).2) hs.2.1 rfl).trans hs.2.1,(grownBy_keeps hgr (fun r e => (hr r e).2) hs.2.2 rfl).trans hs.2.2⟩)
      (fun pre W h => hIT pre W h.1)
      (fun pre x rest W hx h => by
        obtain ⟨hi,hl,hd⟩:=h
        have hlt : L < W.heap.size:=(Array.getElem?_eq_some_iff.1 hl).1
        have hy:=run_yield (P:=P) (args:=#[enc x]) hl (by simp [rec0,hps])
        let Wb:=W.putObj L (.loop { rec0 .ready none with state:=.busy })
        have hbL : Wb.heap[L]? = some (.loop { rec0 .ready none with state:=.busy }):=World.putObj_heap_same hlt
        have hbD : Wb.heap[D]? = some (.deferred (some [])):=(World.putObj_heap_other (by simp [D,L])).trans hd
        refine ⟨fn,_,assign,body,hy,roundIn_of_wpIn hfn (hassign L x W _ ⟨Wb,run_beginRound hl rfl,?_⟩)⟩
        refine wpIn_mono (hbody L pre x rest Wb hx (hI.putObj _ hi (by simp [L]) hl rfl)) ?_
        intro e a3 W3 hp
        cases e with
        | normal =>
          obtain ⟨hk3,hi3⟩:=hp
          have hl3:=hk3.same L _ (by simp [L]) hbL rfl
          have hd3:=hk3.same D _ (Nat.le_refl _) hbD rfl
          exact ⟨_,_,run_endRound none hl3,Or.inl ⟨rfl,hI.putObj _ hi3 (by simp [L]) hl3 rfl,World.putObj_heap_same (Array.getElem?_eq_some_iff.1 hl3).1,(World.putObj_heap_other (by simp [D,L])).trans hd3⟩⟩
        | ret =>
          obtain ⟨hk3,hi3⟩:=hp
          have hl3:=hk3.same L _ (by simp [L]) hbL rfl
          have hd3:=hk3.same D _ (Nat.le_refl _) hbD rfl
          exact ⟨_,_,run_endRound (some .ret) hl3,Or.inr ⟨rfl,hIx.putObj _ hi3 (by simp [L]) hl3 rfl,World.putObj_heap_same (Array.getElem?_eq_some_iff.1 hl3).1,(World.putObj_heap_other (by simp [D,L])).trans hd3⟩⟩
        | _ => exact hp.elim)
      ⟨hVI,hVL,hVD⟩
    refine key.mono ?_
    rintro e W2 ⟨⟨v,rfl⟩,⟨hi,hl,hd⟩ | ⟨pre,hi,hl,hd⟩⟩
    · exact ⟨none,_,run_endLoop hl (by simp [rec0]),hdone D _ (Nat.le_refl _) (hI.putObj _ hi (by simp [L]) hl rfl) ((World.putObj_heap_other (by simp [D,L])).trans hd)⟩
    · exact ⟨some .ret,_,run_endLoop hl (by simp [rec0]),hstop D pre _ (Nat.le_refl _) (hIx.putObj _ hi (by simp [L]) hl rfl) ((World.putObj_heap_other (by simp [D,L])).trans hd)⟩
end Go.Proofs.YtcjghhedphmhkaaGreatDoor
namespace Go.Proofs.YtcjghhedphmhkaaGreatDoor
open Go.RowKit Go.Shelf
attribute [local go_sem] Oper.semAt_some
theorem el_part (p : Nat → Bool) (x N : Nat) (hx : x < N) (hp : p x = true) : ∃ rest,el p N = el p x ++ x :: rest:=by
  obtain ⟨d,rfl⟩ : ∃ d,N = x + 1 + d:=⟨N - x - 1,by omega⟩
  refine ⟨(List.range d |>.map fun j => x + 1 + j).filter p,?_⟩
  unfold el
  rw [List.range_add,List.range_succ,List.filter_append,List.filter_append]
  simp [hp]
theorem idx4_0 (a0 a1 a2 a3 : Int) (w : World) : (Instr.index 103 (.agg #[.int .u64 a0,.int .u64 a1,.int .u64 a2,.int .u64 a3]) (.int .i64 0)).run Tryz.prog w = .ok (.int .u64 a0) w:=by kernel_rfl
theorem idx4_1 (a0 a1 a2 a3 : Int) (w : World) : (Instr.index 103 (.agg #[.int .u64 a0,.int .u64 a1,.int .u64 a2,.int .u64 a3]) (.int .i64 1)).run Tryz.prog w = .ok (.int .u64 a1) w:=by kernel_rfl
theorem idx4_2 (a0 a1 a2 a3 : Int) (w : World) : (Instr.index 103 (.agg #[.int .u64 a0,.int .u64 a1,.int .u64 a2,.int .u64 a3]) (.int .i64 2)).run Tryz.prog w = .ok (.int .u64 a2) w:=by kernel_rfl
theorem idx4_3 (a0 a1 a2 a3 : Int) (w : World) : (Instr.index 103 (.agg #[.int .u64 a0,.int .u64 a1,.int .u64 a2,.int .u64 a3]) (.int .i64 3)).run Tryz.prog w = .ok (.int .u64 a3) w:=by kernel_rfl
theorem idx4 (q : Nat → Bool) (k : Nat) (hk : k < 4) (w : World) : (Instr.index 103 (.agg #[.int .u64 (wd q 0),.int .u64 (wd q 1),.int .u64 (wd q 2),.int .u64 (wd q 3)]) (.int .i64 (k : Int))).run Tryz.prog w = .ok (.int .u64 (wd q k)) w:=by
  rcases (by omega : k = 0 ∨ k = 1 ∨ k = 2 ∨ k = 3) with rfl | rfl | rfl | rfl
  · exact idx4_0 _ _ _ _ w
  · exact idx4_1 _ _ _ _ w
  · exact idx4_2 _ _ _ _ w
  · exact idx4_3 _ _ _ _ w
theorem srises (n : Nat) (hn : 1 ≤ n) (p : Nat → Bool) : RunsTo Fence.wide n Tryz.prog 140 #[stV p] (fun x : Nat => Value.int .i64 (x : Int)) Tab (el p 256):=by
  intro l J Jx W hJ hJx hJT hY h0
  have hI4 : Hid _:=hid (idx4 p)
  unfold stV
  refine callsIn_of_wp Tryz.func140 rfl trivial ?_ rfl
  simp only [Tryz.ntmps140,List.size_toArray,List.length_cons,List.length_nil,Nat.reduceAdd,Nat.reduceSub,Array.replicate_succ,Array.replicate_zero,List.push_toArray,List.append_toArray,List.nil_append,List.cons_append]
  gi_wp2
  gi_loopw [8] (fun v wr => ∃ k : Nat,k ≤ 4 ∧ v = .int .i64 (k : Int) ∧ J (el p (64 * k)) wr) (fun v _ => 4 - (intOf v).toNat)
  case atStart =>
    exact ⟨0,by omega,rfl,hJ _ _ _ none h0 (World.grownBy_alloc _ _ _) (fun r e => by cases e)⟩
  case round =>
    obtain ⟨k,hk,rfl,hj⟩:=hrel
    by_cases hlt : k < 4
    · have i0 : (0 : Int) ≤ (k : Int):=by omega
      have i1 : (k : Int) < 4:=by omega
      have hqk:=fun w => hI4.out k hlt w
      have hwd : wd p k = ((cutw (fun j => p (64 * k + j)) 0 : Nat) : Int):=by rw [cutw_zero]; rfl
      gi_wp2
      gi_loopw [5] (fun v wr => ∃ m : Nat,m ≤ 64 ∧ v = .int .u64 ((cutw (fun j => p (64 * k + j)) m : Nat) : Int) ∧ J (el p (64 * k + m)) wr) (fun v _ => (intOf v).toNat)
      case atStart =>
        exact ⟨0,by omega,rfl,hj⟩
      case round =>
        obtain ⟨m,hm,rfl,hj2⟩:=hrel
        by_cases hz : cutw (fun j => p (64 * k + j)) m = 0
        · have hz0 : ((cutw (fun j => p (64 * k + j)) m : Nat) : Int) = 0:=by omega
          have hj3 : J (el p (64 * (k + 1))) wr:=by
            rw [el_skip' p (64 * k + m) (64 * (k + 1)) (by omega) (fun j h1 h2 => by
              have:=cutw_none hz (j - 64 * k) (by omega) (by omega)
              rwa [show 64 * k + (j - 64 * k) = j by omega] at this)]
            exact hj2
          gi_wp2
          exact ⟨⟨k + 1,by omega,by go_num,hj3⟩,by simp [intOf]; omega⟩
        · obtain ⟨k0,hk0,h1,h2,h3,h4,h5⟩:=cutw_step hz
          have hlt64 : cutw (fun j => p (64 * k + j)) m < 18446744073709551616:=mkw64 _
          obtain ⟨rest,hrest⟩:=el_part p (64 * k + k0) 256 (by omega) h3
          have hj3 : J (el p (64 * k + k0)) wr:=by
            rw [el_skip' p (64 * k + m) (64 * k + k0) (by omega) (fun j g1 g2 => by
              have:=h4 (j - 64 * k) (by omega) (by omega)
              rwa [show 64 * k + (j - 64 * k) = j by omega] at this)]
            exact hj2
          obtain ⟨fn,tmps,assign,body,hy,hR⟩:=hY _ _ rest wr hrest hj3
          have hTz:=tz_any _ hz hlt64 wr (hJT _ _ hj2)
          rw [← hk0] at hTz
          replace hTz:=hid hTz
          have hnz : (((cutw (fun j => p (64 * k + j)) m : Nat) : Int) == 0) = false:=by rw [beq_eq_false_iff_ne]; omega
          have ev : ((64 * k + k0 : Nat) : Int) = (k : Int) * 64 + (k0 : Int):=by omega
          rw [ev] at hy
          have hand : bits .and .u64 ((cutw (fun j => p (64 * k + j)) m : Nat) : Int) (((cutw (fun j => p (64 * k + j)) m : Nat) : Int) - 1) = ((cutw (fun j => p (64 * k + j)) (k0 + 1) : Nat) : Int):=by
            have e1 : ((cutw (fun j => p (64 * k + j)) m : Nat) : Int) - 1 = ((cutw (fun j => p (64 * k + j)) m - 1 : Nat) : Int):=by omega
            rw [e1,u64_and_nat _ _ hlt64 (by omega),h5]
          have hless : cutw (fun j => p (64 * k + j)) (k0 + 1) < cutw (fun j => p (64 * k + j)) m:=by
            rw [← h5]
            have : cutw (fun j => p (64 * k + j)) m &&& (cutw (fun j => p (64 * k + j)) m - 1) ≤ cutw (fun j => p (64 * k + j)) m - 1:=Nat.and_le_right
            omega
          clear h5 hk0
          generalize hn2 : cutw (fun j => p (64 * k + j)) (k0 + 1) = n2 at hand hless
          generalize cutw (fun j => p (64 * k + j)) m = nn at *
          gi_wp2_with (refine ⟨trivial,?_⟩; gi_at_call 153; refine (callsIn_wide.2 hTz.out).mono ?_; rintro e w' ⟨rfl,rfl⟩)
          refine hR.mono ?_
          rintro e W3 (⟨rfl,hJ3⟩ | ⟨rfl,hJ3⟩)
          · gi_wp2
            exact ⟨⟨k0 + 1,by omega,by rw [hn2],by rw [← Nat.add_assoc,el_snoc p _ h3]; exact hJ3⟩,by simp [intOf]; omega⟩
          · gi_wp2
            exact bodyPost_ret (results_none rfl _ _ _) rfl ⟨⟨_,rfl⟩,Or.inr ⟨_,hJ3⟩⟩
    · have hk4 : k = 4:=by omega
      subst hk4
      gi_wp2
      go_end0
      exact ⟨⟨_,rfl⟩,Or.inl hj⟩
theorem enters_srising : ∀ args w,(callFunc 140 args).run Tryz.prog w = .ok (.enter 140 args) w:=fun _ _ => by kernel_rfl
attribute [local go_sem] Oper.semAt_some
abbrev wyV (b off n cap : Nat) : Value:=.agg #[.slice (some ⟨b,off,none⟩) n cap]
theorem el_one {ss : List St} {p : Nat → Bool} (hp : Sub ss p) {pre rest : List Nat} {x : Nat} (h : el p 256 = pre ++ x :: rest) : p x = true ∧ x < ss.length:=by
  have : x ∈ el p 256:=by rw [h]; simp
  have:=(el_mem p 256 x).1 this
  exact ⟨this.2,hp x this.2⟩
theorem boxed_def {W : World} {b D : Nat} {t : TypeId} {v : Value} (h : Boxed W b t v) (u : Value) (hK : W.heap[D]? = some (.deferred (some []))) : (W.setCell ⟨b,0,none⟩ u).heap[D]? = some (.deferred (some [])):=by
  have hne : b ≠ D:=fun e => by
    rw [← e,show W.heap[b]? = _ from h] at hK
    cases hK
  exact (Below.heap_setCell W ⟨b,0,none⟩ u D (fun e => hne e.symm)).trans hK
theorem Boxed.putK {W : World} {b D : Nat} {t : TypeId} {v : Value} (h : Boxed W b t v) (hK : W.heap[D]? = some (.deferred (some []))) (o : Obj) : Boxed (W.putObj D o) b t v:=by
  have hne : b ≠ D:=fun e => by
    rw [← e,show W.heap[b]? = _ from h] at hK
    cases hK
  exact (World.putObj_heap_other hne).trans h
theorem sdone_in (ss : List St) (hl : ss.length ≤ 200) (b off cap : Nat) (p : Nat → Bool) (hp : Sub ss p) (w : World) (hT : Tab w) (hlt : b < w.heap.size) (hN : SsAt w b off ss) :
    CallsIn Fence.wide 3 Tryz.prog 137 #[wyV b off ss.length cap,stV p] w fun e w' => e = .returned (.bool (donF ss p)) ∧ Below w.heap.size w w':=by
  refine callsIn_of_wp_marks Tryz.func137 rfl trivial ?_ rfl
  simp only [Tryz.ntmps137,List.size_toArray,List.length_cons,List.length_nil,Nat.reduceAdd,Nat.reduceSub,Array.replicate_succ,Array.replicate_zero,List.push_toArray,List.append_toArray,List.nil_append,List.cons_append]
  unfold stV
  gi_wp2_with fail
  obtain ⟨W0,hW0⟩ : ∃ W0,W0 = ((w.alloc (.cells #[.slice (some ⟨b,off,none⟩) ss.length cap] 160)).alloc (.cells #[.int .u64 (wd p 0),.int .u64 (wd p 1),.int .u64 (wd p 2),.int .u64 (wd p 3)] 207)).alloc (.cells #[.bool false] 4):=⟨_,rfl⟩
  have hB0 : Below w.heap.size w W0:=by rw [hW0]; exact ((((Below.refl _ w).alloc (Nat.le_refl _) _).alloc (by simp) _).alloc (by simp; omega) _)
  have hs0 : W0.heap.size = w.heap.size + 3:=by rw [hW0]; simp
  have hb1 : Boxed W0 w.heap.size 160 (.slice (some ⟨b,off,none⟩) ss.length cap):=by
    rw [hW0]; exact (Below.heap_alloc _ _ _ (by simp; omega)).trans ((Below.heap_alloc _ _ _ (by simp)).trans (World.alloc_heap_new w _))
  have hb2 : Boxed W0 (w.heap.size + 1 + 1) 4 (.bool false):=by
    rw [hW0]
    have:=World.alloc_heap_new ((w.alloc (.cells #[.slice (some ⟨b,off,none⟩) ss.length cap] 160)).alloc (.cells #[.int .u64 (wd p 0),.int .u64 (wd p 1),.int .u64 (wd p 2),.int .u64 (wd p 3)] 207)) (.cells #[.bool false] 4)
    show _ = _
    rw [show w.heap.size + 1 + 1 = ((w.alloc (.cells #[.slice (some ⟨b,off,none⟩) ss.length cap] 160)).alloc (.cells #[.int .u64 (wd p 0),.int .u64 (wd p 1),.int .u64 (wd p 2),.int .u64 (wd p 3)] 207)).heap.size by simp]
    exact this
  rw [← hW0]
  refine wpIn_runsTo rfl (by omega) 140 #[stV p] rfl trivial enters_srising (fun x : Nat => Value.int .i64 (x : Int)) Tab (el p 256) (srises (3 - 1) (by omega) p) rfl
    (fun pre W => (Boxed W w.heap.size 160 (.slice (some ⟨b,off,none⟩) ss.length cap) ∧ Boxed W (w.heap.size + 1 + 1) 4 (.bool false) ∧ (∀ x ∈ pre,¬ Dne ss x)) ∧ Below w.heap.size w W)
    (fun pre W => (Boxed W (w.heap.size + 1 + 1) 4 (.bool true) ∧ donF ss p = true) ∧ Below w.heap.size w W)
    (OwnFrom.and (OwnFrom.and (Own.from (boxed_own _ _ (fun _ => _)) _) (OwnFrom.and (Own.from (boxed_own _ _ (fun _ => _)) _) (ownFrom_pure _ (fun pre : List Nat => ∀ x ∈ pre,¬ Dne ss x)))) (ownFrom_below (Nat.le_refl _) (by omega)))
    (OwnFrom.and (OwnFrom.and (Own.from (boxed_own _ _ (fun _ => _)) _) (ownFrom_pure _ (fun _ => _))) (ownFrom_below (Nat.le_refl _) (by omega)))
    (fun pre W h => hT.below h.2 (Nat.le_refl _))
    ⟨⟨hb1,hb2,by simp⟩,hB0⟩
    (fun x => { tmps:=#[wyV b off ss.length cap,stV p,.pointer (some ⟨w.heap.size,0,none⟩),.pointer (some ⟨w.heap.size + 1,0,none⟩),.pointer (some ⟨w.heap.size + 1 + 1,0,none⟩),.int .i64 (x : Int),stV p,.func (.func 140) #[stV p] #[],.int .i64 (x : Int),undef,undef,undef,undef,undef,undef,undef],defers:=[] }) ?assign ?body ?done ?stop
  case assign =>
    intro l x W K hK
    gi_wp2
    exact hK
  case body =>
    rintro l pre x rest W hx ⟨⟨h1,h2,h3⟩,hB⟩
    obtain ⟨hpx,hxl⟩:=el_one hp hx
    obtain ⟨n,hn⟩ : ∃ n,ss[x]? = some n:=⟨ss[x],List.getElem?_eq_getElem hxl⟩
    have c0:=h1.cell
    have c2:=h2.cell
    have f2:=h2.frozen
    obtain ⟨d0,_⟩:=(hN.below hB hlt) x n hn
    have g0 : (0 : Int) ≤ (x : Int):=by omega
    have g1 : (x : Int) < (ss.length : Int):=by omega
    have H1:=hid h1
    have H2:=hid h2
    have HB:=hid hB
    have HD : Hid (n.op = 5 → donF ss p = true):=fun e => donF_iff.2 ⟨x,hpx,n,hn,e⟩
    have HND : Hid (¬ n.op = 5 → ∀ y ∈ pre ++ [x],¬ Dne ss y):=fun e y hy => by
      rcases List.mem_append.1 hy with hy | hy
      · exact h3 y hy
      · rw [List.mem_singleton.1 hy]
        rintro ⟨m,hm,e5⟩
        rw [hn] at hm
        obtain rfl:=Option.some.inj hm
        exact e e5
    clear h1 h2 h3 hB hx hn
    by_cases h5 : n.op = 5
    · rw [h5] at d0
      gi_wp2
      exact ⟨(KeepsOthers.setCell _ _ _).from _,⟨H2.out.set _,HD.out h5⟩,HB.out.setCell (p:=⟨w.heap.size + 1 + 1,0,none⟩) (by simp only; omega) _⟩
    · have h5' : (n.op == 5) = false:=by rw [beq_eq_false_iff_ne]; exact h5
      gi_wp2
      exact ⟨KeepsFrom.refl _ _,⟨H1.out,H2.out,HND.out h5⟩,HB.out⟩
  case done =>
    rintro D W hD ⟨⟨h1,h2,h3⟩,hB⟩ hK
    have c2:=h2.cell
    have f2:=h2.frozen
    have HN : Hid (donF ss p = false):=by
      show _ = _
      cases h : donF ss p with
      | false => rfl
      | true =>
        obtain ⟨k,hk,hd⟩:=donF_iff.1 h
        exact absurd hd (h3 k ((el_in hl hp k).2 hk))
    gi_wp2
    refine ⟨by simp,.inl ⟨_,_,rfl,run_takeDeferred (boxed_def h2 _ hK),?_⟩⟩
    have c3:=(Boxed.putK (h2.set (.bool false)) (boxed_def h2 _ hK) (.deferred none)).cell
    refine ⟨.bool false,by simp [results,Tryz.results137,go_sem,c3],by rw [HN.out],?_⟩
    exact (hB.setCell (p:=⟨w.heap.size + 1 + 1,0,none⟩) (by simp only; omega) _).trans (belowK_b (w:=w) (Nat.le_refl _) _ D _ _ (by omega) (boxed_def h2 _ hK) rfl rfl)
  case stop =>
    rintro D pre W hD ⟨⟨h2,h3⟩,hB⟩ hK
    have c2:=h2.cell
    gi_wp2
    refine ⟨by simp,.inl ⟨_,_,rfl,run_takeDeferred hK,?_⟩⟩
    have c3:=(Boxed.putK h2 hK (.deferred none)).cell
    refine ⟨.bool true,by simp [results,Tryz.results137,go_sem,c3],by rw [h3],?_⟩
    exact hB.trans (belowK_b (w:=w) (Nat.le_refl _) _ D _ _ (by omega) hK rfl rfl)
theorem sdone_any (ss : List St) (hl : ss.length ≤ 200) (b off cap : Nat) (p : Nat → Bool) (hp : Sub ss p) (w : World) (hT : Tab w) (hlt : b < w.heap.size) (hN : SsAt w b off ss) :
    Calls Tryz.prog 137 #[wyV b off ss.length cap,stV p] w fun e w' => e = .returned (.bool (donF ss p)) ∧ Below w.heap.size w w':=callsIn_wide.1 (sdone_in ss hl b off cap p hp w hT hlt hN)
end Go.Proofs.YtcjghhedphmhkaaGreatDoor
namespace Go.Proofs.YtcjghhedphmhkaaGreatDoor
open Go.RowKit
abbrev St.v (n : St) : Value:=.agg #[.int .i64 n.op,.int .u64 n.c.a,.int .u64 n.c.b,.int .u64 n.c.c,.int .u64 n.c.d,.int .i64 n.x,.int .i64 n.y]
abbrev St.arr (n : St) : Array Value:=#[.int .i64 n.op,.int .u64 n.c.a,.int .u64 n.c.b,.int .u64 n.c.c,.int .u64 n.c.d,.int .i64 n.x,.int .i64 n.y]
def St.eqb (a b : St) : Bool:=a.op == b.op && (a.c.eqb b.c && (a.x == b.x && a.y == b.y))
theorem list4st {α : Type} (l : List α) (h : l.length = 4) : ∃ a b c d,l = [a,b,c,d]:=by
  match l,h with
  | [a,b,c,d],_ => exact ⟨a,b,c,d,rfl⟩
theorem eq7d (d : Nat) (x y : St) (w : World) : (Op.equalIn (d + 1 + 1 + 1) 158 x.v y.v).run Tryz.prog w = .ok (x.eqb y) w:=by
  have hs : Tryz.prog.underlying 158 = some (.struct (Tryz.prog.fieldsOf 158)):=by kernel_rfl
  have hp : Tryz.prog.stoodInHeld 158 = false:=by kernel_rfl
  rw [run_equalIn_struct w (d + 1 + 1) _ _ _ hs hp]
  have hf : (Tryz.prog.fieldsOf 158).toList.map (fun f => (f.type, f.offset, f.name == "_")) = [(3, 0, false), (104, 1, false), (3, 5, false), (3, 6, false)] := by kernel_rfl
  generalize (Tryz.prog.fieldsOf 158).toList = fs at hf
  obtain ⟨f0,f1,f2,f3,rfl⟩:=list4st fs (by have:=congrArg List.length hf; simpa using this)
  · simp only [List.map_cons,List.map_nil,List.cons.injEq,Prod.mk.injEq,and_true] at hf
    obtain ⟨⟨t0,o0,n0⟩,⟨t1,o1,n1⟩,⟨t2,o2,n2⟩,⟨t3,o3,n3⟩⟩:=hf
    have n0' : f0.name ≠ "_" := by simpa using n0
    have n1' : f1.name ≠ "_" := by simpa using n1
    have n2' : f2.name ≠ "_" := by simpa using n2
    have n3' : f3.name ≠ "_" := by simpa using n3
    have hi : ∀ (a b : Int) (w : World),(Op.equalIn (d + 1 + 1) 3 (.int .i64 a) (.int .i64 b)).run Tryz.prog w = .ok (a == b) w:=fun a b w => run_equalIn_int w (d + 1) 3 .i64 .i64 a b Tryz.underlying3
    have hc : ∀ (x y : C4) (w : World),(Op.equalIn (d + 1 + 1) 104 x.v y.v).run Tryz.prog w = .ok (x.eqb y) w:=fun x y w => eq4d d x y w
    have q0 : ∀ (z : St) (w : World),(part 3 z.arr 0).run Tryz.prog w = .ok (.int .i64 z.op) w:=fun _ _ => by kernel_rfl
    have q1 : ∀ (z : St) (w : World),(part 104 z.arr 1).run Tryz.prog w = .ok z.c.v w:=fun _ _ => by kernel_rfl
    have q2 : ∀ (z : St) (w : World),(part 3 z.arr 5).run Tryz.prog w = .ok (.int .i64 z.x) w:=fun _ _ => by kernel_rfl
    have q3 : ∀ (z : St) (w : World),(part 3 z.arr 6).run Tryz.prog w = .ok (.int .i64 z.y) w:=fun _ _ => by kernel_rfl
    simp only [Op.eqFields,t0,o0,t1,o1,t2,o2,t3,o3,ne_eq,n0',n1',n2',n3',not_false_eq_true,if_true,Sem.run_bind,q0,q1,q2,q3,Result.andThen_ok,hi,hc,Sem.run_ite,Sem.run_pure]
    unfold St.eqb
    cases h1 : x.op == y.op <;> cases h2 : x.c.eqb y.c <;> cases h3 : x.x == y.x <;> cases h4 : x.y == y.y <;> simp [q1,q2,q3,hc,hi,h2,h3,h4]
theorem eqS (x y : St) (w : World) : (Op.equalIn 10000 158 x.v y.v).run Tryz.prog w = .ok (x.eqb y) w:=eq7d 9997 x y w
def isCells (l : List Nat) : List Value:=l.map fun x : Nat => Value.int .i64 (x : Int)
def IsOwn (w : World) (B : Nat) (v : Value) (l : List Nat) : Prop:=w.ownsRow B 3 1 v l.length (isCells l)
theorem IsOwn.nil (w : World) (B : Nat) : IsOwn w B (.slice none 0 0) []:=⟨rfl,Or.inl ⟨rfl,rfl⟩⟩
theorem IsOwn.isIn {w : World} {B : Nat} {v : Value} {l : List Nat} (h : IsOwn w B v l) (hm : l.length ≤ maxLen) : IsIn w v l:=by
  rcases h.2 with ⟨hv,h0⟩ | ⟨g,cap,cur,hv,hb,hg,hc,_⟩
  · have e : l = []:=List.eq_nil_of_length_eq_zero h0
    subst e
    rw [hv]
    exact isIn_nil w
  · refine ⟨_,_,hv,hm,Or.inr ⟨g,0,rfl,?_,?_⟩⟩
    · rcases Nat.lt_or_ge g w.heap.size with h' | h'
      · exact h'
      · rw [Array.getElem?_eq_none h'] at hg; cases hg
    · intro i x hx
      have:=h.cells (g:=g) (by rw [hv]; rfl) i (.int .i64 (x : Int)) (by simp [isCells,hx])
      rw [Addr.add_lit] at this
      exact this
theorem IsOwn.kept {w w' : World} {B : Nat} {v : Value} {l : List Nat} (h : IsOwn w B v l) (hb : Below w.heap.size w w') : IsOwn w' B v l:=by
  refine World.ownsRow.kept (row:=none) h ⟨hb.os,hb.tape,hb.output,hb.size,fun k hk _ => hb.block k hk⟩ ?_
  cases hv : v.ownBlock with
  | none => exact Or.inl rfl
  | some x => exact Or.inr (by simp)
theorem IsOwn.form {w : World} {B : Nat} {v : Value} {l : List Nat} (h : IsOwn w B v l) : ∃ a cap,v = .slice a l.length cap:=by
  rcases h.2 with ⟨hv,h0⟩ | ⟨g,cap,cur,hv,_⟩
  · exact ⟨none,0,by rw [hv,h0]⟩
  · exact ⟨_,_,hv⟩
theorem IsOwn.grown {w w' : World} {B : Nat} {v : Value} {l : List Nat} (h : IsOwn w B v l) (hB : B ≤ w.heap.size) (hg : w.grownBy w' v.ownBlock) : Below B w w':=by
  refine ⟨hg.os,hg.tape,hg.output,hg.size,fun k hk => hg.block k (by omega) ?_⟩
  intro e
  rcases h.2 with ⟨hv,_⟩ | ⟨b,cap,cur,hv,hb,_⟩
  · rw [hv] at e; cases e
  · rw [hv] at e
    injection e with e
    simp only at e
    omega
theorem wpList_append_is {ops : Array Oper} {rest : List Oper} {o : Oper} {a : Act} {Q : Exit → Act → World → Prop} {w : World} (hgd : o.guard = none) (s x : Operand)
    (ho : o.op = .call { callee:=.builtin .append,args:=#[s,x],argTypes:=#[148,148] })
    (B : Nat) (v : Value) (hs : a.eval s = v) (l : List Nat) (hown : IsOwn w B v l) (g2 c2 n : Nat) (hx : a.eval x = .slice (some ⟨g2,0,none⟩) 1 c2)
    (hnew : w.cell? ⟨g2,0,none⟩ = some (.int .i64 (n : Int))) (hlen : l.length ≤ 1000000000) (hbase : B ≤ w.heap.size)
    (h : ∀ g cap w',IsOwn w' B (.slice (some ⟨g,0,none⟩) (l.length + 1) cap) (l ++ [n]) → w.grownBy w' v.ownBlock → B ≤ g → g < w'.heap.size → wpList Tryz.prog ops Q rest (a.put o.dst (.slice (some ⟨g,0,none⟩) (l.length + 1) cap)) w') : wpList Tryz.prog ops Q (o :: rest) a w:=by
  have hinfo : (Tryz.prog.info? 3).map (fun i => (i.zero,i.size,i.bytes)) = some (some (.int .i64 0),1,8):=by kernel_rfl
  obtain ⟨i0,hi,hz0,hz1,hz2⟩:=info_parts hinfo
  refine wpList_append_lies w hgd s x 148 ho B 3 i0 _ 1 8 Tryz.underlying148 hi hz0 hz1 hz2 rfl (by decide) v l.length (isCells l) hs hown ⟨g2,0,none⟩ 1 c2 (isCells [n]) hx rfl ?_ (by simp [isCells,Value.oneCell']) (by omega) (by unfold maxLen; omega) (by omega) hbase _ rfl ?_
  · intro j u hj
    cases j with
    | zero =>
      simp [isCells] at hj
      subst hj
      rw [Addr.add_lit]
      exact hnew
    | succ j => simp [isCells] at hj
  · intro g cap w' h1 h2 h3 h4
    have e : IsOwn w' B (.slice (some ⟨g,0,none⟩) (l.length + 1) cap) (l ++ [n]):=by
      unfold IsOwn
      simpa [isCells] using h1
    have hg : B ≤ g:=by
      rcases h3 with h3 | h3
      · rcases hown.2 with ⟨hv,_⟩ | ⟨g',cap',cur,hv,hb,_⟩
        · rw [hv] at h3; cases h3
        · rw [hv] at h3
          injection h3 with h3
          simp at h3
          omega
      · omega
    exact h g cap w' e h2 hg h4
def Frm (bf : Nat) (X : Nat → Prop) (W : World) (k : Nat) : Prop:=k < W.heap.size ∧ (X k ∨ k = bf ∨ ∃ u,W.cell? ⟨bf,0,none⟩ = some u ∧ u.ownBlock = some k)
structure KpF (bf : Nat) (X : Nat → Prop) (W W' : World) : Prop where
  size : W.heap.size ≤ W'.heap.size
  same : ∀ k o,W.heap[k]? = some o → o.isCells = true → ¬ Frm bf X W k → W'.heap[k]? = some o
  row : ∀ k,Frm bf X W' k → Frm bf X W k ∨ W.heap.size ≤ k
theorem KpF.refl (bf : Nat) (X : Nat → Prop) (W : World) : KpF bf X W W:=⟨Nat.le_refl _,fun _ _ h _ _ => h,fun _ h => Or.inl h⟩
theorem heap_lt {W : World} {k : Nat} {o : Obj} (h : W.heap[k]? = some o) : k < W.heap.size:=(Array.getElem?_eq_some_iff.1 h).1
theorem KpF.free {bf : Nat} {X : Nat → Prop} {W W' : World} (h : KpF bf X W W') {k : Nat} (hk : k < W.heap.size) (hn : ¬ Frm bf X W k) : ¬ Frm bf X W' k:=fun hf => by
  rcases h.row k hf with h1 | h1
  · exact hn h1
  · omega
theorem KpF.trans {bf : Nat} {X : Nat → Prop} {A B C : World} (h : KpF bf X A B) (g : KpF bf X B C) : KpF bf X A C where
  size:=Nat.le_trans h.size g.size
  same:=fun k o hk ho hn => g.same k o (h.same k o hk ho hn) ho (h.free (heap_lt hk) hn)
  row:=fun k hf => by
    rcases g.row k hf with h1 | h1
    · exact h.row k h1
    · exact Or.inr (Nat.le_trans h.size h1)
theorem cell_block {W : World} {k o : Nat} {c : Value} (h : W.cell? ⟨k,o,none⟩ = some c) : ∃ ob,W.heap[k]? = some ob ∧ ob.isCells = true:=by
  unfold World.cell? at h
  split at h
  · rename_i cs t z hh
    exact ⟨_,hh,rfl⟩
  · cases h
theorem cell_of_block {W W' : World} {k : Nat} {ob : Obj} (h : W.heap[k]? = some ob) (h' : W'.heap[k]? = some ob) (o : Nat) : W'.cell? ⟨k,o,none⟩ = W.cell? ⟨k,o,none⟩:=by
  unfold World.cell?
  simp only [h,h']
theorem KpF.cell {bf : Nat} {X : Nat → Prop} {W W' : World} (h : KpF bf X W W') {k o : Nat} {c : Value} (hc : W.cell? ⟨k,o,none⟩ = some c) (hn : ¬ Frm bf X W k) : W'.cell? ⟨k,o,none⟩ = some c:=by
  obtain ⟨ob,h1,h2⟩:=cell_block hc
  rw [cell_of_block h1 (h.same k ob h1 h2 hn),hc]
theorem cell_lt {W : World} {k o : Nat} {c : Value} (h : W.cell? ⟨k,o,none⟩ = some c) : k < W.heap.size:=by
  obtain ⟨ob,h1,_⟩:=cell_block h
  exact heap_lt h1
theorem KpF.below {bf : Nat} (X : Nat → Prop) {W W' : World} (h : Below W.heap.size W W') (hb : bf < W.heap.size) : KpF bf X W W' where
  size:=h.size
  same:=fun k o hk _ _ => (h.block k (heap_lt hk)).trans hk
  row:=fun k hf => by
    rcases Nat.lt_or_ge k W.heap.size with hk | hk
    · refine Or.inl ⟨hk,?_⟩
      rcases hf.2 with h1 | h1 | ⟨u,h1,h2⟩
      · exact Or.inl h1
      · exact Or.inr (Or.inl h1)
      · exact Or.inr (Or.inr ⟨u,(h.cell (p:=⟨bf,0,none⟩) hb).symm.trans h1,h2⟩)
    · exact Or.inr hk
theorem KpF.put {bf : Nat} {X : Nat → Prop} (W : World) (b o : Nat) (c : Value) (hX : X b) (hne : bf ≠ b) : KpF bf X W (W.setCell ⟨b,o,none⟩ c) where
  size:=by simp
  same:=fun k ob hk _ hn => by
    have hkb : k ≠ b:=fun e => hn ⟨heap_lt hk,Or.inl (e ▸ hX)⟩
    simp [World.setCell,Array.getElem?_modify,hk,Ne.symm hkb]
  row:=fun k hf => by
    refine Or.inl ⟨by simpa using hf.1,?_⟩
    rcases hf.2 with h1 | h1 | ⟨u,h1,h2⟩
    · exact Or.inl h1
    · exact Or.inr (Or.inl h1)
    · refine Or.inr (Or.inr ⟨u,?_,h2⟩)
      have hh : (W.setCell ⟨b,o,none⟩ c).heap[bf]? = W.heap[bf]?:=by simp [World.setCell,Array.getElem?_modify,Ne.symm hne]
      unfold World.cell? at h1 ⊢
      simp only [hh] at h1
      exact h1
theorem KpF.box {bf : Nat} {X : Nat → Prop} (W : World) (t : TypeId) (v c : Value) (hB : Boxed W bf t v) (hc : c.ownBlock = none) : KpF bf X W (W.setCell ⟨bf,0,none⟩ c) where
  size:=by simp
  same:=fun k ob hk _ hn => by
    have hkb : k ≠ bf:=fun e => hn ⟨heap_lt hk,Or.inr (Or.inl e)⟩
    simp [World.setCell,Array.getElem?_modify,hk,Ne.symm hkb]
  row:=fun k hf => by
    refine Or.inl ⟨by simpa using hf.1,?_⟩
    rcases hf.2 with h1 | h1 | ⟨u,h1,h2⟩
    · exact Or.inl h1
    · exact Or.inr (Or.inl h1)
    · have : (W.setCell ⟨bf,0,none⟩ c).cell? ⟨bf,0,none⟩ = some c:=by
        simp [World.cell?,World.setCell,Array.getElem?_modify,show W.heap[bf]? = _ from hB]
      rw [this] at h1
      injection h1 with h1
      rw [← h1,hc] at h2
      cases h2
theorem KpF.grow {bf : Nat} {X : Nat → Prop} {W W1 : World} {t : TypeId} {u c : Value} (hB : Boxed W bf t u) (hg : W.grownBy W1 u.ownBlock) (hub : ∀ k,u.ownBlock = some k → k ≠ bf) (hc : ∀ k,c.ownBlock = some k → u.ownBlock = some k ∨ W.heap.size ≤ k) : KpF bf X W (W1.setCell ⟨bf,0,none⟩ c) where
  size:=by have:=hg.size; simpa using this
  same:=fun k ob hk _ hn => by
    have hkb : k ≠ bf:=fun e => hn ⟨heap_lt hk,Or.inr (Or.inl e)⟩
    have hku : u.ownBlock ≠ some k:=fun e => hn ⟨heap_lt hk,Or.inr (Or.inr ⟨u,hB.cell,e⟩)⟩
    have h1:=(hg.block k (heap_lt hk) (Ne.symm hku)).trans hk
    simp [World.setCell,Array.getElem?_modify,h1,Ne.symm hkb]
  row:=fun k hf => by
    have hb1 : Boxed W1 bf t u:=hB.kept hg (fun e => hub bf e.symm rfl)
    rcases Nat.lt_or_ge k W.heap.size with hk | hk
    · refine Or.inl ⟨hk,?_⟩
      rcases hf.2 with h1 | h1 | ⟨u',h1,h2⟩
      · exact Or.inl h1
      · exact Or.inr (Or.inl h1)
      · have : (W1.setCell ⟨bf,0,none⟩ c).cell? ⟨bf,0,none⟩ = some c:=by
          simp [World.cell?,World.setCell,Array.getElem?_modify,show W1.heap[bf]? = _ from hb1]
        rw [this] at h1
        injection h1 with h1
        rw [← h1] at h2
        rcases hc k h2 with h3 | h3
        · exact Or.inr (Or.inr ⟨u,hB.cell,h3⟩)
        · omega
    · exact Or.inr hk
structure Yc where
  ss : List St
  b : Nat
  off : Nat
  cap : Nat
  fi : Bool
  la : Bool
  bf : Nat
  bw : Nat
  bv : Nat
  ba : Nat
structure Yc.Good (c : Yc) : Prop where
  fault : stepsF c.ss = 0
  fb : c.bf ≠ c.b
  fw : c.bf ≠ c.bw
  fv : c.bf ≠ c.bv
  fa : c.bf ≠ c.ba
abbrev Yc.v (c : Yc) : Value:=.func (.func 151) #[] #[.pointer (some ⟨c.bf,0,none⟩),.pointer (some ⟨c.bw,0,none⟩),.pointer (some ⟨c.bv,0,none⟩),.pointer (some ⟨c.ba,0,none⟩)]
structure Yc.At (c : Yc) (w : World) (S : List Nat) : Prop where
  steps : SsAt w c.b c.off c.ss
  r0 : w.cell? ⟨c.bw,0,none⟩ = some (.slice (some ⟨c.b,c.off,none⟩) c.ss.length c.cap)
  a0 : w.cell? ⟨c.ba,0,none⟩ = some (.bool c.fi)
  a1 : w.cell? ⟨c.ba,1,none⟩ = some (.bool c.la)
  v0 : w.cell? ⟨c.bv,0,none⟩ = some c.v
  found : Hq w c.bf (fun j => decide (j ∈ S))
  nod : S.Nodup
  lt : ∀ x ∈ S,x < c.ss.length
  blt : c.b < w.heap.size
theorem Yc.At.len {c : Yc} {w : World} {S : List Nat} (h : c.At w S) : S.length ≤ c.ss.length:=nodup_le _ _ h.nod h.lt
theorem SsAt.grown {w w' : World} {b off : Nat} {ss : List St} {row : Option Nat} (h : SsAt w b off ss) (hg : w.grownBy w' row) (hlt : b < w.heap.size) (hne : some b ≠ row) : SsAt w' b off ss:=fun i n hi => by
  obtain ⟨h0,h1,h2,h3,h4,h5,h6⟩:=h i n hi
  have key : ∀ o,w'.cell? ⟨b,o,none⟩ = w.cell? ⟨b,o,none⟩:=fun o => World.cell?_of_block (a:=⟨b,o,none⟩) (hg.block b hlt hne)
  exact ⟨(key _).trans h0,(key _).trans h1,(key _).trans h2,(key _).trans h3,(key _).trans h4,(key _).trans h5,(key _).trans h6⟩
theorem Yc.At.turn {c : Yc} (hc : c.Good) {w w' : World} {S S' : List Nat} (h : c.At w S) (hg : w.grownBy w' (some c.bf)) (hf : Hq w' c.bf (fun j => decide (j ∈ S'))) (hn : S'.Nodup) (hl : ∀ x ∈ S',x < c.ss.length) : c.At w' S':=by
  have key : ∀ k o v,c.bf ≠ k → w.cell? ⟨k,o,none⟩ = some v → w'.cell? ⟨k,o,none⟩ = some v:=fun k o v hk hv =>
    (World.cell?_of_block (a:=⟨k,o,none⟩) (hg.block k (cell_lt hv) (by intro e; injection e with e; exact hk e.symm))).trans hv
  exact ⟨h.steps.grown hg h.blt (by intro e; injection e with e; exact hc.fb e.symm),key _ _ _ hc.fw h.r0,key _ _ _ hc.fa h.a0,key _ _ _ hc.fa h.a1,key _ _ _ hc.fv h.v0,hf,hn,hl,Nat.lt_of_lt_of_le h.blt hg.size⟩
theorem Yc.At.below {c : Yc} {w w' : World} {S : List Nat} (h : c.At w S) (hb : Below w.heap.size w w') : c.At w' S where
  steps:=h.steps.below hb h.blt
  r0:=(hb.cell (p:=⟨c.bw,0,none⟩) (cell_lt h.r0)).trans h.r0
  a0:=(hb.cell (p:=⟨c.ba,0,none⟩) (cell_lt h.a0)).trans h.a0
  a1:=(hb.cell (p:=⟨c.ba,1,none⟩) (cell_lt h.a0)).trans h.a1
  v0:=(hb.cell (p:=⟨c.bv,0,none⟩) (cell_lt h.v0)).trans h.v0
  found:=h.found.below hb h.found.lt
  nod:=h.nod
  lt:=h.lt
  blt:=Nat.lt_of_lt_of_le h.blt hb.size
theorem withP_snoc (S : List Nat) (k : Nat) : withP (fun j => decide (j ∈ S)) k = fun j => decide (j ∈ S ++ [k]):=by
  funext j
  unfold withP
  by_cases h : j = k
  · subst h; simp
  · simp [h]
def YvP (c : Yc) (S : List Nat) (K : List Nat) (w : World) (e : Ending) (w' : World) : Prop:=∃ v S',e = .returned v ∧ c.At w' S' ∧ Vst c.ss (tx c.fi c.la) (pc c.fi) S S' K ∧ w.grownBy w' (some c.bf)
def YvOk (c : Yc) (f : Nat) : Prop:=∀ (S : List Nat) (k : Nat) (w : World),c.ss.length ≤ S.length + f → k < c.ss.length → c.At w S → Calls Tryz.prog 151 #[.int .i64 (k : Int),.pointer (some ⟨c.bf,0,none⟩),.pointer (some ⟨c.bw,0,none⟩),.pointer (some ⟨c.bv,0,none⟩),.pointer (some ⟨c.ba,0,none⟩)] w (YvP c S [k] w)
theorem yvisit_seen (c : Yc) (hc : c.Good) (S : List Nat) (k : Nat) (w : World) (hkl : k < c.ss.length) (h : c.At w S) (hk : k ∈ S) : Calls Tryz.prog 151 #[.int .i64 (k : Int),.pointer (some ⟨c.bf,0,none⟩),.pointer (some ⟨c.bw,0,none⟩),.pointer (some ⟨c.bv,0,none⟩),.pointer (some ⟨c.ba,0,none⟩)] w (YvP c S [k] w):=by
  obtain ⟨h200,hpos,hst⟩:=stepsF_zero hc.fault
  obtain ⟨p,hp⟩ : ∃ p,p = fun j => decide (j ∈ S):=⟨_,rfl⟩
  have hpk : p k = true:=by rw [hp]; simp [hk]
  have hF:=h.found
  rw [← hp] at hF
  have C1:=hid (shas_any p k (by omega) w)
  rw [hpk] at C1
  obtain ⟨c0,c1,c2,c3⟩:=hF.all
  have HP : Hid (∀ v w1,Below w.heap.size w w1 → YvP c S [k] w (.returned v) w1):=fun v w1 hb => ⟨v,S,rfl,h.below hb,Vst.refl _ _ _ _ _ (fun x hx => by rw [List.mem_singleton.1 hx]; exact hk),gr_below hb _⟩
  unfold stV at C1
  clear h hst hF hp
  go_enter Tryz.func151,Tryz.ntmps151
  go_wp2_with fail
  refine Calls.mono C1.out ?_
  rintro e w1 ⟨rfl,hb⟩
  go_wp2
  first | go_end0 | go_ret
  exact HP.out _ _ hb
theorem yvisit_new (c : Yc) (hc : c.Good) (f : Nat) (ih : YvOk c f) (S : List Nat) (k : Nat) (w : World) (hfu : c.ss.length ≤ S.length + (f + 1)) (hkl : k < c.ss.length) (h : c.At w S) (hk : ¬ k ∈ S) : Calls Tryz.prog 151 #[.int .i64 (k : Int),.pointer (some ⟨c.bf,0,none⟩),.pointer (some ⟨c.bw,0,none⟩),.pointer (some ⟨c.bv,0,none⟩),.pointer (some ⟨c.ba,0,none⟩)] w (YvP c S [k] w):=by
  obtain ⟨h200,hpos,hst⟩:=stepsF_zero hc.fault
  obtain ⟨n,hn⟩ : ∃ n,c.ss[k]? = some n:=⟨c.ss[k],List.getElem?_eq_getElem hkl⟩
  have HRG:=hid (hst n (List.mem_of_getElem? hn)).1
  obtain ⟨p,hp⟩ : ∃ p,p = fun j => decide (j ∈ S):=⟨_,rfl⟩
  have hpk : p k = false:=by rw [hp]; simp [hk]
  have hF:=h.found
  rw [← hp] at hF
  have C1:=hid (shas_any p k (by omega) w)
  rw [hpk] at C1
  have C2:=hid (fun w1 => swith_any p k (by omega) w1)
  obtain ⟨c0,c1,c2,c3⟩:=hF.all
  have HH:=hid h
  have HF:=hid hF
  have HN:=hid hn
  have HIH:=hid ih
  have HC:=hid hc
  have HKK:=hid hk
  have HPP:=hid hp
  unfold stV at C1 C2
  clear h hst hF hp ih hc hk hn
  go_enter Tryz.func151,Tryz.ntmps151
  go_wp2_with fail
  refine Calls.mono C1.out ?_
  rintro e w1 ⟨rfl,hb1⟩
  have hF1:=HF.out.below hb1 HF.out.lt
  obtain ⟨d0,d1,d2,d3⟩:=hF1.all
  have HB1:=hid hb1
  have HF1:=hid hF1
  clear hb1 hF1 c0 c1 c2 c3 C1
  go_wp2_with fail
  refine Calls.mono (C2.out w1) ?_
  rintro e w2 ⟨rfl,hb2⟩
  have hF2:=HF1.out.below hb2 HF1.out.lt
  obtain ⟨c0,c1,c2,c3⟩:=hF2.all
  obtain ⟨f0,f1,f2,f3⟩:=hF2.frz
  have hb : Below w.heap.size w w2:=HB1.out.trans (hb2.mono HB1.out.size)
  have hA2:=HH.out.below hb
  obtain ⟨W4,hW4⟩ : ∃ W4,putS w2 c.bf (withP p k) = W4:=⟨_,rfl⟩
  have hg4 : w.grownBy W4 (some c.bf):=by rw [← hW4]; exact (gr_below hb _).trans (grown_putS _ _ _)
  have hA4 : c.At W4 (S ++ [k]):=by
    refine hA2.turn HC.out (w':=W4) (by rw [← hW4]; exact grown_putS _ _ _) ?_ ?_ ?_
    · rw [← hW4,← withP_snoc,← HPP.out]
      exact hF2.putS _
    · rw [List.nodup_append]
      refine ⟨HH.out.nod,by simp,fun x hx y hy => ?_⟩
      rw [List.mem_singleton.1 hy]
      intro e
      exact HKK.out (e ▸ hx)
    · intro x hx
      rcases List.mem_append.1 hx with hx | hx
      · exact HH.out.lt x hx
      · rw [List.mem_singleton.1 hx]; exact hkl
  have r0:=hA4.r0
  obtain ⟨s0,s1,s2,s3,s4,s5,s6⟩:=hA4.steps k n HN.out
  have g0 : (0 : Int) ≤ (k : Int):=by omega
  have g1 : (k : Int) < (c.ss.length : Int):=by omega
  have hop : n.op = 1 ∨ n.op = 2 ∨ n.op = 3 ∨ n.op = 4 ∨ n.op = 5:=by
    have:=HRG.out
    unfold stRange at this
    omega
  clear hF2 hb2 hb hA2 d0 d1 d2 d3 HB1 HF1 C2 HF
  obtain ⟨W5,hW5⟩ : ∃ W5,W4.alloc (.cells #[.int .i64 n.op,.int .u64 n.c.a,.int .u64 n.c.b,.int .u64 n.c.c,.int .u64 n.c.d,.int .i64 n.x,.int .i64 n.y] 158) = W5:=⟨_,rfl⟩
  have hb5 : Below W4.heap.size W4 W5:=by rw [← hW5]; exact (Below.refl _ _).alloc (Nat.le_refl _) _
  have hA5:=hid (hA4.below hb5)
  have hg5 : Hid (w.grownBy W5 (some c.bf)):=hg4.trans (gr_below hb5 _)
  have hh5 : W5.heap[W4.heap.size]? = some (.cells #[.int .i64 n.op,.int .u64 n.c.a,.int .u64 n.c.b,.int .u64 n.c.c,.int .u64 n.c.d,.int .i64 n.x,.int .i64 n.y] 158 (0,0)):=by rw [← hW5]; exact heap_alloc_new W4 _
  have hne5 : c.bf ≠ W4.heap.size:=by have:=hA4.found.lt; omega
  have d0:=Lib.cell_of_heap hh5 0
  have d2:=Lib.cell_of_heap hh5 5
  have d3:=Lib.cell_of_heap hh5 6
  simp only [List.getElem?_toArray,List.getElem?_cons_zero,List.getElem?_cons_succ] at d0 d2 d3
  have HM : Hid (∀ w',W5.grownBy w' (some c.bf) → w'.cell? ⟨W4.heap.size,6,none⟩ = some (.int .i64 n.y)):=fun w' hg => by
    have h1:=(hg.block W4.heap.size (heap_lt hh5) (by intro e; injection e with e; exact hne5 e.symm)).trans hh5
    exact (Lib.cell_of_heap h1 6).trans rfl
  have HFU:=hid hfu
  have q0:=hA5.out.a0
  have q1:=hA5.out.a1
  have q2:=hA5.out.v0
  clear hA4 hg4 hb5 hh5 hne5 hfu
  have HXX : Hid ((n.op = 1 ∨ n.op = 2 ∨ n.op = 3 ∨ n.op = 4) → 0 ≤ n.x ∧ n.x < (c.ss.length : Int)):=fun h => by
    have:=HRG.out
    unfold stRange at this
    omega
  have HYY : Hid (n.op = 2 → 0 ≤ n.y ∧ n.y < (c.ss.length : Int)):=fun h => by
    have:=HRG.out
    unfold stRange at this
    omega
  -- nothing more
  have idle : Hid ((∀ y,¬ Stp c.ss (tx c.fi c.la) k (pc c.fi) y (pc c.fi)) → ∀ v,YvP c S [k] w (.returned v) W5):=fun hno v =>
    ⟨v,S ++ [k],rfl,hA5.out,(Vst.refl _ _ _ _ [] (by simp)).enter (fun y => ⟨fun h => absurd h (hno y),fun h => by simp at h⟩),hg5.out⟩
  have goX : Hid ((n.op = 1 ∨ n.op = 2 ∨ n.op = 3 ∨ n.op = 4) → ∃ x : Nat,n.x = (x : Int) ∧ n.x.toNat = x ∧ x < c.ss.length ∧ Calls Tryz.prog 151 #[.int .i64 (x : Int),.pointer (some ⟨c.bf,0,none⟩),.pointer (some ⟨c.bw,0,none⟩),.pointer (some ⟨c.bv,0,none⟩),.pointer (some ⟨c.ba,0,none⟩)] W5 (YvP c (S ++ [k]) [x] W5)):=fun h => by
    obtain ⟨h0,h1⟩:=HXX.out h
    refine ⟨n.x.toNat,by omega,rfl,by omega,HIH.out (S ++ [k]) n.x.toNat W5 ?_ (by omega) hA5.out⟩
    have:=HFU.out
    simp
    omega
  have one : Hid (∀ x,n.x.toNat = x → (∀ y,Stp c.ss (tx c.fi c.la) k (pc c.fi) y (pc c.fi) ↔ y = x) → ∀ v e W6,YvP c (S ++ [k]) [x] W5 e W6 → YvP c S [k] w (.returned v) W6):=fun x _ hx v e W6 hp => by
    obtain ⟨v',S',_,hA6,hV6,hg6⟩:=hp
    exact ⟨v,S',rfl,hA6,hV6.enter (fun y => by rw [hx y]; simp),hg5.out.trans hg6⟩
  clear HXX hA5
  rcases hop with h1 | h1 | h1 | h1 | h1
  · -- a byte
    have HP : Hid (∀ v,YvP c S [k] w (.returned v) W5):=idle.out (fun y hy => by rw [stp_stay HN.out] at hy; omega)
    rw [h1] at s0 d0 hW5
    clear idle goX one HM HYY HFU HRG HH HN HIH HC HKK HPP hg5
    go_wp2
    first | go_end0 | go_ret
    exact HP.out _
  · -- a fork
    obtain ⟨x,ex,exn,hxl,CX⟩:=goX.out (Or.inr (Or.inl h1))
    obtain ⟨y,eyn⟩ : ∃ y : Nat,n.y = (y : Int):=⟨n.y.toNat,by have:=HYY.out h1; omega⟩
    have hyl : y < c.ss.length:=by have:=HYY.out h1; omega
    have HYN : Hid (n.y.toNat = y):=by show _ = _; omega
    have HOP:=hid h1
    have HXN:=hid exn
    have CX:=hid CX
    rw [h1] at s0 d0 hW5
    rw [ex] at s5 d2 hW5
    rw [eyn] at s6 d3 hW5 HM
    clear idle goX one HYY HRG HH HC HKK HPP exn h1
    go_wp2_with fail
    refine Calls.mono CX.out ?_
    rintro e W6 ⟨vv,S1,rfl,hA6,hV6,hg6⟩
    have e6:=HM.out W6 hg6
    have v6:=hA6.v0
    have HA6:=hid hA6
    have HV6:=hid hV6
    have HG6:=hid (hg5.out.trans hg6)
    have HF6 : Hid (c.ss.length ≤ S1.length + f):=by
      obtain ⟨m,hm⟩:=hV6.pre
      have:=HFU.out
      show _ ≤ _
      rw [hm]
      simp
      omega
    clear hA6 hV6 hg6 q0 q1 q2 d0 d2 d3 HM
    go_wp2_with fail
    refine Calls.mono (HIH.out S1 y W6 HF6.out hyl HA6.out) ?_
    rintro e W7 ⟨vv2,S2,rfl,hA7,hV7,hg7⟩
    have HP : Hid (∀ v,YvP c S [k] w (.returned v) W7):=fun v => ⟨v,S2,rfl,hA7,(HV6.out.comp hV7).enter (fun z => by
      rw [stp_stay HN.out]
      have a1:=HOP.out
      have a2:=HXN.out
      have a3:=HYN.out
      simp
      constructor <;> intro hh <;> omega),HG6.out.trans hg7⟩
    clear hA7 hV7 hg7 v6 e6
    go_wp2
    first | go_end0 | go_ret
    exact HP.out _
  · -- the text's beginning
    cases hfi : c.fi with
    | true =>
      obtain ⟨x,ex,exn,hxl,CX⟩:=goX.out (Or.inr (Or.inr (Or.inl h1)))
      have HP : Hid (∀ v e W6,YvP c (S ++ [k]) [x] W5 e W6 → YvP c S [k] w (.returned v) W6):=one.out x exn (fun y => by
        rw [stp_stay HN.out]
        have:=(tx_first c.fi).2 hfi
        constructor <;> intro hh <;> omega)
      have CX:=hid CX
      rw [h1] at s0 d0 hW5
      rw [ex] at s5 d2 hW5
      rw [hfi] at q0
      clear idle goX one HYY HRG HH HC HKK HPP exn h1 HM HFU HIH HN hg5
      go_wp2_with fail
      refine Calls.mono CX.out ?_
      intro e W6 hp6
      obtain ⟨v6,_,rfl,_⟩:=id hp6
      go_wp2
      first | go_end0 | go_ret
      exact HP.out _ _ _ hp6
    | false =>
      have HP : Hid (∀ v,YvP c S [k] w (.returned v) W5):=idle.out (fun y hy => by
        rw [stp_stay HN.out] at hy
        have : ¬ pc c.fi = 0:=fun e => by have:=(tx_first c.fi).1 e; rw [hfi] at this; cases this
        omega)
      rw [h1] at s0 d0 hW5
      rw [hfi] at q0
      clear idle goX one HM HYY HFU HRG HH HN HIH HC HKK HPP hg5
      go_wp2
      first | go_end0 | go_ret
      exact HP.out _
  · -- the text's end
    cases hla : c.la with
    | true =>
      obtain ⟨x,ex,exn,hxl,CX⟩:=goX.out (Or.inr (Or.inr (Or.inr h1)))
      have HP : Hid (∀ v e W6,YvP c (S ++ [k]) [x] W5 e W6 → YvP c S [k] w (.returned v) W6):=one.out x exn (fun y => by
        rw [stp_stay HN.out]
        have:=(tx_last c.fi c.la).2 hla
        constructor <;> intro hh <;> omega)
      have CX:=hid CX
      rw [h1] at s0 d0 hW5
      rw [ex] at s5 d2 hW5
      rw [hla] at q1
      clear idle goX one HYY HRG HH HC HKK HPP exn h1 HM HFU HIH HN hg5
      go_wp2_with fail
      refine Calls.mono CX.out ?_
      intro e W6 hp6
      obtain ⟨v6,_,rfl,_⟩:=id hp6
      go_wp2
      first | go_end0 | go_ret
      exact HP.out _ _ _ hp6
    | false =>
      have HP : Hid (∀ v,YvP c S [k] w (.returned v) W5):=idle.out (fun y hy => by
        rw [stp_stay HN.out] at hy
        have : ¬ pc c.fi = (tx c.fi c.la).length:=fun e => by have:=(tx_last c.fi c.la).1 e; rw [hla] at this; cases this
        omega)
      rw [h1] at s0 d0 hW5
      rw [hla] at q1
      clear idle goX one HM HYY HFU HRG HH HN HIH HC HKK HPP hg5
      go_wp2
      first | go_end0 | go_ret
      exact HP.out _
  · -- the program's end
    have HP : Hid (∀ v,YvP c S [k] w (.returned v) W5):=idle.out (fun y hy => by rw [stp_stay HN.out] at hy; omega)
    rw [h1] at s0 d0 hW5
    clear idle goX one HM HYY HFU HRG HH HN HIH HC HKK HPP hg5
    go_wp2
    first | go_end0 | go_ret
    exact HP.out _
theorem yvisit_any (c : Yc) (hc : c.Good) : ∀ f,YvOk c f
  | 0 => by
    intro S k w hfu hkl h
    have hS:=h.len
    refine yvisit_seen c hc S k w hkl h ?_
    refine Classical.byContradiction fun hk => ?_
    have:=nodup_le c.ss.length (k :: S) (List.nodup_cons.2 ⟨hk,h.nod⟩) (fun x hx => by
      rcases List.mem_cons.1 hx with rfl | hx
      · exact hkl
      · exact h.lt x hx)
    simp at this
    omega
  | f + 1 => by
    intro S k w hfu hkl h
    by_cases hk : k ∈ S
    · exact yvisit_seen c hc S k w hkl h hk
    · exact yvisit_new c hc f (yvisit_any c hc f) S k w hfu hkl h hk
end Go.Proofs.YtcjghhedphmhkaaGreatDoor
