/- Own texts. -/
import Derived.Test.YtcjghhedphmhkaaGreatDoorY03
import Derived.Laws.BytesArg
set_option linter.unusedSimpArgs false
set_option linter.unusedVariables false
set_option maxRecDepth 100000
set_option maxHeartbeats 8000000
namespace Go.Proofs.YtcjghhedphmhkaaGreatDoor
open Go.RowKit
theorem runEnd_any (k : C4) (i : Int) (w : World) (h0 : 0 ≤ i) (h1 : i ≤ 256) :
    Calls Tryz.prog 160 #[k.v,.int .i64 i] w fun e w' => e = .returned (.int .i64 (rEnd k.p (256 - i.toNat) i.toNat)) ∧ Below w.heap.size w w':=by
  obtain ⟨n,rfl⟩:=Int.eq_ofNat_of_zero_le h0
  rw [Int.toNat_natCast]
  go_enter Tryz.func160,Tryz.ntmps160
  go_wp2
  go_loopw [1] (fun v wr => ∃ j : Nat,j ≤ 256 ∧ v = .int .i64 j ∧ Hid (rEnd k.p (256 - j) j = rEnd k.p (256 - n) n) ∧ Below w.heap.size w wr ∧ Hb wr w.heap.size k) (fun v _ => 256 - (intOf v).toNat)
  case atStart => exact ⟨n,by omega,rfl,rfl,(Below.refl _ _).alloc (Nat.le_refl _) _,Hb.new _ k _ rfl⟩
  case round =>
    obtain ⟨j,hj,rfl,HE,hB,hK⟩:=hrel
    obtain ⟨c0,c1,c2,c3,e0,e1,e2,e3⟩:=hK.all
    by_cases hlt : j < 256
    · have i1 : (j : Int) < 256:=by omega
      by_cases hp : k.hasI j = true
      · go_wp2_with (first | (go_at_call 141; refine (has_any k _ _ (by omega) (by omega)).mono ?_; rintro e w' ⟨rfl,hb⟩))
        refine ⟨⟨j + 1,by omega,by go_num,?_,?_,?_⟩,by simp [intOf]; omega⟩
        · show _ = _
          rw [← HE.out,rEnd_yes k.p j hlt hp]
        · exact hB.trans (hb.mono hB.size)
        · exact hK.below hb hK.lt
      · have hp2 : k.hasI j = false:=by simpa using hp
        clear hp
        go_wp2_with (first | (go_at_call 141; refine (has_any k _ _ (by omega) (by omega)).mono ?_; rintro e w' ⟨rfl,hb⟩))
        go_ret
        exact ⟨ret_int (by rw [← HE.out,rEnd_no k.p j hlt hp2]),hB.trans (hb.mono hB.size)⟩
    · have hj2 : j = 256:=by omega
      subst hj2
      go_wp2
      go_ret
      exact ⟨ret_int (by rw [← HE.out]; rfl),hB⟩
theorem isBuilder_below {T e : TypeId} {B b : Nat} {bs : List Value} {w w' : World} (h : Lib.IsBuilder T e B b bs w) (hb : Below w.heap.size w w') : Lib.IsBuilder T e B b bs w':=by
  have key : ∀ p,Lib.BuilderAt T e B b p bs w → Lib.BuilderAt T e B b p bs w':=by
    intro p h
    have hlt:=h.lt
    obtain ⟨hB,v,hbk,hown,hne⟩:=h
    refine ⟨hB,v,(hb.block b hlt).trans hbk,?_,hne⟩
    refine hown.kept (row:=none) ⟨hb.os,hb.tape,hb.output,hb.size,fun k hk _ => hb.block k hk⟩ ?_
    cases hv : v.ownBlock with
    | none => exact Or.inl rfl
    | some x => exact Or.inr (by simp)
  rcases h with h | h
  · exact Or.inl (key _ h)
  · exact Or.inr (key _ h)
theorem runEnd_ex (k : C4) (i : Nat) (w : World) (h : i ≤ 256) :
    Calls Tryz.prog 160 #[k.v,.int .i64 i] w fun e w' => ∃ en : Nat,e = .returned (.int .i64 en) ∧ Hid (rEnd k.p (256 - i) i = en) ∧ i ≤ en ∧ en ≤ 256 ∧ Below w.heap.size w w':=by
  refine (runEnd_any k i w (by omega) (by omega)).mono ?_
  rintro e w' ⟨rfl,hb⟩
  have hle:=rEnd_le k.p (256 - i) i
  exact ⟨rEnd k.p (256 - i) i,rfl,Eq.refl _,by omega,by omega,hb⟩
theorem runText_n (i en : Nat) (w : World) (h : i < en) (h2 : en ≤ 256) :
    Calls Tryz.prog 162 #[.int .i64 i,.int .i64 ((en : Int) - 1)] w fun e w' => e = .returned (.string ⟨(rt i (en - 1)).toArray⟩) ∧ Below w.heap.size w w':=by
  refine (runText_any i ((en : Int) - 1) w (by omega) (by omega) (by omega)).mono ?_
  rintro e w' ⟨rfl,hb⟩
  have ht : ((en : Int) - 1).toNat = en - 1:=by omega
  rw [ht]
  exact ⟨rfl,hb⟩
theorem writeString_l (B b : Nat) (acc l : List UInt8) (w : World) (h : Lib.IsBuilder 253 5 B b (Lib.byteCells acc) w) (hlen : acc.length + l.length ≤ 140737488355328) (hBw : B ≤ w.heap.size) :
    Calls Tryz.prog 161 #[.pointer (some ⟨b,0,none⟩),.string ⟨l.toArray⟩] w fun e w' => (∃ v,e = .returned v) ∧ Lib.IsBuilder 253 5 B b (Lib.byteCells (acc ++ l)) w' ∧ Below B w w':=by
  refine (writeString_any B b _ ⟨l.toArray⟩ w h (by rw [Lib.byteCells_length,size_str]; exact hlen) hBw).mono ?_
  rintro e w' ⟨rfl,h1,hb⟩
  refine ⟨⟨_,rfl⟩,Or.inr ?_,hb⟩
  rw [Lib.byteCells_append]
  exact h1
theorem runsL_step (p : Nat → Bool) (f i en : Nat) (acc R : List UInt8) (hi : i < 256) (hE : rEnd p (256 - i) i = en) (h : acc ++ runsL p (f + 1) i = R) :
    (if i < en then acc ++ rt i (en - 1) else acc) ++ runsL p f (en + 1) = R:=by
  rw [runsL,if_pos hi,hE] at h
  rw [← h]
  split <;> simp
theorem runsL_end (p : Nat → Bool) (f i : Nat) (acc R : List UInt8) (hi : ¬ i < 256) (h : acc ++ runsL p f i = R) : acc = R:=by
  rw [← h]
  cases f <;> simp [runsL,hi]
theorem runs_any (k : C4) (w : World) :
    Calls Tryz.prog 158 #[k.v] w fun e w' => e = .returned (.string ⟨(runsL k.p 256 0).toArray⟩) ∧ Below w.heap.size w w':=by
  go_enter Tryz.func158,Tryz.ntmps158
  go_wp2
  go_loopw [4,5] (fun v _ wr => ∃ (i f : Nat) (acc : List UInt8),i ≤ 257 ∧ 256 ≤ f + i ∧ v = .int .i64 i ∧ acc.length ≤ 9 * i ∧ Hid (acc ++ runsL k.p f i = runsL k.p 256 0) ∧ Below w.heap.size w wr ∧ Hb wr w.heap.size k ∧ Lib.IsBuilder 253 5 (w.heap.size + 1) (w.heap.size + 1) (Lib.byteCells acc) wr) (fun v _ _ => 257 - (intOf v).toNat)
  case atStart =>
    refine ⟨0,256,[],by omega,by omega,rfl,by simp,List.nil_append _,?_,?_,?_⟩
    · exact ((Below.refl _ _).alloc (Nat.le_refl _) _).alloc (by simp) _
    · exact (Hb.new _ k _ rfl).alloc _
    · have:=Lib.fresh_isBuilder 253 5 (w.alloc (.cells k.cells 104))
      simp only [World.size_alloc] at this
      exact this
  case round =>
    obtain ⟨i,f,acc,hi,hf,rfl,hl,HE,hB,hK,hS⟩:=hrel
    obtain ⟨c0,c1,c2,c3,e0,e1,e2,e3⟩:=hK.all
    have hz:=hK.lt
    by_cases hlt : i < 256
    · have i1 : (i : Int) < 256:=by omega
      obtain ⟨f,rfl⟩ : ∃ g,f = g + 1:=⟨f - 1,by omega⟩
      go_wp2_with fail
      refine (runEnd_ex k i _ (by omega)).mono ?_
      rintro e w1 ⟨en,rfl,HG,hle,hen,hb⟩
      have hS1:=isBuilder_below hS hb
      have hK1:=hK.below hb hz
      have hB1:=hB.trans (hb.mono hB.size)
      have HR : Hid _:=runsL_step k.p f i en acc _ hlt HG.out HE.out
      by_cases hgt : i < en
      · have g1 : (i : Int) < (en : Int):=by omega
        go_wp2_with fail
        refine (runText_n i en _ (by omega) (by omega)).mono ?_
        rintro e w2 ⟨rfl,hb2⟩
        have hS2:=isBuilder_below hS1 hb2
        have hK2:=hK1.below hb2 hK1.lt
        have hB2:=hB1.trans (hb2.mono hB1.size)
        have hlr:=rt_len i (en - 1)
        go_wp2_with fail
        refine (writeString_l (w.heap.size + 1) (w.heap.size + 1) acc (rt i (en - 1)) _ hS2 (by omega) (by have:=hK2.lt; omega)).mono ?_
        rintro e w3 ⟨⟨v3,rfl⟩,hS3,hb3⟩
        go_wp2
        refine ⟨⟨en + 1,f,acc ++ rt i (en - 1),by omega,by omega,by go_num,by simp; omega,?_,?_,?_,?_⟩,by simp [intOf]; omega⟩
        · have:=HR.out
          rw [if_pos hgt] at this
          exact this
        · exact hB2.trans (hb3.mono (by omega))
        · exact hK2.below hb3 (by omega)
        · exact hS3
      · have g1 : ¬ (i : Int) < (en : Int):=by omega
        go_wp2
        refine ⟨⟨en + 1,f,acc,by omega,by omega,by go_num,by omega,?_,?_,?_,?_⟩,by simp [intOf]; omega⟩
        · have:=HR.out
          rw [if_neg hgt] at this
          exact this
        · exact hB1
        · exact hK1
        · exact hS1
    · have i1 : ¬ (i : Int) < 256:=by omega
      have HA : Hid _:=runsL_end k.p f i acc _ hlt HE.out
      go_wp2_with fail
      refine (string_any (w.heap.size + 1) (w.heap.size + 1) acc _ hS (by omega)).mono ?_
      rintro e w1 ⟨rfl,hb⟩
      go_wp2
      go_ret
      exact ⟨by rw [HA.out]; rfl,hB.trans (hb.mono (by omega))⟩
theorem runs256_any (k : C4) (w : World) :
    Calls Tryz.prog 158 #[k.v] w fun e w' => e = .returned (.string ⟨(runs256 k).toArray⟩) ∧ Below w.heap.size w w':=runs_any k w
theorem text_dot (k : C4) (w : World) (hd : k.eqb (C4.ofL [10]).not = true) :
    Calls Tryz.prog 149 #[k.v] w fun e w' => e = .returned (.string ⟨(textL k).toArray⟩) ∧ Below w.heap.size w w':=by
  have HT : Hid _:=textL_dot k hd
  have he:=eq4
  have hten : (⟨#[10]⟩ : ByteArray).size ≤ maxLen:=by unfold maxLen; decide
  have hrl:=runs256_len k
  have hrs : (⟨(runs256 k).toArray⟩ : ByteArray).size ≤ 2304:=by rw [size_str]; exact hrl
  go_enter Tryz.func149,Tryz.ntmps149
  go_wp2_with fail
  have hn:=Hb.new w k _ rfl
  have k0:=cell_regrown hn.c0
  have k1:=cell_regrown hn.c1
  have k2:=cell_regrown hn.c2
  have k3:=cell_regrown hn.c3
  refine wp_region_quiet_below (by kernel_rfl) (by kernel_rfl) ?_
  repeat (quiet_step (first
    | (go_at_call 110; exact Calls.regrown_of (of_any _ _ hten))
    | (go_at_call 131; exact Calls.regrown_of (not_any _ _))))
  refine wpQuiet_nil ?_
  intro _ hw'
  obtain ⟨⟨dq,osq⟩,hw''⟩:=hw'
  have hb1:=below_regrown (w.alloc (.cells k.cells 104)) dq osq
  have hw1 : Below w.heap.size w _:=((Below.refl w.heap.size w).alloc (Nat.le_refl _) (.cells k.cells 104)).trans (hb1.mono (by simp))
  have hK:=hn.below hb1 hn.lt
  subst hw''
  clear k0 k1 k2 k3
  generalize hgw : Go.Sort.grow (redrawn (w.alloc (.cells k.cells 104)) dq) osq = w1 at *
  clear hgw
  obtain ⟨c0,c1,c2,c3,e0,e1,e2,e3⟩:=hK.all
  go_wp2
  go_ret
  exact ⟨ret_str (by rw [HT.out]),hw1⟩
theorem text_one (k : C4) (w : World) (hd : k.eqb (C4.ofL [10]).not = false) (hm : (k.many 4 == 1) = true) :
    Calls Tryz.prog 149 #[k.v] w fun e w' => e = .returned (.string ⟨(textL k).toArray⟩) ∧ Below w.heap.size w w':=by
  have HT : Hid _:=textL_one k hd hm
  have he:=eq4
  have hten : (⟨#[10]⟩ : ByteArray).size ≤ maxLen:=by unfold maxLen; decide
  have hrl:=runs256_len k
  have hrs : (⟨(runs256 k).toArray⟩ : ByteArray).size ≤ 2304:=by rw [size_str]; exact hrl
  go_enter Tryz.func149,Tryz.ntmps149
  go_wp2_with fail
  have hn:=Hb.new w k _ rfl
  have k0:=cell_regrown hn.c0
  have k1:=cell_regrown hn.c1
  have k2:=cell_regrown hn.c2
  have k3:=cell_regrown hn.c3
  refine wp_region_quiet_below (by kernel_rfl) (by kernel_rfl) ?_
  repeat (quiet_step (first
    | (go_at_call 110; exact Calls.regrown_of (of_any _ _ hten))
    | (go_at_call 131; exact Calls.regrown_of (not_any _ _))))
  refine wpQuiet_nil ?_
  intro _ hw'
  obtain ⟨⟨dq,osq⟩,hw''⟩:=hw'
  have hb1:=below_regrown (w.alloc (.cells k.cells 104)) dq osq
  have hw1 : Below w.heap.size w _:=((Below.refl w.heap.size w).alloc (Nat.le_refl _) (.cells k.cells 104)).trans (hb1.mono (by simp))
  have hK:=hn.below hb1 hn.lt
  subst hw''
  clear k0 k1 k2 k3
  generalize hgw : Go.Sort.grow (redrawn (w.alloc (.cells k.cells 104)) dq) osq = w1 at *
  clear hgw
  obtain ⟨c0,c1,c2,c3,e0,e1,e2,e3⟩:=hK.all
  go_wp2_with fail
  refine (many_any k _).mono ?_
  rintro e w2 ⟨rfl,hb2⟩
  have hK2:=hK.below hb2 hK.lt
  obtain ⟨d0,d1,d2,d3,f0,f1,f2,f3⟩:=hK2.all
  go_wp2_with fail
  refine (runs256_any k _).mono ?_
  rintro e w3 ⟨rfl,hb3⟩
  go_wp2
  go_ret
  have h2:=hw1.trans (hb2.mono hw1.size)
  refine ⟨ret_str ?_,h2.trans (hb3.mono h2.size)⟩
  rw [HT.out]
theorem text_more (k : C4) (w : World) (hd : k.eqb (C4.ofL [10]).not = false) (hm : (k.many 4 == 1) = false) :
    Calls Tryz.prog 149 #[k.v] w fun e w' => e = .returned (.string ⟨(textL k).toArray⟩) ∧ Below w.heap.size w w':=by
  have HT : Hid _:=textL_more k hd hm
  have he:=eq4
  have hten : (⟨#[10]⟩ : ByteArray).size ≤ maxLen:=by unfold maxLen; decide
  have hrl:=runs256_len k
  have hrs : (⟨(runs256 k).toArray⟩ : ByteArray).size ≤ 2304:=by rw [size_str]; exact hrl
  go_enter Tryz.func149,Tryz.ntmps149
  go_wp2_with fail
  have hn:=Hb.new w k _ rfl
  have k0:=cell_regrown hn.c0
  have k1:=cell_regrown hn.c1
  have k2:=cell_regrown hn.c2
  have k3:=cell_regrown hn.c3
  refine wp_region_quiet_below (by kernel_rfl) (by kernel_rfl) ?_
  repeat (quiet_step (first
    | (go_at_call 110; exact Calls.regrown_of (of_any _ _ hten))
    | (go_at_call 131; exact Calls.regrown_of (not_any _ _))))
  refine wpQuiet_nil ?_
  intro _ hw'
  obtain ⟨⟨dq,osq⟩,hw''⟩:=hw'
  have hb1:=below_regrown (w.alloc (.cells k.cells 104)) dq osq
  have hw1 : Below w.heap.size w _:=((Below.refl w.heap.size w).alloc (Nat.le_refl _) (.cells k.cells 104)).trans (hb1.mono (by simp))
  have hK:=hn.below hb1 hn.lt
  subst hw''
  clear k0 k1 k2 k3
  generalize hgw : Go.Sort.grow (redrawn (w.alloc (.cells k.cells 104)) dq) osq = w1 at *
  clear hgw
  obtain ⟨c0,c1,c2,c3,e0,e1,e2,e3⟩:=hK.all
  go_wp2_with fail
  refine (many_any k _).mono ?_
  rintro e w2 ⟨rfl,hb2⟩
  have hK2:=hK.below hb2 hK.lt
  obtain ⟨d0,d1,d2,d3,f0,f1,f2,f3⟩:=hK2.all
  go_wp2_with fail
  refine (runs256_any k _).mono ?_
  rintro e w3 ⟨rfl,hb3⟩
  go_wp2
  go_ret
  have h2:=hw1.trans (hb2.mono hw1.size)
  refine ⟨ret_str ?_,h2.trans (hb3.mono h2.size)⟩
  have q1 : ({ data:=#[91] } : ByteArray) = ⟨([91] : List UInt8).toArray⟩:=rfl
  have q2 : ({ data:=#[93] } : ByteArray) = ⟨([93] : List UInt8).toArray⟩:=rfl
  rw [HT.out,q1,q2,cat_str,cat_str]
  simp
theorem text_any (k : C4) (w : World) :
    Calls Tryz.prog 149 #[k.v] w fun e w' => e = .returned (.string ⟨(textL k).toArray⟩) ∧ Below w.heap.size w w':=by
  cases hd : k.eqb dotC
  · cases hm : (k.many 4 == 1)
    · exact text_more k w hd hm
    · exact text_one k w hd hm
  · exact text_dot k w hd
theorem symbol_end (g : Nat) (s : ByteArray) (a : Nat) (v : Value) (w : World) (h : PA w g s a v []) :
    Calls Tryz.prog 134 #[.pointer (some ⟨g,0,none⟩)] w fun e w' => e = .panicked (mis s.size) ∧ Stk w' g ∧ w.grownBy w' (some g):=by
  obtain ⟨c0,c1,c2,c3,f1,f2,f3⟩:=h.rd.all
  have HM:=hid (take_none g s a v w h)
  clear h
  go_enter Tryz.func134,Tryz.ntmps134
  go_wp2_with fail
  refine Calls.mono HM.out ?_
  rintro e w1 ⟨rfl,hs,hg⟩
  exact ⟨rfl,rfl,hs,hg⟩
theorem conv_byte (c : UInt8) (w : World) : (convert 147 9 (.slice (some ⟨w.heap.size,0,none⟩) 1 1)).run Tryz.prog (w.alloc (.cells #[.int .u8 (c.toNat : Int)] 5)).drew = .ok (.string ⟨#[c]⟩) (w.alloc (.cells #[.int .u8 (c.toNat : Int)] 5)).drew:=by
  have h:=run_convert_bytes_arg (P:=Tryz.prog) (w.alloc (.cells #[.int .u8 (c.toNat : Int)] 5)).drew 147 5 Tryz.underlying147 Tryz.underlying5 w.heap.size 0 1 1 [(c.toNat : Int)] rfl (by
    intro i hi
    have : i = 0:=by omega
    subst this
    simp) 9 Tryz.underlying9
  rw [h]
  congr 2
  simp [strOfNums]
theorem cut_str (s : ByteArray) (a b : Nat) (l r : List UInt8) (h : s.data.toList.drop a = l ++ r) (hb : b = a + l.length) (hs : a + (l ++ r).length = s.size) (w : World) : (Instr.slice 9 (.string s) (some (.int .i64 (a : Int))) (some (.int .i64 (b : Int))) none).run Tryz.prog w = .ok (.string ⟨l.toArray⟩) w:=by
  simp only [List.length_append] at hs
  rw [run_slice_string w 9 s .i64 .i64 (a : Int) (b : Int) Tryz.underlying9 (by omega) (by omega) (by omega)]
  congr 2
  apply ByteArray.ext
  apply Array.toList_inj.1
  simp
  subst hb
  rw [h]
  simp
theorem of_kept (g : Nat) (s : ByteArray) (z : Int) (c : UInt8) (w : World) (h0 : w.cell? ⟨g,0,none⟩ = some (.string s)) (h1 : w.cell? ⟨g,1,none⟩ = some (.int .i64 z)) :
    Calls Tryz.prog 110 #[.string ⟨#[c]⟩] w fun e w' => e = .returned (C4.ofL [c]).v ∧ w'.cell? ⟨g,0,none⟩ = some (.string s) ∧ w'.cell? ⟨g,1,none⟩ = some (.int .i64 z) ∧ Below w.heap.size w w' :=
  (of_any ⟨#[c]⟩ w (by show 1 ≤ _; decide)).mono fun _ _ x => ⟨x.1,(x.2.cell (block_lt_of_cell h0)).trans h0,(x.2.cell (block_lt_of_cell h1)).trans h1,x.2⟩
theorem text_kept (g : Nat) (s : ByteArray) (z : Int) (c : UInt8) (w : World) (h0 : w.cell? ⟨g,0,none⟩ = some (.string s)) (h1 : w.cell? ⟨g,1,none⟩ = some (.int .i64 z)) :
    Calls Tryz.prog 149 #[(C4.ofL [c]).v] w fun e w' => e = .returned (.string ⟨(bt c.toNat).toArray⟩) ∧ w'.cell? ⟨g,0,none⟩ = some (.string s) ∧ w'.cell? ⟨g,1,none⟩ = some (.int .i64 z) ∧ Below w.heap.size w w':=by
  have h:=text_any (C4.ofL [c]) w
  rw [text_single] at h
  exact h.mono fun _ _ x => ⟨x.1,(x.2.cell (block_lt_of_cell h0)).trans h0,(x.2.cell (block_lt_of_cell h1)).trans h1,x.2⟩
theorem symbol_bare (g : Nat) (s : ByteArray) (a : Nat) (v : Value) (c : UInt8) (r : List UInt8) (hc : c ≠ 92) (w : World) (h : PA w g s a v (c :: r)) (ht : bt c.toNat = [c]) :
    Calls Tryz.prog 134 #[.pointer (some ⟨g,0,none⟩)] w fun e w' => e = .returned (.int .u8 (c.toNat : Int)) ∧ PA w' g s (a + 1) v r ∧ w.grownBy w' (some g):=by
  obtain ⟨c0,c1,c2,c3,f1,f2,f3⟩:=h.rd.all
  have HM:=hid (take_some g s a v c r w h)
  have HD:=hid h.at'
  have hne : ((c.toNat : Int) == 92) = false:=by
    simp
    intro e
    exact hc (UInt8.toNat_inj.1 (by simp; omega))
  clear h
  go_enter Tryz.func134,Tryz.ntmps134
  go_wp2_with fail
  refine Calls.mono HM.out ?_
  rintro e w1 ⟨rfl,hp,hg⟩
  clear c0 c1 c2 c3 f1 f2 f3
  have HP:=hid hp
  clear hp
  obtain ⟨c0,c1,c2,c3,f1,f2,f3⟩:=HP.out.rd.all
  rw [show ((a + 1 : Nat) : Int) = ((a : Int) + 1) from by omega] at c1
  have hconv:=conv_byte c
  have hof:=hid (of_kept g s ((a : Int) + 1) c)
  have htx:=hid (text_kept g s ((a : Int) + 1) c)
  have hsl:=cut_str s a (a + 1) [c] r HD.out rfl (by have:=HP.out.le; simp; omega)
  rw [show ((a + 1 : Nat) : Int) = ((a : Int) + 1) from by omega] at hsl
  rw [ht] at htx
  clear ht
  go_wp2_with fail
  refine wp_region_noPanic ?_
  refine wp_region_held_drew (S:=fun w' => w'.cell? ⟨g,0,none⟩ = some (.string s) ∧ w'.cell? ⟨g,1,none⟩ = some (.int .i64 ((a : Int) + 1))) (by kernel_rfl) ?_ (fun hHeld => ?_)
  · go_keep
  refine wpAnyH_take (i:=0) (oi:=_) (v:=?_) rfl (by kernel_rfl) (by kernel_rfl) (by kernel_rfl) (fun _ _ _ h => h) (Or.inl ⟨by rfl,?_⟩) (by assumption) ?_
  rotate_left
  · (intro w hSw; (try dsimp only at hSw); simp only [List.getElem_toArray,List.getElem_cons_zero,List.getElem_cons_succ]; go_simp; try with_reducible rfl)
  simp only [List.getElem_toArray,List.getElem_cons_zero,List.getElem_cons_succ,Act.put,List.setIfInBounds_toArray,List.set_cons_zero,List.set_cons_succ]
  refine wpAnyH_take (i:=5) (oi:=_) (v:=?_) rfl (by kernel_rfl) (by kernel_rfl) (by kernel_rfl) (fun _ _ _ h => h) (Or.inl ⟨by rfl,?_⟩) (by assumption) ?_
  rotate_left
  · (intro w hSw; (try dsimp only at hSw); simp only [List.getElem_toArray,List.getElem_cons_zero,List.getElem_cons_succ]; go_simp; try with_reducible rfl)
  simp only [List.getElem_toArray,List.getElem_cons_zero,List.getElem_cons_succ,Act.put,List.setIfInBounds_toArray,List.set_cons_zero,List.set_cons_succ]
  refine wpAnyH_take (i:=6) (oi:=_) (v:=?_) rfl (by kernel_rfl) (by kernel_rfl) (by kernel_rfl) (fun _ _ _ h => h) (Or.inl ⟨by rfl,?_⟩) (by assumption) ?_
  rotate_left
  · (intro w hSw; (try dsimp only at hSw); simp only [List.getElem_toArray,List.getElem_cons_zero,List.getElem_cons_succ]; go_simp; try with_reducible rfl)
  simp only [List.getElem_toArray,List.getElem_cons_zero,List.getElem_cons_succ,Act.put,List.setIfInBounds_toArray,List.set_cons_zero,List.set_cons_succ]
  refine wpAnyH_take (i:=7) (oi:=_) (v:=?_) rfl (by kernel_rfl) (by kernel_rfl) (by kernel_rfl) (fun _ _ _ h => h) (Or.inl ⟨by rfl,?_⟩) (by assumption) ?_
  rotate_left
  · (intro w hSw; (try dsimp only at hSw); simp only [List.getElem_toArray,List.getElem_cons_zero,List.getElem_cons_succ]; go_simp; try with_reducible rfl)
  simp only [List.getElem_toArray,List.getElem_cons_zero,List.getElem_cons_succ,Act.put,List.setIfInBounds_toArray,List.set_cons_zero,List.set_cons_succ]
  refine wpAnyH_take (i:=8) (oi:=_) (v:=?_) rfl (by kernel_rfl) (by kernel_rfl) (by kernel_rfl) (fun _ _ _ h => h) (Or.inl ⟨by rfl,?_⟩) (by assumption) ?_
  rotate_left
  · (intro w hSw; (try dsimp only at hSw); simp only [List.getElem_toArray,List.getElem_cons_zero,List.getElem_cons_succ]; go_simp; try with_reducible rfl)
  simp only [List.getElem_toArray,List.getElem_cons_zero,List.getElem_cons_succ,Act.put,List.setIfInBounds_toArray,List.set_cons_zero,List.set_cons_succ]
  refine wpAnyH_take (i:=9) (oi:=_) (v:=?_) rfl (by kernel_rfl) (by kernel_rfl) (by kernel_rfl) (fun _ _ _ h => h) (Or.inl ⟨by rfl,?_⟩) (by assumption) ?_
  rotate_left
  · (intro w hSw; (try dsimp only at hSw); simp only [List.getElem_toArray,List.getElem_cons_zero,List.getElem_cons_succ]; go_simp; try with_reducible rfl)
  simp only [List.getElem_toArray,List.getElem_cons_zero,List.getElem_cons_succ,Act.put,List.setIfInBounds_toArray,List.set_cons_zero,List.set_cons_succ]
  refine wpAnyH_take (i:=10) (oi:=_) (v:=?_) rfl (by kernel_rfl) (by kernel_rfl) (by kernel_rfl) (fun _ _ _ h => h) (Or.inl ⟨by rfl,?_⟩) (by assumption) ?_
  rotate_left
  · (intro w hSw; (try dsimp only at hSw); simp only [List.getElem_toArray,List.getElem_cons_zero,List.getElem_cons_succ]; go_simp; try with_reducible rfl)
  simp only [List.getElem_toArray,List.getElem_cons_zero,List.getElem_cons_succ,Act.put,List.setIfInBounds_toArray,List.set_cons_zero,List.set_cons_succ]
  refine wpAnyH_take (i:=11) (oi:=_) (v:=?_) rfl (by kernel_rfl) (by kernel_rfl) (by kernel_rfl) (fun _ _ _ h => h) (Or.inl ⟨by rfl,?_⟩) (by assumption) ?_
  rotate_left
  · (intro w hSw; (try dsimp only at hSw); simp only [List.getElem_toArray,List.getElem_cons_zero,List.getElem_cons_succ]; go_simp; try with_reducible rfl)
  simp only [List.getElem_toArray,List.getElem_cons_zero,List.getElem_cons_succ,Act.put,List.setIfInBounds_toArray,List.set_cons_zero,List.set_cons_succ]
  refine wpAnyH_take (i:=12) (oi:=_) (v:=?_) rfl (by kernel_rfl) (by kernel_rfl) (by kernel_rfl) (fun _ _ _ h => h) (Or.inl ⟨by rfl,?_⟩) (by assumption) ?_
  rotate_left
  · (intro w hSw; (try dsimp only at hSw); simp only [List.getElem_toArray,List.getElem_cons_zero,List.getElem_cons_succ]; go_simp; try with_reducible rfl)
  simp only [List.getElem_toArray,List.getElem_cons_zero,List.getElem_cons_succ,Act.put,List.setIfInBounds_toArray,List.set_cons_zero,List.set_cons_succ]
  refine wpAnyH_take (i:=13) (oi:=_) (v:=?_) rfl (by kernel_rfl) (by kernel_rfl) (by kernel_rfl) (fun _ _ _ h => h) (Or.inl ⟨by rfl,?_⟩) (by assumption) ?_
  rotate_left
  · (intro w hSw; (try dsimp only at hSw); simp only [List.getElem_toArray,List.getElem_cons_zero,List.getElem_cons_succ]; go_simp; try with_reducible rfl)
  simp only [List.getElem_toArray,List.getElem_cons_zero,List.getElem_cons_succ,Act.put,List.setIfInBounds_toArray,List.set_cons_zero,List.set_cons_succ]
  refine wpAnyH_take (i:=14) (oi:=_) (v:=?_) rfl (by kernel_rfl) (by kernel_rfl) (by kernel_rfl) (fun _ _ _ h => h) (Or.inl ⟨by rfl,?_⟩) (by assumption) ?_
  rotate_left
  · (intro w hSw; (try dsimp only at hSw); simp only [List.getElem_toArray,List.getElem_cons_zero,List.getElem_cons_succ]; go_simp; try with_reducible rfl)
  simp only [List.getElem_toArray,List.getElem_cons_zero,List.getElem_cons_succ,Act.put,List.setIfInBounds_toArray,List.set_cons_zero,List.set_cons_succ]
  refine wpAnyH_ready (rs:=[1]) (by kernel_rfl) (by simp) (AllReadyH.cons (o:=_) rfl (fun K hK => ?_) AllReadyH.nil)
  try simp only [List.getElem_toArray,List.getElem_cons_zero,List.getElem_cons_succ]
  go_simp
  refine hK.out _ _ ?_ (fun hHeld => ?_)
  · go_keep
  clear hK K
  try simp only [List.getElem_toArray,List.getElem_cons_zero,List.getElem_cons_succ,Act.put,List.setIfInBounds_toArray,List.set_cons_zero,List.set_cons_succ]
  refine wpAnyH_ready (rs:=[2]) (by kernel_rfl) (by simp) (AllReadyH.cons (o:=_) rfl (fun K hK => ?_) AllReadyH.nil)
  try simp only [List.getElem_toArray,List.getElem_cons_zero,List.getElem_cons_succ]
  go_simp
  refine hK.out _ _ ?_ (fun hHeld => ?_)
  · go_keep
  clear hK K
  try simp only [List.getElem_toArray,List.getElem_cons_zero,List.getElem_cons_succ,Act.put,List.setIfInBounds_toArray,List.set_cons_zero,List.set_cons_succ]
  refine wpAnyH_ready (rs:=[3]) (by kernel_rfl) (by simp) (AllReadyH.cons (o:=_) rfl (fun K hK => ?_) AllReadyH.nil)
  try simp only [List.getElem_toArray,List.getElem_cons_zero,List.getElem_cons_succ]
  go_simp
  refine Calls.mono (hof.out _ ?_ ?_) ?_
  · go_keep
  · go_keep
  rintro e w' ⟨rfl,k0,k1,hbo⟩
  try go_simp
  refine hK.out _ _ ?_ (fun hHeld => ?_)
  · go_keep
  clear hK K
  try simp only [List.getElem_toArray,List.getElem_cons_zero,List.getElem_cons_succ,Act.put,List.setIfInBounds_toArray,List.set_cons_zero,List.set_cons_succ]
  refine wpAnyH_ready (rs:=[4]) (by kernel_rfl) (by simp) (AllReadyH.cons (o:=_) rfl (fun K hK => ?_) AllReadyH.nil)
  try simp only [List.getElem_toArray,List.getElem_cons_zero,List.getElem_cons_succ]
  go_simp
  refine Calls.mono (htx.out _ ?_ ?_) ?_
  · go_keep
  · go_keep
  rintro e w' ⟨rfl,j0,j1,hbt⟩
  try go_simp
  refine hK.out _ _ ?_ (fun hHeld => ?_)
  · go_keep
  clear hK K
  try simp only [List.getElem_toArray,List.getElem_cons_zero,List.getElem_cons_succ,Act.put,List.setIfInBounds_toArray,List.set_cons_zero,List.set_cons_succ]
  refine wpAnyH_take (i:=15) (oi:=_) (v:=?_) rfl (by kernel_rfl) (by kernel_rfl) (by kernel_rfl) (fun _ _ _ h => h) (Or.inl ⟨by rfl,?_⟩) (by assumption) ?_
  rotate_left
  · (intro w hSw; (try dsimp only at hSw); simp only [List.getElem_toArray,List.getElem_cons_zero,List.getElem_cons_succ]; go_simp; try with_reducible rfl)
  simp only [List.getElem_toArray,List.getElem_cons_zero,List.getElem_cons_succ,Act.put,List.setIfInBounds_toArray,List.set_cons_zero,List.set_cons_succ]
  refine wpAnyH_done (by kernel_rfl) ?_ _
  refine NoPanic.normal ?_
  all_goals (try go_wp2)
  go_ret
  have hb:=(((Below.refl w1.heap.size w1).alloc (Nat.le_refl _) (.cells #[.int .u8 (c.toNat : Int)] 5)).drew.trans (hbo.mono (by simp))).trans (hbt.mono (by have:=hbo.size; simp at this; omega))
  exact ⟨rfl,HP.out.below hb,grown_trans hg (grown_of_below hb _)⟩
theorem symbol_bareBad (g : Nat) (s : ByteArray) (a : Nat) (v : Value) (c : UInt8) (r : List UInt8) (hc : c ≠ 92) (w : World) (h : PA w g s a v (c :: r)) (ht : bt c.toNat ≠ [c]) :
    Calls Tryz.prog 134 #[.pointer (some ⟨g,0,none⟩)] w fun e w' => e = .panicked (mis (a : Int)) ∧ Stk w' g ∧ w.grownBy w' (some g):=by
  obtain ⟨c0,c1,c2,c3,f1,f2,f3⟩:=h.rd.all
  have HM:=hid (take_some g s a v c r w h)
  have HD:=hid h.at'
  have hne : ((c.toNat : Int) == 92) = false:=by
    simp
    intro e
    exact hc (UInt8.toNat_inj.1 (by simp; omega))
  clear h
  go_enter Tryz.func134,Tryz.ntmps134
  go_wp2_with fail
  refine Calls.mono HM.out ?_
  rintro e w1 ⟨rfl,hp,hg⟩
  clear c0 c1 c2 c3 f1 f2 f3
  have HP:=hid hp
  clear hp
  obtain ⟨c0,c1,c2,c3,f1,f2,f3⟩:=HP.out.rd.all
  rw [show ((a + 1 : Nat) : Int) = ((a : Int) + 1) from by omega] at c1
  have hconv:=conv_byte c
  have hof:=hid (of_kept g s ((a : Int) + 1) c)
  have htx:=hid (text_kept g s ((a : Int) + 1) c)
  have hsl:=cut_str s a (a + 1) [c] r HD.out rfl (by have:=HP.out.le; simp; omega)
  rw [show ((a + 1 : Nat) : Int) = ((a : Int) + 1) from by omega] at hsl
  have hT : ((⟨(bt c.toNat).toArray⟩ : ByteArray).toList == [c]) = false:=by
    apply beq_eq_false_iff_ne.2
    intro e
    apply ht
    simpa using e
  clear ht
  generalize (⟨(bt c.toNat).toArray⟩ : ByteArray) = T at *
  go_wp2_with fail
  refine wp_region_noPanic ?_
  refine wp_region_held_drew (S:=fun w' => w'.cell? ⟨g,0,none⟩ = some (.string s) ∧ w'.cell? ⟨g,1,none⟩ = some (.int .i64 ((a : Int) + 1))) (by kernel_rfl) ?_ (fun hHeld => ?_)
  · go_keep
  refine wpAnyH_take (i:=0) (oi:=_) (v:=?_) rfl (by kernel_rfl) (by kernel_rfl) (by kernel_rfl) (fun _ _ _ h => h) (Or.inl ⟨by rfl,?_⟩) (by assumption) ?_
  rotate_left
  · (intro w hSw; (try dsimp only at hSw); simp only [List.getElem_toArray,List.getElem_cons_zero,List.getElem_cons_succ]; go_simp; try with_reducible rfl)
  simp only [List.getElem_toArray,List.getElem_cons_zero,List.getElem_cons_succ,Act.put,List.setIfInBounds_toArray,List.set_cons_zero,List.set_cons_succ]
  refine wpAnyH_take (i:=5) (oi:=_) (v:=?_) rfl (by kernel_rfl) (by kernel_rfl) (by kernel_rfl) (fun _ _ _ h => h) (Or.inl ⟨by rfl,?_⟩) (by assumption) ?_
  rotate_left
  · (intro w hSw; (try dsimp only at hSw); simp only [List.getElem_toArray,List.getElem_cons_zero,List.getElem_cons_succ]; go_simp; try with_reducible rfl)
  simp only [List.getElem_toArray,List.getElem_cons_zero,List.getElem_cons_succ,Act.put,List.setIfInBounds_toArray,List.set_cons_zero,List.set_cons_succ]
  refine wpAnyH_take (i:=6) (oi:=_) (v:=?_) rfl (by kernel_rfl) (by kernel_rfl) (by kernel_rfl) (fun _ _ _ h => h) (Or.inl ⟨by rfl,?_⟩) (by assumption) ?_
  rotate_left
  · (intro w hSw; (try dsimp only at hSw); simp only [List.getElem_toArray,List.getElem_cons_zero,List.getElem_cons_succ]; go_simp; try with_reducible rfl)
  simp only [List.getElem_toArray,List.getElem_cons_zero,List.getElem_cons_succ,Act.put,List.setIfInBounds_toArray,List.set_cons_zero,List.set_cons_succ]
  refine wpAnyH_take (i:=7) (oi:=_) (v:=?_) rfl (by kernel_rfl) (by kernel_rfl) (by kernel_rfl) (fun _ _ _ h => h) (Or.inl ⟨by rfl,?_⟩) (by assumption) ?_
  rotate_left
  · (intro w hSw; (try dsimp only at hSw); simp only [List.getElem_toArray,List.getElem_cons_zero,List.getElem_cons_succ]; go_simp; try with_reducible rfl)
  simp only [List.getElem_toArray,List.getElem_cons_zero,List.getElem_cons_succ,Act.put,List.setIfInBounds_toArray,List.set_cons_zero,List.set_cons_succ]
  refine wpAnyH_take (i:=8) (oi:=_) (v:=?_) rfl (by kernel_rfl) (by kernel_rfl) (by kernel_rfl) (fun _ _ _ h => h) (Or.inl ⟨by rfl,?_⟩) (by assumption) ?_
  rotate_left
  · (intro w hSw; (try dsimp only at hSw); simp only [List.getElem_toArray,List.getElem_cons_zero,List.getElem_cons_succ]; go_simp; try with_reducible rfl)
  simp only [List.getElem_toArray,List.getElem_cons_zero,List.getElem_cons_succ,Act.put,List.setIfInBounds_toArray,List.set_cons_zero,List.set_cons_succ]
  refine wpAnyH_take (i:=9) (oi:=_) (v:=?_) rfl (by kernel_rfl) (by kernel_rfl) (by kernel_rfl) (fun _ _ _ h => h) (Or.inl ⟨by rfl,?_⟩) (by assumption) ?_
  rotate_left
  · (intro w hSw; (try dsimp only at hSw); simp only [List.getElem_toArray,List.getElem_cons_zero,List.getElem_cons_succ]; go_simp; try with_reducible rfl)
  simp only [List.getElem_toArray,List.getElem_cons_zero,List.getElem_cons_succ,Act.put,List.setIfInBounds_toArray,List.set_cons_zero,List.set_cons_succ]
  refine wpAnyH_take (i:=10) (oi:=_) (v:=?_) rfl (by kernel_rfl) (by kernel_rfl) (by kernel_rfl) (fun _ _ _ h => h) (Or.inl ⟨by rfl,?_⟩) (by assumption) ?_
  rotate_left
  · (intro w hSw; (try dsimp only at hSw); simp only [List.getElem_toArray,List.getElem_cons_zero,List.getElem_cons_succ]; go_simp; try with_reducible rfl)
  simp only [List.getElem_toArray,List.getElem_cons_zero,List.getElem_cons_succ,Act.put,List.setIfInBounds_toArray,List.set_cons_zero,List.set_cons_succ]
  refine wpAnyH_take (i:=11) (oi:=_) (v:=?_) rfl (by kernel_rfl) (by kernel_rfl) (by kernel_rfl) (fun _ _ _ h => h) (Or.inl ⟨by rfl,?_⟩) (by assumption) ?_
  rotate_left
  · (intro w hSw; (try dsimp only at hSw); simp only [List.getElem_toArray,List.getElem_cons_zero,List.getElem_cons_succ]; go_simp; try with_reducible rfl)
  simp only [List.getElem_toArray,List.getElem_cons_zero,List.getElem_cons_succ,Act.put,List.setIfInBounds_toArray,List.set_cons_zero,List.set_cons_succ]
  refine wpAnyH_take (i:=12) (oi:=_) (v:=?_) rfl (by kernel_rfl) (by kernel_rfl) (by kernel_rfl) (fun _ _ _ h => h) (Or.inl ⟨by rfl,?_⟩) (by assumption) ?_
  rotate_left
  · (intro w hSw; (try dsimp only at hSw); simp only [List.getElem_toArray,List.getElem_cons_zero,List.getElem_cons_succ]; go_simp; try with_reducible rfl)
  simp only [List.getElem_toArray,List.getElem_cons_zero,List.getElem_cons_succ,Act.put,List.setIfInBounds_toArray,List.set_cons_zero,List.set_cons_succ]
  refine wpAnyH_take (i:=13) (oi:=_) (v:=?_) rfl (by kernel_rfl) (by kernel_rfl) (by kernel_rfl) (fun _ _ _ h => h) (Or.inl ⟨by rfl,?_⟩) (by assumption) ?_
  rotate_left
  · (intro w hSw; (try dsimp only at hSw); simp only [List.getElem_toArray,List.getElem_cons_zero,List.getElem_cons_succ]; go_simp; try with_reducible rfl)
  simp only [List.getElem_toArray,List.getElem_cons_zero,List.getElem_cons_succ,Act.put,List.setIfInBounds_toArray,List.set_cons_zero,List.set_cons_succ]
  refine wpAnyH_take (i:=14) (oi:=_) (v:=?_) rfl (by kernel_rfl) (by kernel_rfl) (by kernel_rfl) (fun _ _ _ h => h) (Or.inl ⟨by rfl,?_⟩) (by assumption) ?_
  rotate_left
  · (intro w hSw; (try dsimp only at hSw); simp only [List.getElem_toArray,List.getElem_cons_zero,List.getElem_cons_succ]; go_simp; try with_reducible rfl)
  simp only [List.getElem_toArray,List.getElem_cons_zero,List.getElem_cons_succ,Act.put,List.setIfInBounds_toArray,List.set_cons_zero,List.set_cons_succ]
  refine wpAnyH_ready (rs:=[1]) (by kernel_rfl) (by simp) (AllReadyH.cons (o:=_) rfl (fun K hK => ?_) AllReadyH.nil)
  try simp only [List.getElem_toArray,List.getElem_cons_zero,List.getElem_cons_succ]
  go_simp
  refine hK.out _ _ ?_ (fun hHeld => ?_)
  · go_keep
  clear hK K
  try simp only [List.getElem_toArray,List.getElem_cons_zero,List.getElem_cons_succ,Act.put,List.setIfInBounds_toArray,List.set_cons_zero,List.set_cons_succ]
  refine wpAnyH_ready (rs:=[2]) (by kernel_rfl) (by simp) (AllReadyH.cons (o:=_) rfl (fun K hK => ?_) AllReadyH.nil)
  try simp only [List.getElem_toArray,List.getElem_cons_zero,List.getElem_cons_succ]
  go_simp
  refine hK.out _ _ ?_ (fun hHeld => ?_)
  · go_keep
  clear hK K
  try simp only [List.getElem_toArray,List.getElem_cons_zero,List.getElem_cons_succ,Act.put,List.setIfInBounds_toArray,List.set_cons_zero,List.set_cons_succ]
  refine wpAnyH_ready (rs:=[3]) (by kernel_rfl) (by simp) (AllReadyH.cons (o:=_) rfl (fun K hK => ?_) AllReadyH.nil)
  try simp only [List.getElem_toArray,List.getElem_cons_zero,List.getElem_cons_succ]
  go_simp
  refine Calls.mono (hof.out _ ?_ ?_) ?_
  · go_keep
  · go_keep
  rintro e w' ⟨rfl,k0,k1,hbo⟩
  try go_simp
  refine hK.out _ _ ?_ (fun hHeld => ?_)
  · go_keep
  clear hK K
  try simp only [List.getElem_toArray,List.getElem_cons_zero,List.getElem_cons_succ,Act.put,List.setIfInBounds_toArray,List.set_cons_zero,List.set_cons_succ]
  refine wpAnyH_ready (rs:=[4]) (by kernel_rfl) (by simp) (AllReadyH.cons (o:=_) rfl (fun K hK => ?_) AllReadyH.nil)
  try simp only [List.getElem_toArray,List.getElem_cons_zero,List.getElem_cons_succ]
  go_simp
  refine Calls.mono (htx.out _ ?_ ?_) ?_
  · go_keep
  · go_keep
  rintro e w' ⟨rfl,j0,j1,hbt⟩
  try go_simp
  refine hK.out _ _ ?_ (fun hHeld => ?_)
  · go_keep
  clear hK K
  try simp only [List.getElem_toArray,List.getElem_cons_zero,List.getElem_cons_succ,Act.put,List.setIfInBounds_toArray,List.set_cons_zero,List.set_cons_succ]
  refine wpAnyH_take (i:=15) (oi:=_) (v:=?_) rfl (by kernel_rfl) (by kernel_rfl) (by kernel_rfl) (fun _ _ _ h => h) (Or.inl ⟨by rfl,?_⟩) (by assumption) ?_
  rotate_left
  · (intro w hSw; (try dsimp only at hSw); simp only [List.getElem_toArray,List.getElem_cons_zero,List.getElem_cons_succ]; go_simp; try with_reducible rfl)
  simp only [List.getElem_toArray,List.getElem_cons_zero,List.getElem_cons_succ,Act.put,List.setIfInBounds_toArray,List.set_cons_zero,List.set_cons_succ]
  refine wpAnyH_done (by kernel_rfl) ?_ _
  refine NoPanic.normal ?_
  all_goals go_wp2_with fail
  have hb:=(((Below.refl w1.heap.size w1).alloc (Nat.le_refl _) (.cells #[.int .u8 (c.toNat : Int)] 5)).drew.trans (hbo.mono (by simp))).trans (hbt.mono (by have:=hbo.size; simp at this; omega))
  refine Calls.mono (misfitAt_any g s _ v false _ _ (HP.out.below hb).rd) ?_
  rintro e w3 ⟨rfl,hs,hg3⟩
  go_wp2
  exact ⟨rfl,rfl,hs,grown_trans hg (grown_trans (grown_of_below hb _) hg3)⟩
theorem symbol_esc (g : Nat) (s : ByteArray) (a : Nat) (v : Value) (c : UInt8) (r : List UInt8) (hc : c ≠ 120) (w : World) (h : PA w g s a v (92 :: c :: r)) (ht : bt c.toNat = [92,c]) :
    Calls Tryz.prog 134 #[.pointer (some ⟨g,0,none⟩)] w fun e w' => e = .returned (.int .u8 (c.toNat : Int)) ∧ PA w' g s (a + 2) v r ∧ w.grownBy w' (some g):=by
  obtain ⟨c0,c1,c2,c3,f1,f2,f3⟩:=h.rd.all
  have HM:=hid (take_some g s a v 92 (c :: r) w h)
  have HD:=hid h.at'
  have hne : ((c.toNat : Int) == 120) = false:=by
    simp
    intro e
    exact hc (UInt8.toNat_inj.1 (by simp; omega))
  clear h
  go_enter Tryz.func134,Tryz.ntmps134
  go_wp2_with fail
  refine Calls.mono HM.out ?_
  rintro e w1 ⟨rfl,hp,hg⟩
  clear c0 c1 c2 c3 f1 f2 f3
  have HM1:=hid (take_some g s (a + 1) v c r w1 hp)
  clear hp
  go_wp2_with fail
  refine Calls.mono HM1.out ?_
  rintro e w2 ⟨rfl,hp,hg2⟩
  replace hg:=grown_trans hg hg2
  clear hg2
  have HP:=hid hp
  clear hp
  obtain ⟨c0,c1,c2,c3,f1,f2,f3⟩:=HP.out.rd.all
  rw [show ((a + 1 + 1 : Nat) : Int) = ((a : Int) + 2) from by omega] at c1
  have hconv:=conv_byte c
  have hof:=hid (of_kept g s ((a : Int) + 2) c)
  have htx:=hid (text_kept g s ((a : Int) + 2) c)
  have hsl:=cut_str s a (a + 2) [92,c] r HD.out rfl (by have:=HP.out.le; simp; omega)
  rw [show ((a + 2 : Nat) : Int) = ((a : Int) + 2) from by omega] at hsl
  rw [ht] at htx
  clear ht
  go_wp2_with fail
  refine wp_region_noPanic ?_
  refine wp_region_held_drew (S:=fun w' => w'.cell? ⟨g,0,none⟩ = some (.string s) ∧ w'.cell? ⟨g,1,none⟩ = some (.int .i64 ((a : Int) + 2))) (by kernel_rfl) ?_ (fun hHeld => ?_)
  · go_keep
  refine wpAnyH_take (i:=0) (oi:=_) (v:=?_) rfl (by kernel_rfl) (by kernel_rfl) (by kernel_rfl) (fun _ _ _ h => h) (Or.inl ⟨by rfl,?_⟩) (by assumption) ?_
  rotate_left
  · (intro w hSw; (try dsimp only at hSw); simp only [List.getElem_toArray,List.getElem_cons_zero,List.getElem_cons_succ]; go_simp; try with_reducible rfl)
  simp only [List.getElem_toArray,List.getElem_cons_zero,List.getElem_cons_succ,Act.put,List.setIfInBounds_toArray,List.set_cons_zero,List.set_cons_succ]
  refine wpAnyH_take (i:=5) (oi:=_) (v:=?_) rfl (by kernel_rfl) (by kernel_rfl) (by kernel_rfl) (fun _ _ _ h => h) (Or.inl ⟨by rfl,?_⟩) (by assumption) ?_
  rotate_left
  · (intro w hSw; (try dsimp only at hSw); simp only [List.getElem_toArray,List.getElem_cons_zero,List.getElem_cons_succ]; go_simp; try with_reducible rfl)
  simp only [List.getElem_toArray,List.getElem_cons_zero,List.getElem_cons_succ,Act.put,List.setIfInBounds_toArray,List.set_cons_zero,List.set_cons_succ]
  refine wpAnyH_take (i:=6) (oi:=_) (v:=?_) rfl (by kernel_rfl) (by kernel_rfl) (by kernel_rfl) (fun _ _ _ h => h) (Or.inl ⟨by rfl,?_⟩) (by assumption) ?_
  rotate_left
  · (intro w hSw; (try dsimp only at hSw); simp only [List.getElem_toArray,List.getElem_cons_zero,List.getElem_cons_succ]; go_simp; try with_reducible rfl)
  simp only [List.getElem_toArray,List.getElem_cons_zero,List.getElem_cons_succ,Act.put,List.setIfInBounds_toArray,List.set_cons_zero,List.set_cons_succ]
  refine wpAnyH_take (i:=7) (oi:=_) (v:=?_) rfl (by kernel_rfl) (by kernel_rfl) (by kernel_rfl) (fun _ _ _ h => h) (Or.inl ⟨by rfl,?_⟩) (by assumption) ?_
  rotate_left
  · (intro w hSw; (try dsimp only at hSw); simp only [List.getElem_toArray,List.getElem_cons_zero,List.getElem_cons_succ]; go_simp; try with_reducible rfl)
  simp only [List.getElem_toArray,List.getElem_cons_zero,List.getElem_cons_succ,Act.put,List.setIfInBounds_toArray,List.set_cons_zero,List.set_cons_succ]
  refine wpAnyH_take (i:=8) (oi:=_) (v:=?_) rfl (by kernel_rfl) (by kernel_rfl) (by kernel_rfl) (fun _ _ _ h => h) (Or.inl ⟨by rfl,?_⟩) (by assumption) ?_
  rotate_left
  · (intro w hSw; (try dsimp only at hSw); simp only [List.getElem_toArray,List.getElem_cons_zero,List.getElem_cons_succ]; go_simp; try with_reducible rfl)
  simp only [List.getElem_toArray,List.getElem_cons_zero,List.getElem_cons_succ,Act.put,List.setIfInBounds_toArray,List.set_cons_zero,List.set_cons_succ]
  refine wpAnyH_take (i:=9) (oi:=_) (v:=?_) rfl (by kernel_rfl) (by kernel_rfl) (by kernel_rfl) (fun _ _ _ h => h) (Or.inl ⟨by rfl,?_⟩) (by assumption) ?_
  rotate_left
  · (intro w hSw; (try dsimp only at hSw); simp only [List.getElem_toArray,List.getElem_cons_zero,List.getElem_cons_succ]; go_simp; try with_reducible rfl)
  simp only [List.getElem_toArray,List.getElem_cons_zero,List.getElem_cons_succ,Act.put,List.setIfInBounds_toArray,List.set_cons_zero,List.set_cons_succ]
  refine wpAnyH_take (i:=10) (oi:=_) (v:=?_) rfl (by kernel_rfl) (by kernel_rfl) (by kernel_rfl) (fun _ _ _ h => h) (Or.inl ⟨by rfl,?_⟩) (by assumption) ?_
  rotate_left
  · (intro w hSw; (try dsimp only at hSw); simp only [List.getElem_toArray,List.getElem_cons_zero,List.getElem_cons_succ]; go_simp; try with_reducible rfl)
  simp only [List.getElem_toArray,List.getElem_cons_zero,List.getElem_cons_succ,Act.put,List.setIfInBounds_toArray,List.set_cons_zero,List.set_cons_succ]
  refine wpAnyH_take (i:=11) (oi:=_) (v:=?_) rfl (by kernel_rfl) (by kernel_rfl) (by kernel_rfl) (fun _ _ _ h => h) (Or.inl ⟨by rfl,?_⟩) (by assumption) ?_
  rotate_left
  · (intro w hSw; (try dsimp only at hSw); simp only [List.getElem_toArray,List.getElem_cons_zero,List.getElem_cons_succ]; go_simp; try with_reducible rfl)
  simp only [List.getElem_toArray,List.getElem_cons_zero,List.getElem_cons_succ,Act.put,List.setIfInBounds_toArray,List.set_cons_zero,List.set_cons_succ]
  refine wpAnyH_take (i:=12) (oi:=_) (v:=?_) rfl (by kernel_rfl) (by kernel_rfl) (by kernel_rfl) (fun _ _ _ h => h) (Or.inl ⟨by rfl,?_⟩) (by assumption) ?_
  rotate_left
  · (intro w hSw; (try dsimp only at hSw); simp only [List.getElem_toArray,List.getElem_cons_zero,List.getElem_cons_succ]; go_simp; try with_reducible rfl)
  simp only [List.getElem_toArray,List.getElem_cons_zero,List.getElem_cons_succ,Act.put,List.setIfInBounds_toArray,List.set_cons_zero,List.set_cons_succ]
  refine wpAnyH_take (i:=13) (oi:=_) (v:=?_) rfl (by kernel_rfl) (by kernel_rfl) (by kernel_rfl) (fun _ _ _ h => h) (Or.inl ⟨by rfl,?_⟩) (by assumption) ?_
  rotate_left
  · (intro w hSw; (try dsimp only at hSw); simp only [List.getElem_toArray,List.getElem_cons_zero,List.getElem_cons_succ]; go_simp; try with_reducible rfl)
  simp only [List.getElem_toArray,List.getElem_cons_zero,List.getElem_cons_succ,Act.put,List.setIfInBounds_toArray,List.set_cons_zero,List.set_cons_succ]
  refine wpAnyH_take (i:=14) (oi:=_) (v:=?_) rfl (by kernel_rfl) (by kernel_rfl) (by kernel_rfl) (fun _ _ _ h => h) (Or.inl ⟨by rfl,?_⟩) (by assumption) ?_
  rotate_left
  · (intro w hSw; (try dsimp only at hSw); simp only [List.getElem_toArray,List.getElem_cons_zero,List.getElem_cons_succ]; go_simp; try with_reducible rfl)
  simp only [List.getElem_toArray,List.getElem_cons_zero,List.getElem_cons_succ,Act.put,List.setIfInBounds_toArray,List.set_cons_zero,List.set_cons_succ]
  refine wpAnyH_ready (rs:=[1]) (by kernel_rfl) (by simp) (AllReadyH.cons (o:=_) rfl (fun K hK => ?_) AllReadyH.nil)
  try simp only [List.getElem_toArray,List.getElem_cons_zero,List.getElem_cons_succ]
  go_simp
  refine hK.out _ _ ?_ (fun hHeld => ?_)
  · go_keep
  clear hK K
  try simp only [List.getElem_toArray,List.getElem_cons_zero,List.getElem_cons_succ,Act.put,List.setIfInBounds_toArray,List.set_cons_zero,List.set_cons_succ]
  refine wpAnyH_ready (rs:=[2]) (by kernel_rfl) (by simp) (AllReadyH.cons (o:=_) rfl (fun K hK => ?_) AllReadyH.nil)
  try simp only [List.getElem_toArray,List.getElem_cons_zero,List.getElem_cons_succ]
  go_simp
  refine hK.out _ _ ?_ (fun hHeld => ?_)
  · go_keep
  clear hK K
  try simp only [List.getElem_toArray,List.getElem_cons_zero,List.getElem_cons_succ,Act.put,List.setIfInBounds_toArray,List.set_cons_zero,List.set_cons_succ]
  refine wpAnyH_ready (rs:=[3]) (by kernel_rfl) (by simp) (AllReadyH.cons (o:=_) rfl (fun K hK => ?_) AllReadyH.nil)
  try simp only [List.getElem_toArray,List.getElem_cons_zero,List.getElem_cons_succ]
  go_simp
  refine Calls.mono (hof.out _ ?_ ?_) ?_
  · go_keep
  · go_keep
  rintro e w' ⟨rfl,k0,k1,hbo⟩
  try go_simp
  refine hK.out _ _ ?_ (fun hHeld => ?_)
  · go_keep
  clear hK K
  try simp only [List.getElem_toArray,List.getElem_cons_zero,List.getElem_cons_succ,Act.put,List.setIfInBounds_toArray,List.set_cons_zero,List.set_cons_succ]
  refine wpAnyH_ready (rs:=[4]) (by kernel_rfl) (by simp) (AllReadyH.cons (o:=_) rfl (fun K hK => ?_) AllReadyH.nil)
  try simp only [List.getElem_toArray,List.getElem_cons_zero,List.getElem_cons_succ]
  go_simp
  refine Calls.mono (htx.out _ ?_ ?_) ?_
  · go_keep
  · go_keep
  rintro e w' ⟨rfl,j0,j1,hbt⟩
  try go_simp
  refine hK.out _ _ ?_ (fun hHeld => ?_)
  · go_keep
  clear hK K
  try simp only [List.getElem_toArray,List.getElem_cons_zero,List.getElem_cons_succ,Act.put,List.setIfInBounds_toArray,List.set_cons_zero,List.set_cons_succ]
  refine wpAnyH_take (i:=15) (oi:=_) (v:=?_) rfl (by kernel_rfl) (by kernel_rfl) (by kernel_rfl) (fun _ _ _ h => h) (Or.inl ⟨by rfl,?_⟩) (by assumption) ?_
  rotate_left
  · (intro w hSw; (try dsimp only at hSw); simp only [List.getElem_toArray,List.getElem_cons_zero,List.getElem_cons_succ]; go_simp; try with_reducible rfl)
  simp only [List.getElem_toArray,List.getElem_cons_zero,List.getElem_cons_succ,Act.put,List.setIfInBounds_toArray,List.set_cons_zero,List.set_cons_succ]
  refine wpAnyH_done (by kernel_rfl) ?_ _
  refine NoPanic.normal ?_
  all_goals (try go_wp2)
  go_ret
  have hb:=(((Below.refl w2.heap.size w2).alloc (Nat.le_refl _) (.cells #[.int .u8 (c.toNat : Int)] 5)).drew.trans (hbo.mono (by simp))).trans (hbt.mono (by have:=hbo.size; simp at this; omega))
  exact ⟨rfl,HP.out.below hb,grown_trans hg (grown_of_below hb _)⟩
theorem symbol_escBad (g : Nat) (s : ByteArray) (a : Nat) (v : Value) (c : UInt8) (r : List UInt8) (hc : c ≠ 120) (w : World) (h : PA w g s a v (92 :: c :: r)) (ht : bt c.toNat ≠ [92,c]) :
    Calls Tryz.prog 134 #[.pointer (some ⟨g,0,none⟩)] w fun e w' => e = .panicked (mis (a : Int)) ∧ Stk w' g ∧ w.grownBy w' (some g):=by
  obtain ⟨c0,c1,c2,c3,f1,f2,f3⟩:=h.rd.all
  have HM:=hid (take_some g s a v 92 (c :: r) w h)
  have HD:=hid h.at'
  have hne : ((c.toNat : Int) == 120) = false:=by
    simp
    intro e
    exact hc (UInt8.toNat_inj.1 (by simp; omega))
  clear h
  go_enter Tryz.func134,Tryz.ntmps134
  go_wp2_with fail
  refine Calls.mono HM.out ?_
  rintro e w1 ⟨rfl,hp,hg⟩
  clear c0 c1 c2 c3 f1 f2 f3
  have HM1:=hid (take_some g s (a + 1) v c r w1 hp)
  clear hp
  go_wp2_with fail
  refine Calls.mono HM1.out ?_
  rintro e w2 ⟨rfl,hp,hg2⟩
  replace hg:=grown_trans hg hg2
  clear hg2
  have HP:=hid hp
  clear hp
  obtain ⟨c0,c1,c2,c3,f1,f2,f3⟩:=HP.out.rd.all
  rw [show ((a + 1 + 1 : Nat) : Int) = ((a : Int) + 2) from by omega] at c1
  have hconv:=conv_byte c
  have hof:=hid (of_kept g s ((a : Int) + 2) c)
  have htx:=hid (text_kept g s ((a : Int) + 2) c)
  have hsl:=cut_str s a (a + 2) [92,c] r HD.out rfl (by have:=HP.out.le; simp; omega)
  rw [show ((a + 2 : Nat) : Int) = ((a : Int) + 2) from by omega] at hsl
  have hT : ((⟨(bt c.toNat).toArray⟩ : ByteArray).toList == [92,c]) = false:=by
    apply beq_eq_false_iff_ne.2
    intro e
    apply ht
    simpa using e
  clear ht
  generalize (⟨(bt c.toNat).toArray⟩ : ByteArray) = T at *
  go_wp2_with fail
  refine wp_region_noPanic ?_
  refine wp_region_held_drew (S:=fun w' => w'.cell? ⟨g,0,none⟩ = some (.string s) ∧ w'.cell? ⟨g,1,none⟩ = some (.int .i64 ((a : Int) + 2))) (by kernel_rfl) ?_ (fun hHeld => ?_)
  · go_keep
  refine wpAnyH_take (i:=0) (oi:=_) (v:=?_) rfl (by kernel_rfl) (by kernel_rfl) (by kernel_rfl) (fun _ _ _ h => h) (Or.inl ⟨by rfl,?_⟩) (by assumption) ?_
  rotate_left
  · (intro w hSw; (try dsimp only at hSw); simp only [List.getElem_toArray,List.getElem_cons_zero,List.getElem_cons_succ]; go_simp; try with_reducible rfl)
  simp only [List.getElem_toArray,List.getElem_cons_zero,List.getElem_cons_succ,Act.put,List.setIfInBounds_toArray,List.set_cons_zero,List.set_cons_succ]
  refine wpAnyH_take (i:=5) (oi:=_) (v:=?_) rfl (by kernel_rfl) (by kernel_rfl) (by kernel_rfl) (fun _ _ _ h => h) (Or.inl ⟨by rfl,?_⟩) (by assumption) ?_
  rotate_left
  · (intro w hSw; (try dsimp only at hSw); simp only [List.getElem_toArray,List.getElem_cons_zero,List.getElem_cons_succ]; go_simp; try with_reducible rfl)
  simp only [List.getElem_toArray,List.getElem_cons_zero,List.getElem_cons_succ,Act.put,List.setIfInBounds_toArray,List.set_cons_zero,List.set_cons_succ]
  refine wpAnyH_take (i:=6) (oi:=_) (v:=?_) rfl (by kernel_rfl) (by kernel_rfl) (by kernel_rfl) (fun _ _ _ h => h) (Or.inl ⟨by rfl,?_⟩) (by assumption) ?_
  rotate_left
  · (intro w hSw; (try dsimp only at hSw); simp only [List.getElem_toArray,List.getElem_cons_zero,List.getElem_cons_succ]; go_simp; try with_reducible rfl)
  simp only [List.getElem_toArray,List.getElem_cons_zero,List.getElem_cons_succ,Act.put,List.setIfInBounds_toArray,List.set_cons_zero,List.set_cons_succ]
  refine wpAnyH_take (i:=7) (oi:=_) (v:=?_) rfl (by kernel_rfl) (by kernel_rfl) (by kernel_rfl) (fun _ _ _ h => h) (Or.inl ⟨by rfl,?_⟩) (by assumption) ?_
  rotate_left
  · (intro w hSw; (try dsimp only at hSw); simp only [List.getElem_toArray,List.getElem_cons_zero,List.getElem_cons_succ]; go_simp; try with_reducible rfl)
  simp only [List.getElem_toArray,List.getElem_cons_zero,List.getElem_cons_succ,Act.put,List.setIfInBounds_toArray,List.set_cons_zero,List.set_cons_succ]
  refine wpAnyH_take (i:=8) (oi:=_) (v:=?_) rfl (by kernel_rfl) (by kernel_rfl) (by kernel_rfl) (fun _ _ _ h => h) (Or.inl ⟨by rfl,?_⟩) (by assumption) ?_
  rotate_left
  · (intro w hSw; (try dsimp only at hSw); simp only [List.getElem_toArray,List.getElem_cons_zero,List.getElem_cons_succ]; go_simp; try with_reducible rfl)
  simp only [List.getElem_toArray,List.getElem_cons_zero,List.getElem_cons_succ,Act.put,List.setIfInBounds_toArray,List.set_cons_zero,List.set_cons_succ]
  refine wpAnyH_take (i:=9) (oi:=_) (v:=?_) rfl (by kernel_rfl) (by kernel_rfl) (by kernel_rfl) (fun _ _ _ h => h) (Or.inl ⟨by rfl,?_⟩) (by assumption) ?_
  rotate_left
  · (intro w hSw; (try dsimp only at hSw); simp only [List.getElem_toArray,List.getElem_cons_zero,List.getElem_cons_succ]; go_simp; try with_reducible rfl)
  simp only [List.getElem_toArray,List.getElem_cons_zero,List.getElem_cons_succ,Act.put,List.setIfInBounds_toArray,List.set_cons_zero,List.set_cons_succ]
  refine wpAnyH_take (i:=10) (oi:=_) (v:=?_) rfl (by kernel_rfl) (by kernel_rfl) (by kernel_rfl) (fun _ _ _ h => h) (Or.inl ⟨by rfl,?_⟩) (by assumption) ?_
  rotate_left
  · (intro w hSw; (try dsimp only at hSw); simp only [List.getElem_toArray,List.getElem_cons_zero,List.getElem_cons_succ]; go_simp; try with_reducible rfl)
  simp only [List.getElem_toArray,List.getElem_cons_zero,List.getElem_cons_succ,Act.put,List.setIfInBounds_toArray,List.set_cons_zero,List.set_cons_succ]
  refine wpAnyH_take (i:=11) (oi:=_) (v:=?_) rfl (by kernel_rfl) (by kernel_rfl) (by kernel_rfl) (fun _ _ _ h => h) (Or.inl ⟨by rfl,?_⟩) (by assumption) ?_
  rotate_left
  · (intro w hSw; (try dsimp only at hSw); simp only [List.getElem_toArray,List.getElem_cons_zero,List.getElem_cons_succ]; go_simp; try with_reducible rfl)
  simp only [List.getElem_toArray,List.getElem_cons_zero,List.getElem_cons_succ,Act.put,List.setIfInBounds_toArray,List.set_cons_zero,List.set_cons_succ]
  refine wpAnyH_take (i:=12) (oi:=_) (v:=?_) rfl (by kernel_rfl) (by kernel_rfl) (by kernel_rfl) (fun _ _ _ h => h) (Or.inl ⟨by rfl,?_⟩) (by assumption) ?_
  rotate_left
  · (intro w hSw; (try dsimp only at hSw); simp only [List.getElem_toArray,List.getElem_cons_zero,List.getElem_cons_succ]; go_simp; try with_reducible rfl)
  simp only [List.getElem_toArray,List.getElem_cons_zero,List.getElem_cons_succ,Act.put,List.setIfInBounds_toArray,List.set_cons_zero,List.set_cons_succ]
  refine wpAnyH_take (i:=13) (oi:=_) (v:=?_) rfl (by kernel_rfl) (by kernel_rfl) (by kernel_rfl) (fun _ _ _ h => h) (Or.inl ⟨by rfl,?_⟩) (by assumption) ?_
  rotate_left
  · (intro w hSw; (try dsimp only at hSw); simp only [List.getElem_toArray,List.getElem_cons_zero,List.getElem_cons_succ]; go_simp; try with_reducible rfl)
  simp only [List.getElem_toArray,List.getElem_cons_zero,List.getElem_cons_succ,Act.put,List.setIfInBounds_toArray,List.set_cons_zero,List.set_cons_succ]
  refine wpAnyH_take (i:=14) (oi:=_) (v:=?_) rfl (by kernel_rfl) (by kernel_rfl) (by kernel_rfl) (fun _ _ _ h => h) (Or.inl ⟨by rfl,?_⟩) (by assumption) ?_
  rotate_left
  · (intro w hSw; (try dsimp only at hSw); simp only [List.getElem_toArray,List.getElem_cons_zero,List.getElem_cons_succ]; go_simp; try with_reducible rfl)
  simp only [List.getElem_toArray,List.getElem_cons_zero,List.getElem_cons_succ,Act.put,List.setIfInBounds_toArray,List.set_cons_zero,List.set_cons_succ]
  refine wpAnyH_ready (rs:=[1]) (by kernel_rfl) (by simp) (AllReadyH.cons (o:=_) rfl (fun K hK => ?_) AllReadyH.nil)
  try simp only [List.getElem_toArray,List.getElem_cons_zero,List.getElem_cons_succ]
  go_simp
  refine hK.out _ _ ?_ (fun hHeld => ?_)
  · go_keep
  clear hK K
  try simp only [List.getElem_toArray,List.getElem_cons_zero,List.getElem_cons_succ,Act.put,List.setIfInBounds_toArray,List.set_cons_zero,List.set_cons_succ]
  refine wpAnyH_ready (rs:=[2]) (by kernel_rfl) (by simp) (AllReadyH.cons (o:=_) rfl (fun K hK => ?_) AllReadyH.nil)
  try simp only [List.getElem_toArray,List.getElem_cons_zero,List.getElem_cons_succ]
  go_simp
  refine hK.out _ _ ?_ (fun hHeld => ?_)
  · go_keep
  clear hK K
  try simp only [List.getElem_toArray,List.getElem_cons_zero,List.getElem_cons_succ,Act.put,List.setIfInBounds_toArray,List.set_cons_zero,List.set_cons_succ]
  refine wpAnyH_ready (rs:=[3]) (by kernel_rfl) (by simp) (AllReadyH.cons (o:=_) rfl (fun K hK => ?_) AllReadyH.nil)
  try simp only [List.getElem_toArray,List.getElem_cons_zero,List.getElem_cons_succ]
  go_simp
  refine Calls.mono (hof.out _ ?_ ?_) ?_
  · go_keep
  · go_keep
  rintro e w' ⟨rfl,k0,k1,hbo⟩
  try go_simp
  refine hK.out _ _ ?_ (fun hHeld => ?_)
  · go_keep
  clear hK K
  try simp only [List.getElem_toArray,List.getElem_cons_zero,List.getElem_cons_succ,Act.put,List.setIfInBounds_toArray,List.set_cons_zero,List.set_cons_succ]
  refine wpAnyH_ready (rs:=[4]) (by kernel_rfl) (by simp) (AllReadyH.cons (o:=_) rfl (fun K hK => ?_) AllReadyH.nil)
  try simp only [List.getElem_toArray,List.getElem_cons_zero,List.getElem_cons_succ]
  go_simp
  refine Calls.mono (htx.out _ ?_ ?_) ?_
  · go_keep
  · go_keep
  rintro e w' ⟨rfl,j0,j1,hbt⟩
  try go_simp
  refine hK.out _ _ ?_ (fun hHeld => ?_)
  · go_keep
  clear hK K
  try simp only [List.getElem_toArray,List.getElem_cons_zero,List.getElem_cons_succ,Act.put,List.setIfInBounds_toArray,List.set_cons_zero,List.set_cons_succ]
  refine wpAnyH_take (i:=15) (oi:=_) (v:=?_) rfl (by kernel_rfl) (by kernel_rfl) (by kernel_rfl) (fun _ _ _ h => h) (Or.inl ⟨by rfl,?_⟩) (by assumption) ?_
  rotate_left
  · (intro w hSw; (try dsimp only at hSw); simp only [List.getElem_toArray,List.getElem_cons_zero,List.getElem_cons_succ]; go_simp; try with_reducible rfl)
  simp only [List.getElem_toArray,List.getElem_cons_zero,List.getElem_cons_succ,Act.put,List.setIfInBounds_toArray,List.set_cons_zero,List.set_cons_succ]
  refine wpAnyH_done (by kernel_rfl) ?_ _
  refine NoPanic.normal ?_
  all_goals go_wp2_with fail
  have hb:=(((Below.refl w2.heap.size w2).alloc (Nat.le_refl _) (.cells #[.int .u8 (c.toNat : Int)] 5)).drew.trans (hbo.mono (by simp))).trans (hbt.mono (by have:=hbo.size; simp at this; omega))
  refine Calls.mono (misfitAt_any g s _ v false _ _ (HP.out.below hb).rd) ?_
  rintro e w3 ⟨rfl,hs,hg3⟩
  go_wp2
  exact ⟨rfl,rfl,hs,grown_trans hg (grown_trans (grown_of_below hb _) hg3)⟩
theorem symbol_escEnd (g : Nat) (s : ByteArray) (a : Nat) (v : Value) (w : World) (h : PA w g s a v [92]) :
    Calls Tryz.prog 134 #[.pointer (some ⟨g,0,none⟩)] w fun e w' => e = .panicked (mis s.size) ∧ Stk w' g ∧ w.grownBy w' (some g):=by
  obtain ⟨c0,c1,c2,c3,f1,f2,f3⟩:=h.rd.all
  have HM:=hid (take_some g s a v 92 [] w h)
  clear h
  go_enter Tryz.func134,Tryz.ntmps134
  go_wp2_with fail
  refine Calls.mono HM.out ?_
  rintro e w1 ⟨rfl,hp,hg⟩
  have HM1:=hid (take_none g s (a + 1) v w1 hp)
  clear hp
  go_wp2_with fail
  refine Calls.mono HM1.out ?_
  rintro e w2 ⟨rfl,hs,hg2⟩
  exact ⟨rfl,rfl,hs,grown_trans hg hg2⟩
theorem symbol_hex0 (g : Nat) (s : ByteArray) (a : Nat) (v : Value)  (w : World) (h : PA w g s a v (92 :: 120 :: [])) :
    Calls Tryz.prog 134 #[.pointer (some ⟨g,0,none⟩)] w fun e w' => e = .panicked (mis s.size) ∧ Stk w' g ∧ w.grownBy w' (some g):=by
  obtain ⟨c0,c1,c2,c3,f1,f2,f3⟩:=h.rd.all
  have HM:=hid (take_some g s a v 92 (120 :: []) w h)
  clear h
  go_enter Tryz.func134,Tryz.ntmps134
  go_wp2_with fail
  refine Calls.mono HM.out ?_
  rintro e w1 ⟨rfl,hp,hg⟩
  have HM1:=hid (take_some g s (a + 1) v 120 ([]) w1 hp)
  clear hp c0 c1 c2 c3 f1 f2 f3
  go_wp2_with fail
  refine Calls.mono HM1.out ?_
  rintro e w2 ⟨rfl,hp,hg2⟩
  have hg3:=grown_trans hg hg2
  go_wp2_with fail
  refine Calls.mono (digit_end g s (a + 1 + 1) v _ _ hp) ?_
  rintro e w3 ⟨rfl,hs,hg4⟩
  exact ⟨rfl,rfl,hs,grown_trans hg3 hg4⟩
theorem symbol_hexBad1 (g : Nat) (s : ByteArray) (a : Nat) (v : Value) (x : UInt8) (t : List UInt8) (hx1 : hx x = none) (w : World) (h : PA w g s a v (92 :: 120 :: x :: t)) :
    Calls Tryz.prog 134 #[.pointer (some ⟨g,0,none⟩)] w fun e w' => e = .panicked (mis (a : Int)) ∧ Stk w' g ∧ w.grownBy w' (some g):=by
  obtain ⟨c0,c1,c2,c3,f1,f2,f3⟩:=h.rd.all
  have HM:=hid (take_some g s a v 92 (120 :: x :: t) w h)
  clear h
  go_enter Tryz.func134,Tryz.ntmps134
  go_wp2_with fail
  refine Calls.mono HM.out ?_
  rintro e w1 ⟨rfl,hp,hg⟩
  have HM1:=hid (take_some g s (a + 1) v 120 (x :: t) w1 hp)
  clear hp c0 c1 c2 c3 f1 f2 f3
  go_wp2_with fail
  refine Calls.mono HM1.out ?_
  rintro e w2 ⟨rfl,hp,hg2⟩
  have hg3:=grown_trans hg hg2
  go_wp2_with fail
  refine Calls.mono (digit_bad g s (a + 1 + 1) v x t _ hx1 _ hp) ?_
  rintro e w3 ⟨rfl,hs,hg4⟩
  exact ⟨rfl,rfl,hs,grown_trans hg3 hg4⟩
theorem symbol_hex1 (g : Nat) (s : ByteArray) (a : Nat) (v : Value) (x : UInt8) (p : Nat) (hx1 : hx x = some p) (w : World) (h : PA w g s a v (92 :: 120 :: [x])) :
    Calls Tryz.prog 134 #[.pointer (some ⟨g,0,none⟩)] w fun e w' => e = .panicked (mis s.size) ∧ Stk w' g ∧ w.grownBy w' (some g):=by
  obtain ⟨c0,c1,c2,c3,f1,f2,f3⟩:=h.rd.all
  have HM:=hid (take_some g s a v 92 (120 :: [x]) w h)
  clear h
  go_enter Tryz.func134,Tryz.ntmps134
  go_wp2_with fail
  refine Calls.mono HM.out ?_
  rintro e w1 ⟨rfl,hp,hg⟩
  have HM1:=hid (take_some g s (a + 1) v 120 ([x]) w1 hp)
  clear hp c0 c1 c2 c3 f1 f2 f3
  go_wp2_with fail
  refine Calls.mono HM1.out ?_
  rintro e w2 ⟨rfl,hp,hg2⟩
  have hg3:=grown_trans hg hg2
  go_wp2_with fail
  refine Calls.mono (digit_ok g s (a + 1 + 1) v x [] _ p hx1 _ hp) ?_
  rintro e w3 ⟨rfl,hp3,hg4⟩
  have hg5:=grown_trans hg3 hg4
  have HP3:=hid hp3
  have hpl:=hx_lt _ _ hx1
  have hm : IntKind.u8.wrap ((p : Int) * 16) = (p : Int) * 16:=by rw [IntKind.wrap_u8]; omega
  clear hp3 hp
  go_wp2_with fail
  refine Calls.mono (digit_end g s (a + 1 + 1 + 1) v _ _ HP3.out) ?_
  rintro e w4 ⟨rfl,hs,hg6⟩
  exact ⟨rfl,rfl,hs,grown_trans hg5 hg6⟩
theorem symbol_hexBad2 (g : Nat) (s : ByteArray) (a : Nat) (v : Value) (x y : UInt8) (r : List UInt8) (p : Nat) (hx1 : hx x = some p) (hx2 : hx y = none) (w : World) (h : PA w g s a v (92 :: 120 :: x :: y :: r)) :
    Calls Tryz.prog 134 #[.pointer (some ⟨g,0,none⟩)] w fun e w' => e = .panicked (mis (a : Int)) ∧ Stk w' g ∧ w.grownBy w' (some g):=by
  obtain ⟨c0,c1,c2,c3,f1,f2,f3⟩:=h.rd.all
  have HM:=hid (take_some g s a v 92 (120 :: x :: y :: r) w h)
  clear h
  go_enter Tryz.func134,Tryz.ntmps134
  go_wp2_with fail
  refine Calls.mono HM.out ?_
  rintro e w1 ⟨rfl,hp,hg⟩
  have HM1:=hid (take_some g s (a + 1) v 120 (x :: y :: r) w1 hp)
  clear hp c0 c1 c2 c3 f1 f2 f3
  go_wp2_with fail
  refine Calls.mono HM1.out ?_
  rintro e w2 ⟨rfl,hp,hg2⟩
  have hg3:=grown_trans hg hg2
  go_wp2_with fail
  refine Calls.mono (digit_ok g s (a + 1 + 1) v x (y :: r) _ p hx1 _ hp) ?_
  rintro e w3 ⟨rfl,hp3,hg4⟩
  have hg5:=grown_trans hg3 hg4
  have HP3:=hid hp3
  have hpl:=hx_lt _ _ hx1
  have hm : IntKind.u8.wrap ((p : Int) * 16) = (p : Int) * 16:=by rw [IntKind.wrap_u8]; omega
  clear hp3 hp
  go_wp2_with fail
  refine Calls.mono (digit_bad g s (a + 1 + 1 + 1) v y r _ hx2 _ HP3.out) ?_
  rintro e w4 ⟨rfl,hs,hg6⟩
  exact ⟨rfl,rfl,hs,grown_trans hg5 hg6⟩
theorem symbol_hex (g : Nat) (s : ByteArray) (a : Nat) (v : Value) (x y : UInt8) (r : List UInt8) (p q : Nat) (hx1 : hx x = some p) (hx2 : hx y = some q) (w : World) (h : PA w g s a v (92 :: 120 :: x :: y :: r)) :
    Calls Tryz.prog 134 #[.pointer (some ⟨g,0,none⟩)] w fun e w' => e = .returned (.int .u8 ((p * 16 + q : Nat) : Int)) ∧ PA w' g s (a + 4) v r ∧ w.grownBy w' (some g):=by
  obtain ⟨c0,c1,c2,c3,f1,f2,f3⟩:=h.rd.all
  have HM:=hid (take_some g s a v 92 (120 :: x :: y :: r) w h)
  clear h
  go_enter Tryz.func134,Tryz.ntmps134
  go_wp2_with fail
  refine Calls.mono HM.out ?_
  rintro e w1 ⟨rfl,hp,hg⟩
  have HM1:=hid (take_some g s (a + 1) v 120 (x :: y :: r) w1 hp)
  clear hp c0 c1 c2 c3 f1 f2 f3
  go_wp2_with fail
  refine Calls.mono HM1.out ?_
  rintro e w2 ⟨rfl,hp,hg2⟩
  have hg3:=grown_trans hg hg2
  go_wp2_with fail
  refine Calls.mono (digit_ok g s (a + 1 + 1) v x (y :: r) _ p hx1 _ hp) ?_
  rintro e w3 ⟨rfl,hp3,hg4⟩
  have hg5:=grown_trans hg3 hg4
  have HP3:=hid hp3
  have hpl:=hx_lt _ _ hx1
  have hm : IntKind.u8.wrap ((p : Int) * 16) = (p : Int) * 16:=by rw [IntKind.wrap_u8]; omega
  clear hp3 hp
  go_wp2_with fail
  refine Calls.mono (digit_ok g s (a + 1 + 1 + 1) v y r _ q hx2 _ HP3.out) ?_
  rintro e w4 ⟨rfl,hp4,hg6⟩
  have hql:=hx_lt _ _ hx2
  have ha : IntKind.u8.wrap ((p : Int) * 16 + (q : Int)) = (p : Int) * 16 + (q : Int):=by rw [IntKind.wrap_u8]; omega
  go_wp2
  go_ret
  exact ⟨ret_int (by show (p : Int) * 16 + (q : Int) = _; omega),hp4,grown_trans hg5 hg6⟩
theorem symbol_ok (g : Nat) (s : ByteArray) (a : Nat) (v : Value) (l : List UInt8) (b : Nat) (r : List UInt8) (hr : rd1 l = .ok (b,r)) (w : World) (h : PA w g s a v l) :
    Calls Tryz.prog 134 #[.pointer (some ⟨g,0,none⟩)] w fun e w' => e = .returned (.int .u8 (b : Int)) ∧ (∃ a',PA w' g s a' v r) ∧ w.grownBy w' (some g):=by
  cases l with
  | nil => simp [rd1] at hr
  | cons c l =>
    rw [rd1] at hr
    split at hr
    · rename_i hc
      subst hc
      cases l with
      | nil => simp [rdEsc] at hr
      | cons d l =>
        rw [rdEsc] at hr
        split at hr
        · rename_i hd
          injection hr with hr
          injection hr with h1 h2
          subst h1; subst h2
          have hd2 : d ≠ 120:=by rintro rfl; revert hd; decide
          exact (symbol_esc g s a v d l hd2 w h ((bt_esc d).2 hd)).mono fun _ _ x => ⟨x.1,⟨_,x.2.1⟩,x.2.2⟩
        · split at hr
          · rename_i hd
            subst hd
            match l,hr with
            | [],hr => simp [rdHex] at hr
            | [x],hr => simp only [rdHex] at hr; split at hr <;> cases hr
            | x :: y :: l,hr =>
              simp only [rdHex] at hr
              split at hr
              · rename_i p q h1 h2
                injection hr with hr
                injection hr with h3 h4
                subst h3; subst h4
                exact (symbol_hex g s a v x y l p q h1 h2 w h).mono fun _ _ x => ⟨x.1,⟨_,x.2.1⟩,x.2.2⟩
              · cases hr
          · cases hr
    · rename_i hc
      split at hr
      · cases hr
      · rename_i h2
        injection hr with hr
        injection hr with h3 h4
        subst h3; subst h4
        exact (symbol_bare g s a v c l hc w h ((bt_bare c).2 h2)).mono fun _ _ x => ⟨x.1,⟨_,x.2.1⟩,x.2.2⟩
theorem symbol_bad (g : Nat) (s : ByteArray) (a : Nat) (v : Value) (l : List UInt8) (k : Nat) (hr : rd1 l = .error k) (w : World) (h : PA w g s a v l) :
    Calls Tryz.prog 134 #[.pointer (some ⟨g,0,none⟩)] w fun e w' => e = .panicked (mis ((s.size : Int) - (k : Int))) ∧ Stk w' g ∧ w.grownBy w' (some g):=by
  have hle:=h.le
  have e0 : mis (s.size : Int) = mis ((s.size : Int) - ((0 : Nat) : Int)):=by simp
  have e1 : mis (a : Int) = mis ((s.size : Int) - (l.length : Int)):=by rw [← hle]; congr 1; omega
  cases l with
  | nil =>
    simp [rd1] at hr
    subst hr
    rw [← e0]
    exact symbol_end g s a v w h
  | cons c l =>
    rw [rd1] at hr
    split at hr
    · rename_i hc
      subst hc
      cases l with
      | nil =>
        simp [rdEsc] at hr
        subst hr
        rw [← e0]
        exact symbol_escEnd g s a v w h
      | cons d l =>
        rw [rdEsc] at hr
        split at hr
        · cases hr
        · rename_i hd
          split at hr
          · rename_i hd
            subst hd
            match l,hr with
            | [],hr =>
              simp [rdHex] at hr
              subst hr
              rw [← e0]
              exact symbol_hex0 g s a v w h
            | [x],hr =>
              simp only [rdHex] at hr
              split at hr
              · rename_i hs
                injection hr with hr
                subst hr
                rw [← e0]
                obtain ⟨p,hp⟩:=Option.isSome_iff_exists.1 hs
                exact symbol_hex1 g s a v x p hp w h
              · rename_i hs
                injection hr with hr
                subst hr
                have hn : hx x = none:=by simpa using hs
                rw [show ((([120,x] : List UInt8).length + 1 : Nat) : Int) = (([92,120,x] : List UInt8).length : Int) from rfl,← e1]
                exact symbol_hexBad1 g s a v x [] hn w h
            | x :: y :: l,hr =>
              simp only [rdHex] at hr
              split at hr
              · cases hr
              · rename_i hno
                injection hr with hr
                subst hr
                rw [show (((120 :: x :: y :: l : List UInt8).length + 1 : Nat) : Int) = ((92 :: 120 :: x :: y :: l : List UInt8).length : Int) from rfl,← e1]
                cases h1 : hx x with
                | none => exact symbol_hexBad1 g s a v x _ h1 w h
                | some p =>
                  cases h2 : hx y with
                  | none => exact symbol_hexBad2 g s a v x y l p h1 h2 w h
                  | some q => exact (hno p q h1 h2).elim
          · rename_i hd2
            injection hr with hr
            subst hr
            rw [show (((d :: l : List UInt8).length + 1 : Nat) : Int) = ((92 :: d :: l : List UInt8).length : Int) from rfl,← e1]
            exact symbol_escBad g s a v d l hd2 w h (fun e => hd ((bt_esc d).1 e))
    · rename_i hc
      split at hr
      · rename_i h2
        injection hr with hr
        subst hr
        rw [show ((l.length + 1 : Nat) : Int) = ((c :: l : List UInt8).length : Int) from rfl,← e1]
        exact symbol_bareBad g s a v c l hc w h (fun e => (bt_bare c).1 e h2)
      · cases hr
def rng (lo : Nat) : Nat → C4
  | 0 => z4
  | n + 1 => (rng lo n).add ((lo + n : Nat) : Int)
theorem rng_ok (lo : Nat) : ∀ n,(rng lo n).ok
  | 0 => z4_ok
  | n + 1 => C4.add_ok (rng_ok lo n) _
theorem range_bad (lo hi : Nat) (hl : lo < 256) (hh : hi < 256) (h : hi < lo) (w : World) :
    Calls Tryz.prog 155 #[.int .u8 lo,.int .u8 hi] w fun e w' => e = .returned (.tuple #[z4.v,.iface 32 (.int .i64 1)]) ∧ Below w.heap.size w w':=by
  have h2 : (hi : Int) < (lo : Int):=by omega
  go_enter Tryz.func155,Tryz.ntmps155
  go_wp2
  refine bodyPost_ret (v:=.tuple #[z4.v,.iface 32 (.int .i64 1)]) (by simp [results,Tryz.results155,go_sem,z4]) rfl ⟨rfl,?_⟩
  exact (Below.refl _ _).alloc (Nat.le_refl _) _
theorem range_good (lo hi : Nat) (hl : lo < 256) (hh : hi < 256) (h : lo ≤ hi) (w : World) :
    Calls Tryz.prog 155 #[.int .u8 lo,.int .u8 hi] w fun e w' => e = .returned (.tuple #[(rng lo (hi + 1 - lo)).v,.nilIface]) ∧ Below w.heap.size w w':=by
  have h2 : ¬ (hi : Int) < (lo : Int):=by omega
  go_enter Tryz.func155,Tryz.ntmps155
  go_wp2
  go_loopw [7] (fun v wr => ∃ n : Nat,n ≤ hi + 1 - lo ∧ v = .int .i64 ((lo : Int) + (n : Int)) ∧ Below w.heap.size w wr ∧ Hb wr w.heap.size z4 ∧ Hb wr (w.heap.size + 1) (rng lo n)) (fun v _ => hi + 1 - (intOf v).toNat)
  case atStart =>
    refine ⟨0,by omega,by go_num,?_,?_,?_⟩
    · exact ((Below.refl _ _).alloc (Nat.le_refl _) _).alloc (by simp) _
    · exact (Hb.new _ z4 _ rfl).alloc _
    · exact Hb.new _ z4 _ (by simp)
  case round =>
    obtain ⟨n,hn,rfl,hB,hZ,hC⟩:=hrel
    obtain ⟨c0,c1,c2,c3,e0,e1,e2,e3⟩:=hC.all
    by_cases hlt : n < hi + 1 - lo
    · have i1 : (lo : Int) + (n : Int) ≤ (hi : Int):=by omega
      have HR : Hid (rng lo (n + 1) = (rng lo n).add ((lo : Int) + (n : Int))):=by show _ = _; rw [rng,Int.natCast_add]
      go_wp2_with fail
      refine (with_any (rng lo n) _ _ (by omega) (by omega)).mono ?_
      rintro e w1 ⟨rfl,hb1⟩
      have hC1:=hC.below hb1 hC.lt
      obtain ⟨g0,g1,g2,g3,q0,q1,q2,q3⟩:=hC1.all
      go_wp2
      refine ⟨⟨n + 1,by omega,by go_num,?_,?_,?_⟩,by simp [intOf]; omega⟩
      · exact below_put4 (hB.trans (hb1.mono hB.size)) (by omega) _
      · exact Hb.other4 (hZ.below hb1 hZ.lt) _ (by omega)
      · rw [HR.out]; exact hC1.put4 _
    · have i1 : ¬ (lo : Int) + (n : Int) ≤ (hi : Int):=by omega
      have hn2 : n = hi + 1 - lo:=by omega
      have HN:=(show Hid _ from hn2)
      clear hn2
      obtain ⟨d0,d1,d2,d3,f0,f1,f2,f3⟩:=hZ.all
      go_wp2
      have hq:=hZ.put4 (rng lo n)
      rw [← HN.out]
      refine bodyPost_ret (v:=.tuple #[(rng lo n).v,.nilIface]) (by simp [results,Tryz.results155,go_sem,hq.c0,hq.c1,hq.c2,hq.c3]) rfl ⟨rfl,?_⟩
      exact below_put4 hB (by omega) _
theorem Hb.grown {w w' : World} {b g : Nat} {k : C4} (h : Hb w b k) (hg : w.grownBy w' (some g)) (hne : b ≠ g) : Hb w' b k:=(hg.block b h.lt (by intro e; injection e with e; exact hne e)).trans h
theorem grown_below {w w1 w2 : World} {row : Option Nat} (h1 : w.grownBy w1 row) (h2 : Below w.heap.size w1 w2) : w.grownBy w2 row :=
  ⟨h2.os.trans h1.os,h2.tape.trans h1.tape,h2.output.trans h1.output,Nat.le_trans h1.size h2.size,fun k hk hn => (h2.block k hk).trans (h1.block k hk hn)⟩
theorem PA.belowB {w w' : World} {g B : Nat} {s : ByteArray} {a : Nat} {v : Value} {l : List UInt8} (h : PA w g s a v l) (hb : Below B w w') (hg : g < B) : PA w' g s a v l:=⟨(hb.block g hg).trans h.rd,h.at',h.le,h.small⟩
theorem new_block (w : World) (o : Obj) : Below w.heap.size w (w.alloc o):=(Below.refl _ _).alloc (Nat.le_refl _) _
theorem PA.place {w : World} {g : Nat} {s : ByteArray} {a : Nat} {v : Value} {l : List UInt8} (h : PA w g s a v l) : mis (a : Int) = mis ((s.size : Int) - (l.length : Int)):=by
  rw [← h.le]; congr 1; omega
theorem item_bad1 (g : Nat) (s : ByteArray) (a : Nat) (v : Value) (l : List UInt8) (k : Nat) (hr : rd1 l = .error k) (w : World) (h : PA w g s a v l) :
    Calls Tryz.prog 146 #[.pointer (some ⟨g,0,none⟩)] w fun e w' => e = .panicked (mis ((s.size : Int) - (k : Int))) ∧ Stk w' g ∧ w.grownBy w' (some g):=by
  obtain ⟨c0,c1,c2,c3,f1,f2,f3⟩:=h.rd.ca
  have HM:=hid (fun o => symbol_bad g s a v l k hr (w.alloc o) (h.below (new_block w o)))
  clear h hr
  go_enter Tryz.func146,Tryz.ntmps146
  go_wp2_with fail
  refine Calls.mono (HM.out _) ?_
  rintro e w1 ⟨rfl,hs,hg⟩
  exact ⟨rfl,rfl,hs,grown_trans (grown_of_below (new_block _ _) _) hg⟩
theorem item_one (g : Nat) (s : ByteArray) (a : Nat) (v : Value) (l : List UInt8) (lo : Nat) (l1 : List UInt8) (hr : rd1 l = .ok (lo,l1)) (hl1 : l1.head? ≠ some 45) (w : World) (h : PA w g s a v l) :
    Calls Tryz.prog 146 #[.pointer (some ⟨g,0,none⟩)] w fun e w' => e = .returned (rng lo 1).v ∧ (∃ a',PA w' g s a' v l1) ∧ w.grownBy w' (some g):=by
  obtain ⟨c0,c1,c2,c3,f1,f2,f3⟩:=h.rd.ca
  have hlt:=h.lt
  have HE:=hid h.place
  have HL : Hid (lo < 256):=(rd1_len l lo l1 hr).2
  have HM:=hid (fun o => symbol_ok g s a v l lo l1 hr (w.alloc o) (h.below (new_block w o)))
  clear h hr
  go_enter Tryz.func146,Tryz.ntmps146
  go_wp2_with fail
  refine Calls.mono (HM.out _) ?_
  rintro e w1 ⟨rfl,⟨a1,hp⟩,hg⟩
  have hZ : Hb w1 w.heap.size z4:=(Hb.new w z4 _ rfl).grown hg (by omega)
  have hg1:=grown_trans (grown_of_below (new_block w (.cells z4.cells 104)) (some g)) hg
  clear c0 c1 c2 c3 f1 f2 f3 hg
  have HZ:=hid hZ
  clear hZ
  go_wp2_with fail
  refine Calls.mono (skip_no g s a1 v l1 45 _ rfl _ hp hl1) ?_
  rintro e w2 ⟨rfl,hb2⟩
  have HP:=hid (hp.below hb2)
  have HZ2:=hid (HZ.out.below hb2 HZ.out.lt)
  have hg2:=grown_trans hg1 (grown_of_below hb2 _)
  have HG:=hid hg2
  clear hp hb2 hg1 hg2 HZ
  go_wp2_with fail
  refine Calls.mono (range_good lo lo HL.out HL.out (Nat.le_refl _) _) ?_
  rintro e w3 ⟨rfl,hb3⟩
  have HP3:=hid (HP.out.below hb3)
  have hZ3:=HZ2.out.below hb3 HZ2.out.lt
  have HG3:=hid (grown_trans HG.out (grown_of_below hb3 _))
  have HR : Hid (lo + 1 - lo = 1):=by show _ = _; omega
  rw [HR.out]
  clear HP HZ2 HG hb3 HM
  obtain ⟨k,hk⟩ : ∃ k,k = rng lo 1:=⟨_,rfl⟩
  rw [← hk]
  obtain ⟨d0,d1,d2,d3⟩:=hZ3.ca
  have HZ3:=hid hZ3
  have HK:=hid hk
  have n0 : ¬ w.heap.size = w3.heap.size:=by have:=hZ3.lt; omega
  have n1 : ¬ w3.heap.size = w.heap.size:=by omega
  have hf : ∀ o i,(w3.alloc o).frozen? ⟨w.heap.size,i,none⟩ = false:=fun o i => (hZ3.alloc o).frozen i
  clear hk hZ3
  go_wp2
  have hq:=(HZ3.out.alloc (.cells k.cells 104)).put4 k
  have hB : Below w.heap.size w3 (put4 (w3.alloc (.cells k.cells 104)) w.heap.size k):=below_put4 ((Below.refl _ _).alloc (by have:=HZ3.out.lt; omega) _) (Nat.le_refl _) k
  refine bodyPost_ret (v:=k.v) (by simp [results,Tryz.results146,go_sem,hq.c0,hq.c1,hq.c2,hq.c3]) rfl ⟨by rw [HK.out],⟨a1,HP3.out.belowB hB hlt⟩,grown_below HG3.out hB⟩
theorem item_two (g : Nat) (s : ByteArray) (a : Nat) (v : Value) (l : List UInt8) (lo : Nat) (l1 : List UInt8) (hr : rd1 l = .ok (lo,l1)) (hl1 : l1.head? = some 45) (hi : Nat) (l2 : List UInt8) (hr2 : rd1 l1.tail = .ok (hi,l2)) (hle : lo ≤ hi) (w : World) (h : PA w g s a v l) :
    Calls Tryz.prog 146 #[.pointer (some ⟨g,0,none⟩)] w fun e w' => e = .returned (rng lo (hi + 1 - lo)).v ∧ (∃ a',PA w' g s a' v l2) ∧ w.grownBy w' (some g):=by
  obtain ⟨c0,c1,c2,c3,f1,f2,f3⟩:=h.rd.ca
  have hlt:=h.lt
  have HE:=hid h.place
  have HL : Hid (lo < 256):=(rd1_len l lo l1 hr).2
  have HM:=hid (fun o => symbol_ok g s a v l lo l1 hr (w.alloc o) (h.below (new_block w o)))
  clear h hr
  go_enter Tryz.func146,Tryz.ntmps146
  go_wp2_with fail
  refine Calls.mono (HM.out _) ?_
  rintro e w1 ⟨rfl,⟨a1,hp⟩,hg⟩
  have hZ : Hb w1 w.heap.size z4:=(Hb.new w z4 _ rfl).grown hg (by omega)
  have hg1:=grown_trans (grown_of_below (new_block w (.cells z4.cells 104)) (some g)) hg
  clear c0 c1 c2 c3 f1 f2 f3 hg
  have HZ:=hid hZ
  clear hZ
  go_wp2_with fail
  obtain ⟨e1,_⟩:=tail_len l1 _ hl1
  have hp' : PA w1 g s a1 v (45 :: l1.tail):=by rw [← e1]; exact hp
  clear e1 hl1
  refine Calls.mono (skip_yes g s a1 v l1.tail 45 _ rfl _ hp') ?_
  rintro e w2 ⟨rfl,hp2,hg2⟩
  have HZ2:=hid (HZ.out.grown hg2 (by omega))
  have HG:=hid (grown_trans hg1 hg2)
  clear hp hp' hg2 hg1 HZ
  go_wp2_with fail
  refine Calls.mono (symbol_ok g s _ v _ hi l2 hr2 _ hp2) ?_
  rintro e w3 ⟨rfl,⟨a3,hp3⟩,hg3⟩
  have HP:=hid hp3
  replace HZ2:=hid (HZ2.out.grown hg3 (by omega))
  replace HG:=hid (grown_trans HG.out hg3)
  have HH : Hid (hi < 256):=(rd1_len _ hi l2 hr2).2
  clear hp2 hp3 hg3 hr2
  go_wp2_with fail
  refine Calls.mono (range_good lo hi HL.out HH.out hle _) ?_
  rintro e w4 ⟨rfl,hb3⟩
  have HP3:=hid (HP.out.below hb3)
  have hZ3:=HZ2.out.below hb3 HZ2.out.lt
  have HG3:=hid (grown_trans HG.out (grown_of_below hb3 _))
  clear HP HZ2 HG hb3 HM
  obtain ⟨k,hk⟩ : ∃ k,k = rng lo (hi + 1 - lo):=⟨_,rfl⟩
  rw [← hk]
  obtain ⟨d0,d1,d2,d3⟩:=hZ3.ca
  have HZ3:=hid hZ3
  have HK:=hid hk
  have n0 : ¬ w.heap.size = w4.heap.size:=by have:=hZ3.lt; omega
  have n1 : ¬ w4.heap.size = w.heap.size:=by omega
  have hf : ∀ o i,(w4.alloc o).frozen? ⟨w.heap.size,i,none⟩ = false:=fun o i => (hZ3.alloc o).frozen i
  clear hk hZ3
  go_wp2
  have hq:=(HZ3.out.alloc (.cells k.cells 104)).put4 k
  have hB : Below w.heap.size w4 (put4 (w4.alloc (.cells k.cells 104)) w.heap.size k):=below_put4 ((Below.refl _ _).alloc (by have:=HZ3.out.lt; omega) _) (Nat.le_refl _) k
  refine bodyPost_ret (v:=k.v) (by simp [results,Tryz.results146,go_sem,hq.c0,hq.c1,hq.c2,hq.c3]) rfl ⟨by rw [HK.out],⟨a3,HP3.out.belowB hB hlt⟩,grown_below HG3.out hB⟩
theorem item_bad2 (g : Nat) (s : ByteArray) (a : Nat) (v : Value) (l : List UInt8) (lo : Nat) (l1 : List UInt8) (hr : rd1 l = .ok (lo,l1)) (hl1 : l1.head? = some 45) (k : Nat) (hr2 : rd1 l1.tail = .error k) (w : World) (h : PA w g s a v l) :
    Calls Tryz.prog 146 #[.pointer (some ⟨g,0,none⟩)] w fun e w' => e = .panicked (mis ((s.size : Int) - (k : Int))) ∧ Stk w' g ∧ w.grownBy w' (some g):=by
  obtain ⟨c0,c1,c2,c3,f1,f2,f3⟩:=h.rd.ca
  have hlt:=h.lt
  have HE:=hid h.place
  have HL : Hid (lo < 256):=(rd1_len l lo l1 hr).2
  have HM:=hid (fun o => symbol_ok g s a v l lo l1 hr (w.alloc o) (h.below (new_block w o)))
  clear h hr
  go_enter Tryz.func146,Tryz.ntmps146
  go_wp2_with fail
  refine Calls.mono (HM.out _) ?_
  rintro e w1 ⟨rfl,⟨a1,hp⟩,hg⟩
  have hZ : Hb w1 w.heap.size z4:=(Hb.new w z4 _ rfl).grown hg (by omega)
  have hg1:=grown_trans (grown_of_below (new_block w (.cells z4.cells 104)) (some g)) hg
  clear c0 c1 c2 c3 f1 f2 f3 hg
  have HZ:=hid hZ
  clear hZ
  go_wp2_with fail
  obtain ⟨e1,_⟩:=tail_len l1 _ hl1
  have hp' : PA w1 g s a1 v (45 :: l1.tail):=by rw [← e1]; exact hp
  clear e1 hl1
  refine Calls.mono (skip_yes g s a1 v l1.tail 45 _ rfl _ hp') ?_
  rintro e w2 ⟨rfl,hp2,hg2⟩
  have HZ2:=hid (HZ.out.grown hg2 (by omega))
  have HG:=hid (grown_trans hg1 hg2)
  clear hp hp' hg2 hg1 HZ
  go_wp2_with fail
  refine Calls.mono (symbol_bad g s _ v _ k hr2 _ hp2) ?_
  rintro e w3 ⟨rfl,hs,hg3⟩
  exact ⟨rfl,rfl,hs,grown_trans HG.out hg3⟩
theorem item_bad3 (g : Nat) (s : ByteArray) (a : Nat) (v : Value) (l : List UInt8) (lo : Nat) (l1 : List UInt8) (hr : rd1 l = .ok (lo,l1)) (hl1 : l1.head? = some 45) (hi : Nat) (l2 : List UInt8) (hr2 : rd1 l1.tail = .ok (hi,l2)) (hle : hi < lo) (w : World) (h : PA w g s a v l) :
    Calls Tryz.prog 146 #[.pointer (some ⟨g,0,none⟩)] w fun e w' => e = .panicked (mis ((s.size : Int) - (l.length : Int))) ∧ Stk w' g ∧ w.grownBy w' (some g):=by
  obtain ⟨c0,c1,c2,c3,f1,f2,f3⟩:=h.rd.ca
  have hlt:=h.lt
  have HE:=hid h.place
  have HL : Hid (lo < 256):=(rd1_len l lo l1 hr).2
  have HM:=hid (fun o => symbol_ok g s a v l lo l1 hr (w.alloc o) (h.below (new_block w o)))
  clear h hr
  go_enter Tryz.func146,Tryz.ntmps146
  go_wp2_with fail
  refine Calls.mono (HM.out _) ?_
  rintro e w1 ⟨rfl,⟨a1,hp⟩,hg⟩
  have hZ : Hb w1 w.heap.size z4:=(Hb.new w z4 _ rfl).grown hg (by omega)
  have hg1:=grown_trans (grown_of_below (new_block w (.cells z4.cells 104)) (some g)) hg
  clear c0 c1 c2 c3 f1 f2 f3 hg
  have HZ:=hid hZ
  clear hZ
  go_wp2_with fail
  obtain ⟨e1,_⟩:=tail_len l1 _ hl1
  have hp' : PA w1 g s a1 v (45 :: l1.tail):=by rw [← e1]; exact hp
  clear e1 hl1
  refine Calls.mono (skip_yes g s a1 v l1.tail 45 _ rfl _ hp') ?_
  rintro e w2 ⟨rfl,hp2,hg2⟩
  have HZ2:=hid (HZ.out.grown hg2 (by omega))
  have HG:=hid (grown_trans hg1 hg2)
  clear hp hp' hg2 hg1 HZ
  go_wp2_with fail
  refine Calls.mono (symbol_ok g s _ v _ hi l2 hr2 _ hp2) ?_
  rintro e w3 ⟨rfl,⟨a3,hp3⟩,hg3⟩
  have HP:=hid hp3
  replace HZ2:=hid (HZ2.out.grown hg3 (by omega))
  replace HG:=hid (grown_trans HG.out hg3)
  have HH : Hid (hi < 256):=(rd1_len _ hi l2 hr2).2
  clear hp2 hp3 hg3 hr2
  go_wp2_with fail
  refine Calls.mono (range_bad lo hi HL.out HH.out hle _) ?_
  rintro e w4 ⟨rfl,hb4⟩
  have HP3:=hid (HP.out.below hb4)
  have HG3:=hid (grown_trans HG.out (grown_of_below hb4 _))
  clear HP HZ2 HG hb4 HM
  go_wp2_with fail
  refine Calls.mono (misfitAt_any g s _ v false _ _ (HP3.out.below (new_block _ _)).rd) ?_
  rintro e w5 ⟨rfl,hs,hg5⟩
  go_wp2
  refine ⟨rfl,?_,hs,grown_trans HG3.out (grown_trans (grown_of_below (new_block _ _) _) hg5)⟩
  rw [← HE.out]
  rfl
theorem rng_addTo (lo : Nat) : ∀ n,rng lo n = addTo z4 lo n
  | 0 => rfl
  | n + 1 => by rw [rng,addTo,rng_addTo lo n]
theorem or_rng {c : C4} (hc : c.ok) (lo n : Nat) (h : lo + n ≤ 256) : c.or (rng lo n) = addTo c lo n:=by
  apply C4.ext_has (C4.or_ok hc (rng_ok lo n)) (addTo_ok hc lo n)
  intro j hj
  rw [C4.has_or hc (rng_ok lo n),rng_addTo,addTo_has z4_ok lo n h j hj,addTo_has hc lo n h j hj,z4_has]
  simp
def PanicIs (C : List PanicEntry → List Deferred → World → Prop) (Q : Exit → Act → World → Prop) : Exit → Act → World → Prop
  | .panic c,a,w => C c a.defers w
  | e,a,w => Q e a w
theorem PanicIs.normal {C : List PanicEntry → List Deferred → World → Prop} {Q : Exit → Act → World → Prop} {a : Act} {w : World} (h : Q .normal a w) : PanicIs C Q .normal a w:=h
theorem wp_panicIs {c : Code} {Q : Exit → Act → World → Prop} {a : Act} {w : World} (C : List PanicEntry → List Deferred → World → Prop) (hC : ∀ c a w,C c a.defers w → Q (.panic c) a w) (h : c.wp Tryz.prog (PanicIs C Q) a w) : c.wp Tryz.prog Q a w :=
  Code.wp_mono (fun e a w h => by
    cases e <;> first | exact hC _ _ _ h | exact h) h
def dclose (g : Nat) (b : Int) : Deferred:={ target:=.fn (.func 144) #[],args:=#[.pointer (some ⟨g,0,none⟩),.int .u8 b] }
theorem door_stuck (fn : Func) (R : Ending → World → Prop) (tmps : Array Value) (z b : Int) (g : Nat) (w : World) (hs : Stk w g) (hR : ∀ w',Below w.heap.size w w' → R (.panicked (mis z)) w') :
    Leaves Tryz.prog fn tmps R [dclose g b] (.panicking (mis z)) w:=by
  refine leaves_cons (f:=144) (args:=#[.pointer (some ⟨g,0,none⟩),.int .u8 b]) (by simp) (by simp [go_sem]) ?_
  refine (close_stuck g b _ w hs).mono ?_
  rintro e u' w' ⟨rfl,rfl,hb⟩
  exact hR w' hb
theorem door_no (fn : Func) (R : Ending → World → Prop) (tmps : Array Value) (b : UInt8) (g : Nat) (s : ByteArray) (a : Nat) (v : Value) (l : List UInt8) (w : World) (hp : PA w g s a v l) (hl : l.head? ≠ some b) (hR : ∀ w',Stk w' g → w.grownBy w' (some g) → R (.panicked (mis ((s.size : Int) - (l.length : Int)))) w') :
    Leaves Tryz.prog fn tmps R [dclose g (b.toNat : Int)] .returning w:=by
  refine leaves_cons (f:=144) (args:=#[.pointer (some ⟨g,0,none⟩),.int .u8 (b.toNat : Int)]) (by simp) (by simp [go_sem]) ?_
  refine (close_no g s a v l b _ w hp hl).mono ?_
  rintro e u' w' ⟨rfl,rfl,hs,hg⟩
  exact hR w' hs hg
theorem door_yes (fn : Func) (R : Ending → World → Prop) (tmps : Array Value) (b : UInt8) (g : Nat) (s : ByteArray) (a : Nat) (v : Value) (r : List UInt8) (w : World) (hp : PA w g s a v (b :: r)) (hR : ∀ w',PA w' g s (a + 1) v r → w.grownBy w' (some g) → ∃ x,(results fn tmps).run Tryz.prog w' = .ok x w' ∧ R (.returned x) w') :
    Leaves Tryz.prog fn tmps R [dclose g (b.toNat : Int)] .returning w:=by
  refine leaves_cons (f:=144) (args:=#[.pointer (some ⟨g,0,none⟩),.int .u8 (b.toNat : Int)]) (by simp) (by simp [go_sem]) ?_
  refine (close_yes g s a v r b _ w hp).mono ?_
  rintro e u' w' ⟨rfl,rfl,hp',hg⟩
  exact hR w' hp' hg
def plc (w : World) (g : Nat) : Nat:=match w.cell? ⟨g,1,none⟩ with
  | some (.int _ z) => z.toNat
  | _ => 0
theorem PA.plc {w : World} {g : Nat} {s : ByteArray} {a : Nat} {v : Value} {l : List UInt8} (h : PA w g s a v l) : Go.Proofs.YtcjghhedphmhkaaGreatDoor.plc w g = a:=by
  rw [Go.Proofs.YtcjghhedphmhkaaGreatDoor.plc,h.rd.all.2.1]
  simp
def itm (l : List UInt8) : Except Nat (Nat × Nat × List UInt8) :=
  match rd1 l with
  | .error k => .error k
  | .ok (lo,l1) =>
    if l1.head? = some 45 then
      match rd1 l1.tail with
      | .error k => .error k
      | .ok (hi,l2) => if hi < lo then .error l.length else .ok (lo,hi + 1 - lo,l2)
    else .ok (lo,1,l1)
theorem items_itm (f : Nat) (c : C4) (l : List UInt8) (h : l.head? ≠ some 93) : items (f + 1) c l = match itm l with
    | .error k => .error k
    | .ok (lo,n,r) => items f (addTo c lo n) r:=by
  rw [items,if_neg h,itm]
  cases rd1 l with
  | error k => rfl
  | ok p =>
    obtain ⟨lo,l1⟩:=p
    simp only
    split
    · cases rd1 l1.tail with
      | error k => rfl
      | ok q =>
        obtain ⟨hi,l2⟩:=q
        simp only
        split <;> rfl
    · simp only
      rfl
theorem itm_len (l : List UInt8) (lo n : Nat) (r : List UInt8) (h : itm l = .ok (lo,n,r)) : lo + n ≤ 256 ∧ r.length < l.length:=by
  rw [itm] at h
  cases h1 : rd1 l with
  | error k => rw [h1] at h; cases h
  | ok p =>
    obtain ⟨lo',l1⟩:=p
    have g1:=rd1_len l lo' l1 h1
    rw [h1] at h
    simp only at h
    split at h
    · rename_i hh
      have g2:=(tail_len l1 _ hh).2
      cases h2 : rd1 l1.tail with
      | error k => rw [h2] at h; cases h
      | ok q =>
        obtain ⟨hi,l2⟩:=q
        have g3:=rd1_len _ hi l2 h2
        rw [h2] at h
        simp only at h
        split at h
        · cases h
        · injection h with h
          injection h with ha hb
          injection hb with hb hc
          subst ha; subst hb; subst hc
          omega
    · injection h with h
      injection h with ha hb
      injection hb with hb hc
      subst ha; subst hb; subst hc
      omega
theorem item_ok (g : Nat) (s : ByteArray) (a : Nat) (v : Value) (l : List UInt8) (lo n : Nat) (r : List UInt8) (hr : itm l = .ok (lo,n,r)) (w : World) (h : PA w g s a v l) :
    Calls Tryz.prog 146 #[.pointer (some ⟨g,0,none⟩)] w fun e w' => e = .returned (rng lo n).v ∧ (∃ a',PA w' g s a' v r) ∧ w.grownBy w' (some g):=by
  rw [itm] at hr
  cases h1 : rd1 l with
  | error k => rw [h1] at hr; cases hr
  | ok p =>
    obtain ⟨lo',l1⟩:=p
    rw [h1] at hr
    simp only at hr
    split at hr
    · rename_i hh
      cases h2 : rd1 l1.tail with
      | error k => rw [h2] at hr; cases hr
      | ok q =>
        obtain ⟨hi,l2⟩:=q
        rw [h2] at hr
        simp only at hr
        split at hr
        · cases hr
        · rename_i hlo
          injection hr with hr
          injection hr with ha hb
          injection hb with hb hc
          subst ha; subst hb; subst hc
          exact item_two g s a v l lo' l1 h1 hh hi l2 h2 (by omega) w h
    · rename_i hh
      injection hr with hr
      injection hr with ha hb
      injection hb with hb hc
      subst ha; subst hb; subst hc
      exact item_one g s a v l lo' l1 h1 hh w h
theorem item_bad (g : Nat) (s : ByteArray) (a : Nat) (v : Value) (l : List UInt8) (k : Nat) (hr : itm l = .error k) (w : World) (h : PA w g s a v l) :
    Calls Tryz.prog 146 #[.pointer (some ⟨g,0,none⟩)] w fun e w' => e = .panicked (mis ((s.size : Int) - (k : Int))) ∧ Stk w' g ∧ w.grownBy w' (some g):=by
  rw [itm] at hr
  cases h1 : rd1 l with
  | error k' =>
    rw [h1] at hr
    injection hr with hr
    subst hr
    exact item_bad1 g s a v l k' h1 w h
  | ok p =>
    obtain ⟨lo',l1⟩:=p
    rw [h1] at hr
    simp only at hr
    split at hr
    · rename_i hh
      cases h2 : rd1 l1.tail with
      | error k' =>
        rw [h2] at hr
        injection hr with hr
        subst hr
        exact item_bad2 g s a v l lo' l1 h1 hh k' h2 w h
      | ok q =>
        obtain ⟨hi,l2⟩:=q
        rw [h2] at hr
        simp only at hr
        split at hr
        · rename_i hlo
          injection hr with hr
          subst hr
          exact item_bad3 g s a v l lo' l1 h1 hh hi l2 h2 hlo w h
        · cases hr
    · cases hr
end Go.Proofs.YtcjghhedphmhkaaGreatDoor
