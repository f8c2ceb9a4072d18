import Derived.Test.YthompjbplddkgaaGreatDoorPart20
import Derived.Deep.RegionHeld3
set_option linter.unusedVariables false
namespace Go.Proofs.YthompjbplddkgaaGreatDoor.faultSpec
open Go.RowKit Go.Deep base copy candSem
open satSpec walkSpec walkSem netSem netSpec routeRow nbSem intsOwn
def badAt (rs : Rs) (f : R) (m rl : Nat) (kind pp way : Int) (fr : Nat) (i : Nat) : Bool := (decide (pp<0) || decide (pp=(i : Int))) && !satB kind way (wayO rs f m i rl fr) ((fr : Int)::wayR rs f m i rl fr)
def faultAt (rs : Rs) (f : R) (m rl : Nat) (kind pp way : Int) (fr : Nat) : Int := firstAt (badAt rs f m rl kind pp way fr) 16
theorem takeH {P:Program} {ops:Array Oper} {Q:Exit→Act→World→Prop} {S:World→Prop} {i:Nat} {oi:Oper} {v:Value} {fuel:Nat} {listed:Array Bool} {a:Act} {w:World} (d:Option Tmp) (hi:ops[i]? = some oi) (hd:oi.dst=d)
  (hs:Region.noSelect ops=true) (hf:Region.free .any ops listed i=true) (hr:(Region.ready .any ops listed).contains i=true)
  (hQ:∀ c a w,Q (.panic c) (a.put d v) w→Q (.panic c) a w) (hy:YieldsIf P ops S oi v a) (hS:S w)
  (h:wpAnyH P .any ops Q S fuel (listed.setIfInBounds i true) (a.put d v) w):wpAnyH P .any ops Q S (fuel+1) listed a w:=by
 subst hd
 exact wpAnyH_take hi hs hf hr hQ hy hS h
set_option maxRecDepth 100000 in
set_option maxHeartbeats 6400000 in
theorem fault_spec (p:Nat→Option Addr) (l c:Nat→Nat) (f:R) (ra:Option Addr) (rl rc:Nat) (rs:Rs) (kind pp way:Int) (fr:Nat) (w:World) (h:Row 4 w (p 5) (l 5) f) (hr:RtRow w ra rl rs) (hv:Viable rs rl) (hfr:fr<rl) (h4:rl≤4) :
  Calls Tryz.prog 51 #[netV p l c,.agg #[.int .i64 kind,.int .i64 fr,.int .i64 pp,.int .i64 way],.slice ra rl rc] w fun e w'=>e=.returned (.int .i64 (faultAt rs f (l 5) rl kind pp way fr))∧Below w.heap.size w w' := by
 obtain ⟨F,hF⟩:∃ F,faultAt rs f (l 5) rl kind pp way fr=F:=⟨_,rfl⟩
 rw [hF]
 have HF:=hid hF
 clear hF
 have HR:=hid h
 have HT:=hid hr
 have HV:=hid hv
 clear h hr hv
 unfold netV
 go_enter Tryz.func51,Tryz.ntmps51
 go_wp2_with fail
 have hB0:Below w.heap.size w ((w.alloc (.cells #[.slice (p 0) (l 0) (c 0),.slice (p 1) (l 1) (c 1),.slice (p 2) (l 2) (c 2),.slice (p 3) (l 3) (c 3),.slice (p 4) (l 4) (c 4),.slice (p 5) (l 5) (c 5)] 29)).alloc (.cells #[.int .i64 kind,.int .i64 fr,.int .i64 pp,.int .i64 way] 33)):=Bl
 have HB0:=hid hB0
 have HC0:Hid (∀ wx,Below ((w.alloc (.cells #[.slice (p 0) (l 0) (c 0),.slice (p 1) (l 1) (c 1),.slice (p 2) (l 2) (c 2),.slice (p 3) (l 3) (c 3),.slice (p 4) (l 4) (c 4),.slice (p 5) (l 5) (c 5)] 29)).alloc (.cells #[.int .i64 kind,.int .i64 fr,.int .i64 pp,.int .i64 way] 33)).heap.size ((w.alloc (.cells #[.slice (p 0) (l 0) (c 0),.slice (p 1) (l 1) (c 1),.slice (p 2) (l 2) (c 2),.slice (p 3) (l 3) (c 3),.slice (p 4) (l 4) (c 4),.slice (p 5) (l 5) (c 5)] 29)).alloc (.cells #[.int .i64 kind,.int .i64 fr,.int .i64 pp,.int .i64 way] 33)) wx→(wx.cell? ⟨w.heap.size+1,0,none⟩=some (.int .i64 kind)∧wx.cell? ⟨w.heap.size+1,1,none⟩=some (.int .i64 fr)∧wx.cell? ⟨w.heap.size+1,2,none⟩=some (.int .i64 pp)∧wx.cell? ⟨w.heap.size+1,3,none⟩=some (.int .i64 way))∧(wx.cell? ⟨w.heap.size,0,none⟩=some (.slice (p 0) (l 0) (c 0))∧wx.cell? ⟨w.heap.size,1,none⟩=some (.slice (p 1) (l 1) (c 1))∧wx.cell? ⟨w.heap.size,2,none⟩=some (.slice (p 2) (l 2) (c 2))∧wx.cell? ⟨w.heap.size,3,none⟩=some (.slice (p 3) (l 3) (c 3))∧wx.cell? ⟨w.heap.size,4,none⟩=some (.slice (p 4) (l 4) (c 4))∧wx.cell? ⟨w.heap.size,5,none⟩=some (.slice (p 5) (l 5) (c 5)))):=hid (fun wx hb=>by
  refine ⟨⟨keep hb ?_,keep hb ?_,keep hb ?_,keep hb ?_⟩,keep hb ?_,keep hb ?_,keep hb ?_,keep hb ?_,keep hb ?_,keep hb ?_⟩ <;> simp [go_sem])
 clear hB0
 generalize hW2:((w.alloc (.cells #[.slice (p 0) (l 0) (c 0),.slice (p 1) (l 1) (c 1),.slice (p 2) (l 2) (c 2),.slice (p 3) (l 3) (c 3),.slice (p 4) (l 4) (c 4),.slice (p 5) (l 5) (c 5)] 29)).alloc (.cells #[.int .i64 kind,.int .i64 fr,.int .i64 pp,.int .i64 way] 33))=W2 at *
 clear hW2
 have HRR:Hid (∀ wx,Below W2.heap.size W2 wx→Row 4 wx (p 5) (l 5) f∧RtRow wx ra rl rs):=hid (fun wx hb=>⟨HR.out.below (HB0.out.trans (hb.mono HB0.out.size)),HT.out.below (HB0.out.trans (hb.mono HB0.out.size))⟩)
 go_loopw [7] (fun i wr=>∃ j:Nat,j≤16∧i=.int .i64 j∧(∀ i,i<j→badAt rs f (l 5) rl kind pp way fr i=false)∧Below W2.heap.size W2 wr) (fun i _=>16 - (intOf i).toNat)
 case atStart=>exact ⟨0,Nat.zero_le _,rfl,fun i hi=>absurd hi (Nat.not_lt_zero _),Below.refl _ _⟩
 case round =>
  obtain ⟨j,hj,rfl,hall,hbel⟩:=hrel
  have HAll:=hid hall
  have HBl:=hid hbel
  have hszl:=hbel.size
  obtain ⟨⟨a0,a1,a2,a3⟩,b0,b1,b2,b3,b4,b5⟩:=HC0.out wr hbel
  clear hall hbel
  by_cases hlt:j<16
  · have hji:(j:Int)≤15:=by omega
    have K9:Hid (∀ w8:World,Below wr.heap.size wr w8→w8.cell? ⟨w.heap.size+1,0,none⟩=some (.int .i64 kind)∧w8.cell? ⟨w.heap.size+1,1,none⟩=some (.int .i64 fr)∧w8.cell? ⟨w.heap.size+1,2,none⟩=some (.int .i64 pp)∧w8.cell? ⟨w.heap.size+1,3,none⟩=some (.int .i64 way)∧w8.cell? ⟨w.heap.size,0,none⟩=some (.slice (p 0) (l 0) (c 0))∧w8.cell? ⟨w.heap.size,1,none⟩=some (.slice (p 1) (l 1) (c 1))∧w8.cell? ⟨w.heap.size,2,none⟩=some (.slice (p 2) (l 2) (c 2))∧w8.cell? ⟨w.heap.size,3,none⟩=some (.slice (p 3) (l 3) (c 3))∧w8.cell? ⟨w.heap.size,4,none⟩=some (.slice (p 4) (l 4) (c 4))∧w8.cell? ⟨w.heap.size,5,none⟩=some (.slice (p 5) (l 5) (c 5))∧Below wr.heap.size wr w8):=fun w8 h=>by
     obtain ⟨⟨q0,q1,q2,q3⟩,r0,r1,r2,r3,r4,r5⟩:=HC0.out w8 (HBl.out.trans (h.mono hszl))
     exact ⟨q0,q1,q2,q3,r0,r1,r2,r3,r4,r5,h⟩
    have RW:=hid (HRR.out wr HBl.out)
    by_cases hact:pp<0
    · have hda:decide (pp<0)=true:=decide_eq_true hact
      have HQ:Hid (badAt rs f (l 5) rl kind pp way fr j = !satB kind way (wayO rs f (l 5) j rl fr) ((fr:Int)::wayR rs f (l 5) j rl fr)):=hid (by unfold badAt;rw [hda];rfl)
      clear hact
      go_wp2_with fail
      refine wp_region_held_drew (S:=(fun w8=>w8.cell? ⟨w.heap.size+1,0,none⟩=some (.int .i64 kind)∧w8.cell? ⟨w.heap.size+1,1,none⟩=some (.int .i64 fr)∧w8.cell? ⟨w.heap.size+1,2,none⟩=some (.int .i64 pp)∧w8.cell? ⟨w.heap.size+1,3,none⟩=some (.int .i64 way)∧w8.cell? ⟨w.heap.size,0,none⟩=some (.slice (p 0) (l 0) (c 0))∧w8.cell? ⟨w.heap.size,1,none⟩=some (.slice (p 1) (l 1) (c 1))∧w8.cell? ⟨w.heap.size,2,none⟩=some (.slice (p 2) (l 2) (c 2))∧w8.cell? ⟨w.heap.size,3,none⟩=some (.slice (p 3) (l 3) (c 3))∧w8.cell? ⟨w.heap.size,4,none⟩=some (.slice (p 4) (l 4) (c 4))∧w8.cell? ⟨w.heap.size,5,none⟩=some (.slice (p 5) (l 5) (c 5))∧Below wr.heap.size wr w8)) (by kernel_rfl) (K9.out _ (Below.refl _ wr).drew) (fun hHeld=>?_)
      refine takeH (i:=0) (v:=?v0a) (some 12) rfl rfl (by kernel_rfl) (by kernel_rfl) (by kernel_rfl) (fun _ _ _ h=>h) (Or.inl ⟨by rfl,?y0a⟩) (by assumption) ?r0a
      case y0a=>(intro w' hSw;(try dsimp only at hSw);go_simp;(try with_reducible rfl))
      simp only [Act.put,List.setIfInBounds_toArray,List.set_cons_zero,List.set_cons_succ]
      refine takeH (i:=1) (v:=?v1a) (some 13) rfl rfl (by kernel_rfl) (by kernel_rfl) (by kernel_rfl) (fun _ _ _ h=>h) (Or.inl ⟨by rfl,?y1a⟩) (by assumption) ?r1a
      case y1a=>(intro w' hSw;(try dsimp only at hSw);go_simp;(try with_reducible rfl))
      simp only [Act.put,List.setIfInBounds_toArray,List.set_cons_zero,List.set_cons_succ]
      refine takeH (i:=2) (v:=?v2a) (some 14) rfl rfl (by kernel_rfl) (by kernel_rfl) (by kernel_rfl) (fun _ _ _ h=>h) (Or.inl ⟨by rfl,?y2a⟩) (by assumption) ?r2a
      case y2a=>(intro w' hSw;(try dsimp only at hSw);go_simp;(try with_reducible rfl))
      simp only [Act.put,List.setIfInBounds_toArray,List.set_cons_zero,List.set_cons_succ]
      refine takeH (i:=3) (v:=?v3a) (some 15) rfl rfl (by kernel_rfl) (by kernel_rfl) (by kernel_rfl) (fun _ _ _ h=>h) (Or.inl ⟨by rfl,?y3a⟩) (by assumption) ?r3a
      case y3a=>(intro w' hSw;(try dsimp only at hSw);go_simp;(try with_reducible rfl))
      simp only [Act.put,List.setIfInBounds_toArray,List.set_cons_zero,List.set_cons_succ]
      refine takeH (i:=4) (v:=undef) (some 16) rfl rfl (by kernel_rfl) (by kernel_rfl) (by kernel_rfl) (fun _ _ _ h=>h) (Or.inr ⟨by rfl,rfl⟩) (by assumption) ?r4a
      simp only [Act.put,List.setIfInBounds_toArray,List.set_cons_zero,List.set_cons_succ]
      refine takeH (i:=5) (v:=undef) (some 17) rfl rfl (by kernel_rfl) (by kernel_rfl) (by kernel_rfl) (fun _ _ _ h=>h) (Or.inr ⟨by rfl,rfl⟩) (by assumption) ?r5a
      simp only [Act.put,List.setIfInBounds_toArray,List.set_cons_zero,List.set_cons_succ]
      refine takeH (i:=6) (v:=undef) (some 18) rfl rfl (by kernel_rfl) (by kernel_rfl) (by kernel_rfl) (fun _ _ _ h=>h) (Or.inr ⟨by rfl,rfl⟩) (by assumption) ?r6a
      simp only [Act.put,List.setIfInBounds_toArray,List.set_cons_zero,List.set_cons_succ]
      refine takeH (i:=7) (v:=undef) (some 19) rfl rfl (by kernel_rfl) (by kernel_rfl) (by kernel_rfl) (fun _ _ _ h=>h) (Or.inr ⟨by rfl,rfl⟩) (by assumption) ?r7a
      simp only [Act.put,List.setIfInBounds_toArray,List.set_cons_zero,List.set_cons_succ]
      refine takeH (i:=8) (v:=?v8a) (some 20) rfl rfl (by kernel_rfl) (by kernel_rfl) (by kernel_rfl) (fun _ _ _ h=>h) (Or.inl ⟨by rfl,?y8a⟩) (by assumption) ?r8a
      case y8a=>(intro w' hSw;(try dsimp only at hSw);go_simp;(try with_reducible rfl))
      simp only [Act.put,List.setIfInBounds_toArray,List.set_cons_zero,List.set_cons_succ]
      refine takeH (i:=9) (v:=?v9a) (some 21) rfl rfl (by kernel_rfl) (by kernel_rfl) (by kernel_rfl) (fun _ _ _ h=>h) (Or.inl ⟨by rfl,?y9a⟩) (by assumption) ?r9a
      case y9a=>(intro w' hSw;(try dsimp only at hSw);go_simp;(try with_reducible rfl))
      simp only [Act.put,List.setIfInBounds_toArray,List.set_cons_zero,List.set_cons_succ]
      refine takeH (i:=10) (v:=?v10a) (some 22) rfl rfl (by kernel_rfl) (by kernel_rfl) (by kernel_rfl) (fun _ _ _ h=>h) (Or.inl ⟨by rfl,?y10a⟩) (by assumption) ?r10a
      case y10a=>(intro w' hSw;(try dsimp only at hSw);go_simp;(try with_reducible rfl))
      simp only [Act.put,List.setIfInBounds_toArray,List.set_cons_zero,List.set_cons_succ]
      refine takeH (i:=11) (v:=?v11a) (some 23) rfl rfl (by kernel_rfl) (by kernel_rfl) (by kernel_rfl) (fun _ _ _ h=>h) (Or.inl ⟨by rfl,?y11a⟩) (by assumption) ?r11a
      case y11a=>(intro w' hSw;(try dsimp only at hSw);go_simp;(try with_reducible rfl))
      simp only [Act.put,List.setIfInBounds_toArray,List.set_cons_zero,List.set_cons_succ]
      refine takeH (i:=12) (v:=?v12a) (some 24) rfl rfl (by kernel_rfl) (by kernel_rfl) (by kernel_rfl) (fun _ _ _ h=>h) (Or.inl ⟨by rfl,?y12a⟩) (by assumption) ?r12a
      case y12a=>(intro w' hSw;(try dsimp only at hSw);go_simp;(try with_reducible rfl))
      simp only [Act.put,List.setIfInBounds_toArray,List.set_cons_zero,List.set_cons_succ]
      refine takeH (i:=13) (v:=?v13a) (some 25) rfl rfl (by kernel_rfl) (by kernel_rfl) (by kernel_rfl) (fun _ _ _ h=>h) (Or.inl ⟨by rfl,?y13a⟩) (by assumption) ?r13a
      case y13a=>(intro w' hSw;(try dsimp only at hSw);go_simp;(try with_reducible rfl))
      simp only [Act.put,List.setIfInBounds_toArray,List.set_cons_zero,List.set_cons_succ]
      refine takeH (i:=14) (v:=?v14a) (some 26) rfl rfl (by kernel_rfl) (by kernel_rfl) (by kernel_rfl) (fun _ _ _ h=>h) (Or.inl ⟨by rfl,?y14a⟩) (by assumption) ?r14a
      case y14a=>(intro w' hSw;(try dsimp only at hSw);go_simp;(try with_reducible rfl))
      simp only [Act.put,List.setIfInBounds_toArray,List.set_cons_zero,List.set_cons_succ]
      refine takeH (i:=15) (v:=?v15a) (some 27) rfl rfl (by kernel_rfl) (by kernel_rfl) (by kernel_rfl) (fun _ _ _ h=>h) (Or.inl ⟨by rfl,?y15a⟩) (by assumption) ?r15a
      case y15a=>(intro w' hSw;(try dsimp only at hSw);go_simp;(try with_reducible rfl))
      simp only [Act.put,List.setIfInBounds_toArray,List.set_cons_zero,List.set_cons_succ]
      refine wpAnyH_ready (rs:=[16]) (by kernel_rfl) (by simp) ?_
      refine AllReadyH.cons rfl (fun K hK=>?_) AllReadyH.nil
      go_simp
      refine (walk_spec p l c f ra rl rc rs fr (j:Int) _ (RW.out.1.below (Below.refl _ wr).drew) (RW.out.2.below (Below.refl _ wr).drew) HV.out hfr h4).mono ?_
      rintro e3 w3 ⟨v3,rfl,ho3,hb3⟩
      have hb5':Below wr.heap.size wr w3:=((Below.refl _ wr).drew).trans hb3
      have HB5:=hid hb5'
      obtain ⟨x3,y3,hv3,hr3⟩:=ho3.form
      subst hv3
      have HR3:=hid hr3
      clear ho3 hb3 hr3
      (try go_wp2_with fail)
      refine hK.out _ _ (K9.out _ hb5') (fun hHeld=>?_)
      clear hK K hb5'
      (try simp only [Act.put,List.setIfInBounds_toArray,List.set_cons_zero,List.set_cons_succ])
      refine wpAnyH_ready (rs:=[17]) (by kernel_rfl) (by simp) ?_
      refine AllReadyH.cons rfl (fun K hK=>?_) AllReadyH.nil
      go_simp
      refine (sat_spec kind fr pp way _ x3 _ y3 _ _ HR3.out).mono ?_
      rintro e5 w5 ⟨rfl,hb5⟩
      have hb6':Below wr.heap.size wr w5:=HB5.out.trans (hb5.mono HB5.out.size)
      have HB6:=hid hb6'
      obtain ⟨t,ht⟩:∃ t,satB kind way (wayO rs f (l 5) (j:Int) rl fr) ((fr:Int)::wayR rs f (l 5) (j:Int) rl fr)=t:=⟨_,rfl⟩
      rw [ht]
      rw [ht] at HQ
      clear hb5 ht
      (try go_wp2_with fail)
      refine hK.out _ _ (K9.out _ hb6') (fun hHeld=>?_)
      clear hK K hb6'
      (try simp only [Act.put,List.setIfInBounds_toArray,List.set_cons_zero,List.set_cons_succ])
      refine takeH (i:=18) (v:=?v18a) (some 30) rfl rfl (by kernel_rfl) (by kernel_rfl) (by kernel_rfl) (fun _ _ _ h=>h) (Or.inl ⟨by rfl,?y18a⟩) (by assumption) ?r18a
      case y18a=>(intro w' hSw;(try dsimp only at hSw);go_simp;(try with_reducible rfl))
      simp only [Act.put,List.setIfInBounds_toArray,List.set_cons_zero,List.set_cons_succ]
      refine takeH (i:=19) (v:=?v19a) (some 31) rfl rfl (by kernel_rfl) (by kernel_rfl) (by kernel_rfl) (fun _ _ _ h=>h) (Or.inl ⟨by rfl,?y19a⟩) (by assumption) ?r19a
      case y19a=>(intro w' hSw;(try dsimp only at hSw);go_simp;(try with_reducible rfl))
      simp only [Act.put,List.setIfInBounds_toArray,List.set_cons_zero,List.set_cons_succ]
      refine wpAnyH_done (by kernel_rfl) ?_ _
      clear hHeld
      have HBz:=hid (HBl.out.trans (HB6.out.mono hszl))
      cases t with
      | true =>
       go_wp2_with fail
       go_roundw
       case rel=>exact ⟨j+1,by omega,by go_num,fun i hi=>by
        by_cases e:i=j
        · subst e;exact HQ.out
        · exact HAll.out i (by omega),HBz.out⟩
       case measure=>simp [intOf];omega
      | false =>
       have HE:Hid (F=(j:Int)):=hid (by rw [← HF.out];exact firstAt_hit hlt HQ.out HAll.out)
       go_wp2_with fail
       go_ret
       exact ⟨by rw [HE.out];rfl,HB0.out.trans (HBz.out.mono HB0.out.size)⟩
    by_cases heq:pp=(j:Int)
    · have hda:decide (pp<0)=false:=decide_eq_false hact
      have hde:(pp == (j:Int))=true:=by simpa using heq
      have HQ:Hid (badAt rs f (l 5) rl kind pp way fr j = !satB kind way (wayO rs f (l 5) j rl fr) ((fr:Int)::wayR rs f (l 5) j rl fr)):=hid (by unfold badAt;rw [hda,decide_eq_true heq];rfl)
      clear hact heq
      go_wp2_with fail
      refine wp_region_held_drew (S:=(fun w8=>w8.cell? ⟨w.heap.size+1,0,none⟩=some (.int .i64 kind)∧w8.cell? ⟨w.heap.size+1,1,none⟩=some (.int .i64 fr)∧w8.cell? ⟨w.heap.size+1,2,none⟩=some (.int .i64 pp)∧w8.cell? ⟨w.heap.size+1,3,none⟩=some (.int .i64 way)∧w8.cell? ⟨w.heap.size,0,none⟩=some (.slice (p 0) (l 0) (c 0))∧w8.cell? ⟨w.heap.size,1,none⟩=some (.slice (p 1) (l 1) (c 1))∧w8.cell? ⟨w.heap.size,2,none⟩=some (.slice (p 2) (l 2) (c 2))∧w8.cell? ⟨w.heap.size,3,none⟩=some (.slice (p 3) (l 3) (c 3))∧w8.cell? ⟨w.heap.size,4,none⟩=some (.slice (p 4) (l 4) (c 4))∧w8.cell? ⟨w.heap.size,5,none⟩=some (.slice (p 5) (l 5) (c 5))∧Below wr.heap.size wr w8)) (by kernel_rfl) (K9.out _ (Below.refl _ wr).drew) (fun hHeld=>?_)
      refine takeH (i:=0) (v:=?v0b) (some 12) rfl rfl (by kernel_rfl) (by kernel_rfl) (by kernel_rfl) (fun _ _ _ h=>h) (Or.inl ⟨by rfl,?y0b⟩) (by assumption) ?r0b
      case y0b=>(intro w' hSw;(try dsimp only at hSw);go_simp;(try with_reducible rfl))
      simp only [Act.put,List.setIfInBounds_toArray,List.set_cons_zero,List.set_cons_succ]
      refine takeH (i:=1) (v:=?v1b) (some 13) rfl rfl (by kernel_rfl) (by kernel_rfl) (by kernel_rfl) (fun _ _ _ h=>h) (Or.inl ⟨by rfl,?y1b⟩) (by assumption) ?r1b
      case y1b=>(intro w' hSw;(try dsimp only at hSw);go_simp;(try with_reducible rfl))
      simp only [Act.put,List.setIfInBounds_toArray,List.set_cons_zero,List.set_cons_succ]
      refine takeH (i:=2) (v:=?v2b) (some 14) rfl rfl (by kernel_rfl) (by kernel_rfl) (by kernel_rfl) (fun _ _ _ h=>h) (Or.inl ⟨by rfl,?y2b⟩) (by assumption) ?r2b
      case y2b=>(intro w' hSw;(try dsimp only at hSw);go_simp;(try with_reducible rfl))
      simp only [Act.put,List.setIfInBounds_toArray,List.set_cons_zero,List.set_cons_succ]
      refine takeH (i:=3) (v:=?v3b) (some 15) rfl rfl (by kernel_rfl) (by kernel_rfl) (by kernel_rfl) (fun _ _ _ h=>h) (Or.inl ⟨by rfl,?y3b⟩) (by assumption) ?r3b
      case y3b=>(intro w' hSw;(try dsimp only at hSw);go_simp;(try with_reducible rfl))
      simp only [Act.put,List.setIfInBounds_toArray,List.set_cons_zero,List.set_cons_succ]
      refine takeH (i:=4) (v:=?v4b) (some 16) rfl rfl (by kernel_rfl) (by kernel_rfl) (by kernel_rfl) (fun _ _ _ h=>h) (Or.inl ⟨by rfl,?y4b⟩) (by assumption) ?r4b
      case y4b=>(intro w' hSw;(try dsimp only at hSw);go_simp;(try with_reducible rfl))
      simp only [Act.put,List.setIfInBounds_toArray,List.set_cons_zero,List.set_cons_succ]
      refine takeH (i:=5) (v:=?v5b) (some 17) rfl rfl (by kernel_rfl) (by kernel_rfl) (by kernel_rfl) (fun _ _ _ h=>h) (Or.inl ⟨by rfl,?y5b⟩) (by assumption) ?r5b
      case y5b=>(intro w' hSw;(try dsimp only at hSw);go_simp;(try with_reducible rfl))
      simp only [Act.put,List.setIfInBounds_toArray,List.set_cons_zero,List.set_cons_succ]
      refine takeH (i:=6) (v:=?v6b) (some 18) rfl rfl (by kernel_rfl) (by kernel_rfl) (by kernel_rfl) (fun _ _ _ h=>h) (Or.inl ⟨by rfl,?y6b⟩) (by assumption) ?r6b
      case y6b=>(intro w' hSw;(try dsimp only at hSw);go_simp;(try with_reducible rfl))
      simp only [Act.put,List.setIfInBounds_toArray,List.set_cons_zero,List.set_cons_succ]
      refine takeH (i:=7) (v:=?v7b) (some 19) rfl rfl (by kernel_rfl) (by kernel_rfl) (by kernel_rfl) (fun _ _ _ h=>h) (Or.inl ⟨by rfl,?y7b⟩) (by assumption) ?r7b
      case y7b=>(intro w' hSw;(try dsimp only at hSw);go_simp;(try with_reducible rfl))
      simp only [Act.put,List.setIfInBounds_toArray,List.set_cons_zero,List.set_cons_succ]
      refine takeH (i:=8) (v:=?v8b) (some 20) rfl rfl (by kernel_rfl) (by kernel_rfl) (by kernel_rfl) (fun _ _ _ h=>h) (Or.inl ⟨by rfl,?y8b⟩) (by assumption) ?r8b
      case y8b=>(intro w' hSw;(try dsimp only at hSw);go_simp;(try with_reducible rfl))
      simp only [Act.put,List.setIfInBounds_toArray,List.set_cons_zero,List.set_cons_succ]
      refine takeH (i:=9) (v:=?v9b) (some 21) rfl rfl (by kernel_rfl) (by kernel_rfl) (by kernel_rfl) (fun _ _ _ h=>h) (Or.inl ⟨by rfl,?y9b⟩) (by assumption) ?r9b
      case y9b=>(intro w' hSw;(try dsimp only at hSw);go_simp;(try with_reducible rfl))
      simp only [Act.put,List.setIfInBounds_toArray,List.set_cons_zero,List.set_cons_succ]
      refine takeH (i:=10) (v:=?v10b) (some 22) rfl rfl (by kernel_rfl) (by kernel_rfl) (by kernel_rfl) (fun _ _ _ h=>h) (Or.inl ⟨by rfl,?y10b⟩) (by assumption) ?r10b
      case y10b=>(intro w' hSw;(try dsimp only at hSw);go_simp;(try with_reducible rfl))
      simp only [Act.put,List.setIfInBounds_toArray,List.set_cons_zero,List.set_cons_succ]
      refine takeH (i:=11) (v:=?v11b) (some 23) rfl rfl (by kernel_rfl) (by kernel_rfl) (by kernel_rfl) (fun _ _ _ h=>h) (Or.inl ⟨by rfl,?y11b⟩) (by assumption) ?r11b
      case y11b=>(intro w' hSw;(try dsimp only at hSw);go_simp;(try with_reducible rfl))
      simp only [Act.put,List.setIfInBounds_toArray,List.set_cons_zero,List.set_cons_succ]
      refine takeH (i:=12) (v:=?v12b) (some 24) rfl rfl (by kernel_rfl) (by kernel_rfl) (by kernel_rfl) (fun _ _ _ h=>h) (Or.inl ⟨by rfl,?y12b⟩) (by assumption) ?r12b
      case y12b=>(intro w' hSw;(try dsimp only at hSw);go_simp;(try with_reducible rfl))
      simp only [Act.put,List.setIfInBounds_toArray,List.set_cons_zero,List.set_cons_succ]
      refine takeH (i:=13) (v:=?v13b) (some 25) rfl rfl (by kernel_rfl) (by kernel_rfl) (by kernel_rfl) (fun _ _ _ h=>h) (Or.inl ⟨by rfl,?y13b⟩) (by assumption) ?r13b
      case y13b=>(intro w' hSw;(try dsimp only at hSw);go_simp;(try with_reducible rfl))
      simp only [Act.put,List.setIfInBounds_toArray,List.set_cons_zero,List.set_cons_succ]
      refine takeH (i:=14) (v:=?v14b) (some 26) rfl rfl (by kernel_rfl) (by kernel_rfl) (by kernel_rfl) (fun _ _ _ h=>h) (Or.inl ⟨by rfl,?y14b⟩) (by assumption) ?r14b
      case y14b=>(intro w' hSw;(try dsimp only at hSw);go_simp;(try with_reducible rfl))
      simp only [Act.put,List.setIfInBounds_toArray,List.set_cons_zero,List.set_cons_succ]
      refine takeH (i:=15) (v:=?v15b) (some 27) rfl rfl (by kernel_rfl) (by kernel_rfl) (by kernel_rfl) (fun _ _ _ h=>h) (Or.inl ⟨by rfl,?y15b⟩) (by assumption) ?r15b
      case y15b=>(intro w' hSw;(try dsimp only at hSw);go_simp;(try with_reducible rfl))
      simp only [Act.put,List.setIfInBounds_toArray,List.set_cons_zero,List.set_cons_succ]
      refine wpAnyH_ready (rs:=[16]) (by kernel_rfl) (by simp) ?_
      refine AllReadyH.cons rfl (fun K hK=>?_) AllReadyH.nil
      go_simp
      refine (walk_spec p l c f ra rl rc rs fr (j:Int) _ (RW.out.1.below (Below.refl _ wr).drew) (RW.out.2.below (Below.refl _ wr).drew) HV.out hfr h4).mono ?_
      rintro e3 w3 ⟨v3,rfl,ho3,hb3⟩
      have hb5':Below wr.heap.size wr w3:=((Below.refl _ wr).drew).trans hb3
      have HB5:=hid hb5'
      obtain ⟨x3,y3,hv3,hr3⟩:=ho3.form
      subst hv3
      have HR3:=hid hr3
      clear ho3 hb3 hr3
      (try go_wp2_with fail)
      refine hK.out _ _ (K9.out _ hb5') (fun hHeld=>?_)
      clear hK K hb5'
      (try simp only [Act.put,List.setIfInBounds_toArray,List.set_cons_zero,List.set_cons_succ])
      refine wpAnyH_ready (rs:=[17]) (by kernel_rfl) (by simp) ?_
      refine AllReadyH.cons rfl (fun K hK=>?_) AllReadyH.nil
      go_simp
      refine (sat_spec kind fr pp way _ x3 _ y3 _ _ HR3.out).mono ?_
      rintro e5 w5 ⟨rfl,hb5⟩
      have hb6':Below wr.heap.size wr w5:=HB5.out.trans (hb5.mono HB5.out.size)
      have HB6:=hid hb6'
      obtain ⟨t,ht⟩:∃ t,satB kind way (wayO rs f (l 5) (j:Int) rl fr) ((fr:Int)::wayR rs f (l 5) (j:Int) rl fr)=t:=⟨_,rfl⟩
      rw [ht]
      rw [ht] at HQ
      clear hb5 ht
      (try go_wp2_with fail)
      refine hK.out _ _ (K9.out _ hb6') (fun hHeld=>?_)
      clear hK K hb6'
      (try simp only [Act.put,List.setIfInBounds_toArray,List.set_cons_zero,List.set_cons_succ])
      refine takeH (i:=18) (v:=?v18b) (some 30) rfl rfl (by kernel_rfl) (by kernel_rfl) (by kernel_rfl) (fun _ _ _ h=>h) (Or.inl ⟨by rfl,?y18b⟩) (by assumption) ?r18b
      case y18b=>(intro w' hSw;(try dsimp only at hSw);go_simp;(try with_reducible rfl))
      simp only [Act.put,List.setIfInBounds_toArray,List.set_cons_zero,List.set_cons_succ]
      refine takeH (i:=19) (v:=?v19b) (some 31) rfl rfl (by kernel_rfl) (by kernel_rfl) (by kernel_rfl) (fun _ _ _ h=>h) (Or.inl ⟨by rfl,?y19b⟩) (by assumption) ?r19b
      case y19b=>(intro w' hSw;(try dsimp only at hSw);go_simp;(try with_reducible rfl))
      simp only [Act.put,List.setIfInBounds_toArray,List.set_cons_zero,List.set_cons_succ]
      refine wpAnyH_done (by kernel_rfl) ?_ _
      clear hHeld
      have HBz:=hid (HBl.out.trans (HB6.out.mono hszl))
      cases t with
      | true =>
       go_wp2_with fail
       go_roundw
       case rel=>exact ⟨j+1,by omega,by go_num,fun i hi=>by
        by_cases e:i=j
        · subst e;exact HQ.out
        · exact HAll.out i (by omega),HBz.out⟩
       case measure=>simp [intOf];omega
      | false =>
       have HE:Hid (F=(j:Int)):=hid (by rw [← HF.out];exact firstAt_hit hlt HQ.out HAll.out)
       go_wp2_with fail
       go_ret
       exact ⟨by rw [HE.out];rfl,HB0.out.trans (HBz.out.mono HB0.out.size)⟩
    · have hda:decide (pp<0)=false:=decide_eq_false hact
      have hde:(pp == (j:Int))=false:=by simpa using heq
      have HQ:Hid (badAt rs f (l 5) rl kind pp way fr j=false):=hid (by unfold badAt;rw [hda,decide_eq_false heq];rfl)
      clear hact heq
      go_wp2_with fail
      refine wp_region_held_drew (S:=(fun w8=>w8.cell? ⟨w.heap.size+1,0,none⟩=some (.int .i64 kind)∧w8.cell? ⟨w.heap.size+1,1,none⟩=some (.int .i64 fr)∧w8.cell? ⟨w.heap.size+1,2,none⟩=some (.int .i64 pp)∧w8.cell? ⟨w.heap.size+1,3,none⟩=some (.int .i64 way)∧w8.cell? ⟨w.heap.size,0,none⟩=some (.slice (p 0) (l 0) (c 0))∧w8.cell? ⟨w.heap.size,1,none⟩=some (.slice (p 1) (l 1) (c 1))∧w8.cell? ⟨w.heap.size,2,none⟩=some (.slice (p 2) (l 2) (c 2))∧w8.cell? ⟨w.heap.size,3,none⟩=some (.slice (p 3) (l 3) (c 3))∧w8.cell? ⟨w.heap.size,4,none⟩=some (.slice (p 4) (l 4) (c 4))∧w8.cell? ⟨w.heap.size,5,none⟩=some (.slice (p 5) (l 5) (c 5))∧Below wr.heap.size wr w8)) (by kernel_rfl) (K9.out _ (Below.refl _ wr).drew) (fun hHeld=>?_)
      refine takeH (i:=0) (v:=?v0c) (some 12) rfl rfl (by kernel_rfl) (by kernel_rfl) (by kernel_rfl) (fun _ _ _ h=>h) (Or.inl ⟨by rfl,?y0c⟩) (by assumption) ?r0c
      case y0c=>(intro w' hSw;(try dsimp only at hSw);go_simp;(try with_reducible rfl))
      simp only [Act.put,List.setIfInBounds_toArray,List.set_cons_zero,List.set_cons_succ]
      refine takeH (i:=1) (v:=?v1c) (some 13) rfl rfl (by kernel_rfl) (by kernel_rfl) (by kernel_rfl) (fun _ _ _ h=>h) (Or.inl ⟨by rfl,?y1c⟩) (by assumption) ?r1c
      case y1c=>(intro w' hSw;(try dsimp only at hSw);go_simp;(try with_reducible rfl))
      simp only [Act.put,List.setIfInBounds_toArray,List.set_cons_zero,List.set_cons_succ]
      refine takeH (i:=2) (v:=?v2c) (some 14) rfl rfl (by kernel_rfl) (by kernel_rfl) (by kernel_rfl) (fun _ _ _ h=>h) (Or.inl ⟨by rfl,?y2c⟩) (by assumption) ?r2c
      case y2c=>(intro w' hSw;(try dsimp only at hSw);go_simp;(try with_reducible rfl))
      simp only [Act.put,List.setIfInBounds_toArray,List.set_cons_zero,List.set_cons_succ]
      refine takeH (i:=3) (v:=?v3c) (some 15) rfl rfl (by kernel_rfl) (by kernel_rfl) (by kernel_rfl) (fun _ _ _ h=>h) (Or.inl ⟨by rfl,?y3c⟩) (by assumption) ?r3c
      case y3c=>(intro w' hSw;(try dsimp only at hSw);go_simp;(try with_reducible rfl))
      simp only [Act.put,List.setIfInBounds_toArray,List.set_cons_zero,List.set_cons_succ]
      refine takeH (i:=4) (v:=?v4c) (some 16) rfl rfl (by kernel_rfl) (by kernel_rfl) (by kernel_rfl) (fun _ _ _ h=>h) (Or.inl ⟨by rfl,?y4c⟩) (by assumption) ?r4c
      case y4c=>(intro w' hSw;(try dsimp only at hSw);go_simp;(try with_reducible rfl))
      simp only [Act.put,List.setIfInBounds_toArray,List.set_cons_zero,List.set_cons_succ]
      refine takeH (i:=5) (v:=?v5c) (some 17) rfl rfl (by kernel_rfl) (by kernel_rfl) (by kernel_rfl) (fun _ _ _ h=>h) (Or.inl ⟨by rfl,?y5c⟩) (by assumption) ?r5c
      case y5c=>(intro w' hSw;(try dsimp only at hSw);go_simp;(try with_reducible rfl))
      simp only [Act.put,List.setIfInBounds_toArray,List.set_cons_zero,List.set_cons_succ]
      refine takeH (i:=6) (v:=?v6c) (some 18) rfl rfl (by kernel_rfl) (by kernel_rfl) (by kernel_rfl) (fun _ _ _ h=>h) (Or.inl ⟨by rfl,?y6c⟩) (by assumption) ?r6c
      case y6c=>(intro w' hSw;(try dsimp only at hSw);go_simp;(try with_reducible rfl))
      simp only [Act.put,List.setIfInBounds_toArray,List.set_cons_zero,List.set_cons_succ]
      refine takeH (i:=7) (v:=?v7c) (some 19) rfl rfl (by kernel_rfl) (by kernel_rfl) (by kernel_rfl) (fun _ _ _ h=>h) (Or.inl ⟨by rfl,?y7c⟩) (by assumption) ?r7c
      case y7c=>(intro w' hSw;(try dsimp only at hSw);go_simp;(try with_reducible rfl))
      simp only [Act.put,List.setIfInBounds_toArray,List.set_cons_zero,List.set_cons_succ]
      refine takeH (i:=8) (v:=?v8c) (some 20) rfl rfl (by kernel_rfl) (by kernel_rfl) (by kernel_rfl) (fun _ _ _ h=>h) (Or.inl ⟨by rfl,?y8c⟩) (by assumption) ?r8c
      case y8c=>(intro w' hSw;(try dsimp only at hSw);go_simp;(try with_reducible rfl))
      simp only [Act.put,List.setIfInBounds_toArray,List.set_cons_zero,List.set_cons_succ]
      refine takeH (i:=9) (v:=?v9c) (some 21) rfl rfl (by kernel_rfl) (by kernel_rfl) (by kernel_rfl) (fun _ _ _ h=>h) (Or.inl ⟨by rfl,?y9c⟩) (by assumption) ?r9c
      case y9c=>(intro w' hSw;(try dsimp only at hSw);go_simp;(try with_reducible rfl))
      simp only [Act.put,List.setIfInBounds_toArray,List.set_cons_zero,List.set_cons_succ]
      refine takeH (i:=10) (v:=undef) (some 22) rfl rfl (by kernel_rfl) (by kernel_rfl) (by kernel_rfl) (fun _ _ _ h=>h) (Or.inr ⟨by rfl,rfl⟩) (by assumption) ?r10c
      simp only [Act.put,List.setIfInBounds_toArray,List.set_cons_zero,List.set_cons_succ]
      refine takeH (i:=11) (v:=undef) (some 23) rfl rfl (by kernel_rfl) (by kernel_rfl) (by kernel_rfl) (fun _ _ _ h=>h) (Or.inr ⟨by rfl,rfl⟩) (by assumption) ?r11c
      simp only [Act.put,List.setIfInBounds_toArray,List.set_cons_zero,List.set_cons_succ]
      refine takeH (i:=12) (v:=undef) (some 24) rfl rfl (by kernel_rfl) (by kernel_rfl) (by kernel_rfl) (fun _ _ _ h=>h) (Or.inr ⟨by rfl,rfl⟩) (by assumption) ?r12c
      simp only [Act.put,List.setIfInBounds_toArray,List.set_cons_zero,List.set_cons_succ]
      refine takeH (i:=13) (v:=undef) (some 25) rfl rfl (by kernel_rfl) (by kernel_rfl) (by kernel_rfl) (fun _ _ _ h=>h) (Or.inr ⟨by rfl,rfl⟩) (by assumption) ?r13c
      simp only [Act.put,List.setIfInBounds_toArray,List.set_cons_zero,List.set_cons_succ]
      refine takeH (i:=14) (v:=undef) (some 26) rfl rfl (by kernel_rfl) (by kernel_rfl) (by kernel_rfl) (fun _ _ _ h=>h) (Or.inr ⟨by rfl,rfl⟩) (by assumption) ?r14c
      simp only [Act.put,List.setIfInBounds_toArray,List.set_cons_zero,List.set_cons_succ]
      refine takeH (i:=15) (v:=undef) (some 27) rfl rfl (by kernel_rfl) (by kernel_rfl) (by kernel_rfl) (fun _ _ _ h=>h) (Or.inr ⟨by rfl,rfl⟩) (by assumption) ?r15c
      simp only [Act.put,List.setIfInBounds_toArray,List.set_cons_zero,List.set_cons_succ]
      refine wpAnyH_ready (rs:=[16]) (by kernel_rfl) (by simp) ?_
      refine AllReadyH.cons rfl (fun K hK=>?_) AllReadyH.nil
      go_simp
      refine hK.out _ _ (K9.out _ (Below.refl _ wr).drew) (fun hHeld=>?_)
      clear hK K
      (try simp only [Act.put,List.setIfInBounds_toArray,List.set_cons_zero,List.set_cons_succ])
      refine wpAnyH_ready (rs:=[17]) (by kernel_rfl) (by simp) ?_
      refine AllReadyH.cons rfl (fun K hK=>?_) AllReadyH.nil
      go_simp
      refine hK.out _ _ (K9.out _ (Below.refl _ wr).drew) (fun hHeld=>?_)
      clear hK K
      (try simp only [Act.put,List.setIfInBounds_toArray,List.set_cons_zero,List.set_cons_succ])
      refine wpAnyH_ready (rs:=[18]) (by kernel_rfl) (by simp) ?_
      refine AllReadyH.cons rfl (fun K hK=>?_) AllReadyH.nil
      go_simp
      refine hK.out _ _ (K9.out _ (Below.refl _ wr).drew) (fun hHeld=>?_)
      clear hK K
      (try simp only [Act.put,List.setIfInBounds_toArray,List.set_cons_zero,List.set_cons_succ])
      refine takeH (i:=19) (v:=?v19c) (some 31) rfl rfl (by kernel_rfl) (by kernel_rfl) (by kernel_rfl) (fun _ _ _ h=>h) (Or.inl ⟨by rfl,?y19c⟩) (by assumption) ?r19c
      case y19c=>(intro w' hSw;(try dsimp only at hSw);go_simp;(try with_reducible rfl))
      simp only [Act.put,List.setIfInBounds_toArray,List.set_cons_zero,List.set_cons_succ]
      refine wpAnyH_done (by kernel_rfl) ?_ _
      clear hHeld
      go_wp2_with fail
      go_roundw
      case rel=>exact ⟨j+1,by omega,by go_num,fun i hi=>by
       by_cases e:i=j
       · subst e;exact HQ.out
       · exact HAll.out i (by omega),HBl.out.trans ((show Below wr.heap.size wr _ from (Below.refl _ wr).drew).mono hszl)⟩
      case measure=>simp [intOf];omega
  · have e:j=16:=by omega
    subst e
    have HE:Hid (F = -1):=hid (by rw [← HF.out];exact firstAt_none HAll.out)
    go_wp2_with fail
    go_ret
    exact ⟨by rw [HE.out];rfl,HB0.out.trans (HBl.out.mono HB0.out.size)⟩
end Go.Proofs.YthompjbplddkgaaGreatDoor.faultSpec
