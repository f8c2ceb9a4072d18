import Derived.Test.YthompjbplddkgaaGreatDoorOptSpec
import Derived.Test.YthompjbplddkgaaGreatDoorDrawnLin
set_option linter.unusedVariables false
namespace Go.Proofs.YthompjbplddkgaaGreatDoor.choSpec
open Go.RowKit Go.Deep Go base copy names netSem netSpec nbSem candSem candWay intsOwn prodSem ssSem optSpec heldStore drawn drawnLin stepAppend
def rv (p : (Nat × Nat) × List Int) : Value := .slice (some ⟨p.1.1,0,none⟩) p.2.length p.1.2
structure OwnRI (B : Nat) (w : World) (v : Value) (ps : List ((Nat × Nat) × List Int)) : Prop where
 outer:w.ownsRow B 25 1 v ps.length (ps.map rv)
 inner:∀ p∈ps,OwnInts B w (rv p) p.2
theorem OwnRI.below {B:Nat} {w w1:World} {v:Value} {ps:List ((Nat × Nat) × List Int)} (h:OwnRI B w v ps) (hb:Below w.heap.size w w1):OwnRI B w1 v ps:=⟨own_pass h.outer hb,fun p hp=>(h.inner p hp).below hb⟩
theorem OwnRI.mono {B B':Nat} {w:World} {v:Value} {ps:List ((Nat × Nat) × List Int)} (h:OwnRI B w v ps) (hb:B'≤B):OwnRI B' w v ps:=by
 refine ⟨⟨h.outer.1,?_⟩,fun p hp=>(h.inner p hp).mono hb⟩
 rcases h.outer.2 with h2|⟨g,cap,cur,e,hg,rest⟩
 · exact .inl h2
 · exact .inr ⟨g,cap,cur,e,Nat.le_trans hb hg,rest⟩
theorem OwnRI.form {B:Nat} {w:World} {v:Value} {ps:List ((Nat × Nat) × List Int)} (h:OwnRI B w v ps):∃ a cap,v=.slice a ps.length cap:=by
 rcases h.outer.2 with ⟨rfl,hn⟩|⟨g,cap,cur,rfl,_⟩
 · exact ⟨none,0,by rw [hn]⟩
 · exact ⟨_,cap,rfl⟩
theorem OwnRI.cell {B n cap k:Nat} {w:World} {a:Option Addr} {ps:List ((Nat × Nat) × List Int)} (h:OwnRI B w (.slice a n cap) ps) {q:(Nat × Nat) × List Int} (hk:ps[k]? = some q):∃ g,a=some ⟨g,0,none⟩∧w.cell? ⟨g,k,none⟩=some (rv q):=by
 have hlt:k<ps.length:=(List.getElem?_eq_some_iff.1 hk).1
 rcases h.outer.2 with ⟨e,hn⟩|⟨g,cap',cur,e,hB,hh,_⟩
 · omega
 · injection e with e1 e2 e3
   refine ⟨g,e1,?_⟩
   have hc:=World.ownsRow.cells h.outer (g:=g) (by rw [e1];rfl) k (rv q) (by rw [List.getElem?_map,hk];rfl)
   rw [add_at,Nat.zero_add] at hc
   exact hc
theorem rows_apart {B B' n k:Nat} {w:World} {v x:Value} {xs:List Value} {zs:List Int} (h:w.ownsRow B 25 1 v n xs) (hx:OwnInts B' w x zs) (hv:v.ownBlock=some k) (hxk:x.ownBlock=some k):False:=by
 rcases h.2 with ⟨rfl,_⟩|⟨g,cap,cur,rfl,_,hh,_⟩
 · cases hv
 · rcases hx.2 with ⟨rfl,_⟩|⟨g',cap',cur',rfl,_,hh',_⟩
   · cases hxk
   · have e1:some g=some k:=hv
     have e2:some g' = some k:=hxk
     injection e1 with e1
     injection e2 with e2
     rw [e1] at hh
     rw [e2,hh] at hh'
     injection hh' with hh'
     injection hh' with _ ht
     exact absurd ht (by decide)
theorem OwnRI.add {B:Nat} {w w':World} {v v':Value} {ps:List ((Nat × Nat) × List Int)} {q:(Nat × Nat) × List Int} (h:OwnRI B w v ps) (hq:OwnInts B w (rv q) q.2) (ho:w'.ownsRow B 25 1 v' (ps.length+1) (ps.map rv ++ [rv q])) (hg:w.grownBy w' v.ownBlock):OwnRI B w' v' (ps ++ [q]):=by
 refine ⟨by rw [List.length_append,List.map_append];exact ho,fun p hp=>?_⟩
 have hp':OwnInts B w (rv p) p.2:=by
  rcases List.mem_append.1 hp with hp|hp
  · exact h.inner p hp
  · rw [List.mem_singleton] at hp
    rw [hp];exact hq
 exact World.ownsRow.kept hp' hg (.inr fun e=>rows_apart h.outer hp' e.symm rfl)
theorem start_rows (w:World) (N:Nat) (hN:w.heap.size=N):OwnRI w.heap.size ((w.alloc (.cells #[] 3)).alloc (.cells #[.slice (some ⟨N,0,none⟩) 0 0] 25)) (.slice (some ⟨N+1,0,none⟩) 1 1) [((N,0),[])]:=by
 subst hN
 refine ⟨⟨rfl,.inr ⟨w.heap.size+1,1,#[.slice (some ⟨w.heap.size,0,none⟩) 0 0],rfl,Nat.le_succ _,?_,Nat.le_refl _,by unfold maxLen;omega,rfl,rfl⟩⟩,fun p hp=>?_⟩
 · have:=heap_alloc_new (w.alloc (.cells #[] 3)) (.cells #[.slice (some ⟨w.heap.size,0,none⟩) 0 0] 25)
   simpa using this
 · rw [List.mem_singleton] at hp
   subst hp
   exact World.ownsRow.alloc (ints_empty w.heap.size w.heap.size w (Nat.le_refl _) rfl) _
theorem empty_rows (B:Nat) (w:World) (N:Nat) (hB:B≤w.heap.size) (hN:w.heap.size=N):OwnRI B (w.alloc (.cells #[] 25)) (.slice (some ⟨N,0,none⟩) 0 0) []:=by
 subst hN
 exact ⟨⟨rfl,.inr ⟨w.heap.size,0,#[],rfl,hB,heap_alloc_new w _,Nat.le_refl _,Nat.zero_le _,rfl,rfl⟩⟩,fun p hp=>(by cases hp)⟩
theorem info_row : (Tryz.prog.info? 25).map (fun i=>(i.zero,i.size,i.bytes))=some (some (.slice none 0 0),1,24):=by kernel_rfl
theorem opt_len (g:R) (nl:Nat) (o e env:List Int) (ds:List Bool) (n:Nat) (i:Int):(optL g nl o e env ds n i).length≤3+n:=by
 have h1:=nbL_len g nl ds i n
 have h2:(ownV o i).length≤1:=by unfold ownV;split <;> simp
 have h3:(extV e env i).length≤1:=by unfold extV;split <;> simp
 unfold optL
 simp only [List.length_append]
 split <;> simp <;> omega
theorem flat_len (A:List Int):∀ l:List (List Int),(l.flatMap fun c=>A.map fun v=>c ++ [v]).length=l.length*A.length
 | []=>by simp
 | c::l=>by rw [List.flatMap_cons,List.length_append,flat_len A l,List.length_map,List.length_cons,Nat.add_mul,Nat.one_mul,Nat.add_comm]
theorem own_same {B:Nat} {w w1:World} {v:Value} {zs:List Int} (h:OwnInts B w v zs) (hb:∀ k,v.ownBlock=some k→w1.heap[k]? = w.heap[k]?):OwnInts B w1 v zs:=by
 obtain ⟨h1,h2⟩:=h
 refine ⟨h1,?_⟩
 rcases h2 with h2|⟨g,cap,cur,rfl,hg,hh,rest⟩
 · exact .inl h2
 · exact .inr ⟨g,cap,cur,rfl,hg,by rw [hb g rfl];exact hh,rest⟩
theorem own_at {N n c k:Nat} (h:(Value.slice (some ⟨N,0,none⟩) n c).ownBlock=some k):k=N:=by
 have h':some N=some k:=h
 injection h' with h'
 exact h'.symm
theorem own_some {B:Nat} {w:World} {v:Value} {zs:List Int} (h:OwnInts B w v zs) (hz:0<zs.length):∃ g cap,v=rv ((g,cap),zs):=by
 rcases h.2 with ⟨_,hn⟩|⟨g,cap,cur,rfl,_⟩
 · omega
 · exact ⟨g,cap,rfl⟩
set_option maxHeartbeats 6400000 in
set_option maxRecDepth 8000 in
theorem choices_spec (p:Nat→Option Addr) (l c:Nat→Nat) (s:Ss) (g:R) (o e:List Int) (x f:R) (ea da:Option Addr) (ec dc:Nat) (env:List Int) (ds:List Bool) (w:World) (h:NetIs w p l s g o e x f) (he:IntRow w ea (l 3) env) (hd:BoolRow w da (l 1) ds) (h4:l 0≤4) :
  Calls Tryz.prog 78 #[netV p l c,.slice ea (l 3) ec,.slice da (l 1) dc] w fun e' w'=>∃ v ps,e' = .returned v∧OwnRI w.heap.size w' v ps∧ps.map Prod.snd=prod (fun i:Nat=>optL g (l 1) o e env ds (l 0) (i:Int)) (l 0)∧Below w.heap.size w w' := by
 have HOpt:Hid (∀ (W:World) (i:Nat),Below w.heap.size w W→Calls Tryz.prog 96 #[netV p l c,.int .i64 i,.slice ea (l 3) ec,.slice da (l 1) dc] W fun e' w'=>∃ v,e' = .returned v∧OwnInts W.heap.size w' v (optL g (l 1) o e env ds (l 0) (i:Int))∧Below W.heap.size W w'):=hid (fun W i hb=>options_spec p l c s g o e x f (i:Int) ea da ec dc env ds W (h.below hb) (he.below hb) (hd.below hb) h4)
 have HAl:Hid (∀ i:Nat,((fun i:Nat=>optL g (l 1) o e env ds (l 0) (i:Int)) i).length≤7):=hid (fun i=>Nat.le_trans (opt_len _ _ _ _ _ _ _ _) (by omega))
 have C1:∀ w8:World,Below ((w.alloc (.cells #[.slice (p 0) (l 0) (c 0),.slice (p 1) (l 1) (c 1),.slice (p 2) (l 2) (c 2),.slice (p 3) (l 3) (c 3),.slice (p 4) (l 4) (c 4),.slice (p 5) (l 5) (c 5)] 29))).heap.size (w.alloc (.cells #[.slice (p 0) (l 0) (c 0),.slice (p 1) (l 1) (c 1),.slice (p 2) (l 2) (c 2),.slice (p 3) (l 3) (c 3),.slice (p 4) (l 4) (c 4),.slice (p 5) (l 5) (c 5)] 29)) w8→(w8.cell? ⟨w.heap.size,0,none⟩=some (.slice (p 0) (l 0) (c 0))∧w8.cell? ⟨w.heap.size,1,none⟩=some (.slice (p 1) (l 1) (c 1))∧w8.cell? ⟨w.heap.size,2,none⟩=some (.slice (p 2) (l 2) (c 2))∧w8.cell? ⟨w.heap.size,3,none⟩=some (.slice (p 3) (l 3) (c 3))∧w8.cell? ⟨w.heap.size,4,none⟩=some (.slice (p 4) (l 4) (c 4))∧w8.cell? ⟨w.heap.size,5,none⟩=some (.slice (p 5) (l 5) (c 5)))∧Below w.heap.size w w8 :=
  fun w8 hb=>⟨⟨keep hb (by simp [go_sem]),keep hb (by simp [go_sem]),keep hb (by simp [go_sem]),keep hb (by simp [go_sem]),keep hb (by simp [go_sem]),keep hb (by simp [go_sem])⟩,(show Below w.heap.size w _ from Bl).trans (hb.mono (by simp))⟩
 have HK:=hid C1
 clear C1 h he hd
 obtain ⟨A0,hA0⟩:∃ A0,(fun i:Nat=>optL g (l 1) o e env ds (l 0) (i:Int))=A0:=⟨_,rfl⟩
 have HAe:Hid (∀ i:Nat,optL g (l 1) o e env ds (l 0) (i:Int)=A0 i):=hid (fun i=>by rw [← hA0])
 rw [hA0] at HAl ⊢
 clear hA0
 have HOpt:Hid (∀ (W:World) (i:Nat),Below w.heap.size w W→Calls Tryz.prog 96 #[netV p l c,.int .i64 i,.slice ea (l 3) ec,.slice da (l 1) dc] W fun e' w'=>∃ v,e' = .returned v∧OwnInts W.heap.size w' v (A0 i)∧Below W.heap.size W w'):=hid (fun W i hb=>by have:=HOpt.out W i hb;rw [HAe.out] at this;exact this)
 clear HAe
 obtain ⟨i0,hi0,hzz⟩:=Option.map_eq_some_iff.1 Tryz.info_int
 simp only [Prod.mk.injEq] at hzz
 obtain ⟨hz0,hz1,hz2⟩:=hzz
 obtain ⟨i1,hi1,hzz⟩:=Option.map_eq_some_iff.1 info_row
 simp only [Prod.mk.injEq] at hzz
 obtain ⟨hy0,hy1,hy2⟩:=hzz
 have HI:=hid hi0
 have HZ0:=hid hz0
 have HZ1:=hid hz1
 have HZ2:=hid hz2
 have HJ:=hid hi1
 have HY0:=hid hy0
 have HY1:=hid hy1
 have HY2:=hid hy2
 clear hi0 hz0 hz1 hz2 hi1 hy0 hy1 hy2
 unfold netV at HOpt ⊢
 go_enter Tryz.func78,Tryz.ntmps78
 go_wp2_with fail
 obtain ⟨w1,hw1⟩:∃ w1,(w.alloc (.cells #[.slice (p 0) (l 0) (c 0),.slice (p 1) (l 1) (c 1),.slice (p 2) (l 2) (c 2),.slice (p 3) (l 3) (c 3),.slice (p 4) (l 4) (c 4),.slice (p 5) (l 5) (c 5)] 29))=w1:=⟨_,rfl⟩
 have hz1:w.heap.size<w1.heap.size:=by rw [← hw1];simp
 have HB1:Hid (Below w.heap.size w w1):=hid (by rw [← hw1];exact Bl)
 have HSz:Hid (w1.heap.size=w.heap.size+1):=hid (by rw [← hw1];simp)
 rw [hw1] at HK ⊢
 clear hw1
 go_loopw [8,7] (fun i v wr=>∃ k:Nat,k≤l 0∧i=.int .i64 k∧(∃ ps,OwnRI w1.heap.size wr v ps∧ps.map Prod.snd=prod A0 k)∧Below w1.heap.size w1 wr) (fun i _ _=>l 0 - (intOf i).toNat)
 case atStart=>exact ⟨0,Nat.zero_le _,rfl,⟨_,start_rows w1 _ HSz.out,rfl⟩,((Below.refl _ w1).alloc (Nat.le_refl _) _).alloc (by simp) _⟩
 case round =>
  obtain ⟨k,hk,rfl,⟨ps,ho,hps⟩,hbr⟩:=hrel
  obtain ⟨oa,oc,hv⟩:=ho.form
  subst hv
  have HO:=hid ho
  have HPs:=hid hps
  have HBr:=hid hbr
  have hsr:=hbr.size
  obtain ⟨⟨q0,q1,q2,q3,q4,q5⟩,hBw⟩:=HK.out _ HBr.out
  have HBw:=hid hBw
  have hpl:ps.length=(prod A0 k).length:=by rw [← hps,List.length_map]
  clear ho hps hbr hBw
  by_cases hlt:k<l 0
  · go_wp2_with fail
    refine (HOpt.out _ k HBw.out).mono ?_
    rintro e1 w4 ⟨vl,rfl,hol,hb4⟩
    obtain ⟨la,lc,hvl,hrl⟩:=hol.form
    subst hvl
    obtain ⟨q0,q1,q2,q3,q4,q5⟩:=(HK.out _ (HBr.out.trans (hb4.mono hsr))).1
    have HL:=hid hrl
    have HB4:=hid (HBr.out.trans (hb4.mono hsr))
    have HO4:=hid (HO.out.below hb4)
    have hs4:=hb4.size
    have hAk:(A0 k).length≤7:=HAl.out k
    clear hol hrl hb4
    go_wp2_with fail
    go_loopw [11,10] (fun a v wr=>∃ m:Nat,m≤ps.length∧a=.int .i64 m∧(∃ qs,OwnRI w4.heap.size wr v qs∧qs.map Prod.snd=((prod A0 k).take m).flatMap (fun c=>(A0 k).map fun z=>c ++ [z]))∧Below w4.heap.size w4 wr) (fun a _ _=>ps.length - (intOf a).toNat)
    case atStart=>exact ⟨0,Nat.zero_le _,rfl,⟨_,empty_rows _ w4 _ (Nat.le_refl _) rfl,rfl⟩,(Below.refl _ w4).alloc (Nat.le_refl _) _⟩
    case round =>
     obtain ⟨m,hm,rfl,⟨qs,hoq,hqs⟩,hbq⟩:=hrel
     have HQ:=hid hoq
     have HQs:=hid hqs
     have HBq:=hid hbq
     have hsq:=hbq.size
     obtain ⟨q0,q1,q2,q3,q4,q5⟩:=(HK.out _ (HB4.out.trans (hbq.mono HB4.out.size))).1
     clear hoq hqs hbq
     by_cases hml:m<ps.length
     · obtain ⟨q,hq⟩:∃ q,ps[m]? = some q:=⟨_,List.getElem?_eq_getElem hml⟩
       obtain ⟨og,hoa,hoc⟩:=HO4.out.cell hq
       subst hoa
       have HFo:Hid (∀ w8:World,Below w4.heap.size w4 w8→w8.cell? ⟨og,m,none⟩=some (rv q)∧OwnInts w1.heap.size w8 (rv q) q.2):=hid (fun w8 hb=>⟨keep hb hoc,(HO4.out.inner q (List.mem_of_getElem? hq)).below hb⟩)
       have HFl:Hid (∀ w8:World,Below w4.heap.size w4 w8→IntRow w8 la (A0 k).length (A0 k)):=hid (fun w8 hb=>HL.out.below hb)
       have HC:Hid ((prod A0 k)[m]? = some q.2):=hid (by rw [← HPs.out,List.getElem?_map,hq];rfl)
       have HQl:Hid (q.2.length=k):=hid (prod_len (List.mem_of_getElem? HC.out))
       have hqn:qs.length=m*(A0 k).length:=by
        have h1:qs.length=(qs.map Prod.snd).length:=(List.length_map _).symm
        rw [h1,HQs.out,flat_len,List.length_take,Nat.min_eq_left (by omega)]
       have hpk:m≤343:=by
        have h1:=prod_size (A:=A0) (M:=7) k (fun i _=>HAl.out i)
        have h2:7 ^ k≤7 ^ 3:=Nat.pow_le_pow_right (by decide) (by omega)
        omega
       have hqm:qs.length≤2401:=by
        rw [hqn]
        exact Nat.le_trans (Nat.mul_le_mul hpk hAk) (by decide)
       clear hoc hq
       have hml':m<(prod A0 k).length:=by omega
       have gd:decide (m<(prod A0 k).length)=true:=decide_eq_true hml'
       go_wp2_with fail
       go_loopw [12,10] (fun a v wr2=>∃ j:Nat,j≤(A0 k).length∧a=.int .i64 j∧(∃ rs,OwnRI w4.heap.size wr2 v rs∧rs.map Prod.snd=qs.map Prod.snd ++ ((A0 k).take j).map (fun z=>q.2 ++ [z]))∧Below w4.heap.size w4 wr2) (fun a _ _=>(A0 k).length - (intOf a).toNat)
       case atStart=>exact ⟨0,Nat.zero_le _,rfl,⟨_,HQ.out,by simp⟩,HBq.out⟩
       case round =>
        obtain ⟨j,hj,rfl,⟨rs,hor,hrs⟩,hbj⟩:=hrel
        have HR:=hid hor
        have HRs:=hid hrs
        have HBj:=hid hbj
        have hsj:=hbj.size
        have hrn:rs.length=qs.length+j:=by
         have h1:rs.length=(rs.map Prod.snd).length:=(List.length_map _).symm
         rw [h1,hrs,List.length_append,List.length_map,List.length_map,List.length_take,Nat.min_eq_left hj]
        clear hor hrs hbj q0 q1 q2 q3 q4 q5
        by_cases hjl:j<(A0 k).length
        · obtain ⟨z,hz⟩:∃ z,(A0 k)[j]? = some z:=⟨_,List.getElem?_eq_getElem hjl⟩
          obtain ⟨lb,lo,hla,hlc⟩:=(HFl.out _ (Below.refl _ _)).cell j hjl
          rw [hz] at hlc
          subst hla
          have HFz:Hid (∀ w8:World,Below w4.heap.size w4 w8→w8.cell? ⟨lb,lo+j,none⟩=some (.int .i64 z)):=hid (fun w8 hb=>keep hb hlc)
          have HZj:=hid hz
          clear hlc hz
          go_wp2_with fail
          refine region_lin (fun uu=>⟨#[.agg #[.slice (p 0) (l 0) (c 0),.slice (p 1) (l 1) (c 1),.slice (p 2) (l 2) (c 2),.slice (p 3) (l 3) (c 3),.slice (p 4) (l 4) (c 4),.slice (p 5) (l 5) (c 5)],.slice ea (l 3) ec,.slice da (l 1) dc,.pointer (some ⟨w.heap.size,0,none⟩),undef,undef,.slice none 0 0,.slice (some ⟨og,0,none⟩) (prod A0 k).length oc,.int .i64 k,.slice (some ⟨lb,lo,none⟩) (A0 k).length lc,u10,.int .i64 m,.int .i64 j,.slice (some ⟨w.heap.size+1,0,none⟩) 0 0,.slice (some ⟨w.heap.size+1+1,0,none⟩) 1 1,.int .i64 k,.pointer (some ⟨w.heap.size,0,none⟩),.slice (p 0) (l 0) (c 0),.int .i64 (l 0),.bool true,u20,u21,.agg #[.slice (p 0) (l 0) (c 0),.slice (p 1) (l 1) (c 1),.slice (p 2) (l 2) (c 2),.slice (p 3) (l 3) (c 3),.slice (p 4) (l 4) (c 4),.slice (p 5) (l 5) (c 5)],.int .i64 k,.slice ea (l 3) ec,.slice da (l 1) dc,.slice (some ⟨lb,lo,none⟩) (A0 k).length lc,.slice (some ⟨w4.heap.size,0,none⟩) 0 0,.int .i64 m,.slice (some ⟨og,0,none⟩) (prod A0 k).length oc,.int .i64 (prod A0 k).length,.bool true,u32,u33,.int .i64 j,.slice (some ⟨lb,lo,none⟩) (A0 k).length lc,.int .i64 (A0 k).length,.bool true,u38,u39,uu 40,uu 41,uu 42,uu 43,uu 44,uu 45,uu 46,uu 47,uu 48,uu 49,uu 50,uu 51,uu 52,uu 53,uu 54,u55,undef],[]⟩) (fun i=>[40,41,42,43,44,45,46,47,48,49,50,51,52,53,54].getD i 0) (fun i v w8=>match i with|0=>v=u10|1=>OwnInts wr.heap.size w8 v []|2=>v=.slice (some ⟨og,0,none⟩) (prod A0 k).length oc|3=>v=.int .i64 m|4=>v=.pointer (some ⟨og,m,none⟩)|5=>v=.slice (some ⟨q.1.1,0,none⟩) q.2.length q.1.2|6=>OwnInts wr.heap.size w8 v q.2|7=>v=.slice (some ⟨lb,lo,none⟩) (A0 k).length lc|8=>v=.int .i64 j|9=>v=.pointer (some ⟨lb,lo+j,none⟩)|10=>v=.int .i64 z|11=>∃ N,v=.slice (some ⟨N,0,none⟩) 1 1∧World.cell? w8 ⟨N,0,none⟩=some (.int .i64 z)|12=>OwnInts wr.heap.size w8 v (q.2 ++ [z])|13=>∃ N g' cap',v=.slice (some ⟨N,0,none⟩) 1 1∧World.cell? w8 ⟨N,0,none⟩=some (rv ((g',cap'),(q.2 ++ [z])))∧OwnInts wr.heap.size w8 (rv ((g',cap'),(q.2 ++ [z]))) (q.2 ++ [z])|_=>True) (fun i v w8 b=>match i with|1=>Value.ownBlock v=some b|6=>Value.ownBlock v=some b|11=>Value.ownBlock v=some b|12=>Value.ownBlock v=some b|13=>(Value.ownBlock v=some b∨∃ N rr,v=.slice (some ⟨N,0,none⟩) 1 1∧World.cell? w8 ⟨N,0,none⟩=some rr∧Value.ownBlock rr=some b)|_=>False) (fun v w8=>∃ g' cap',OwnRI w4.heap.size w8 v (rs ++ [((g',cap'),(q.2 ++ [z]))])∧Below w4.heap.size w4 w8) wr 14 [14,6,4,4,5,6,12,9,9,10,11,12,13,14] (fun k=>match k with|40=>u40|41=>u41|42=>u42|43=>u43|44=>u44|45=>u45|46=>u46|47=>u47|48=>u48|49=>u49|50=>u50|51=>u51|52=>u52|53=>u53|54=>u54|_=>undef) (by rfl) (by kernel_rfl) (by rfl) ⟨by kernel_rfl,by kernel_rfl,by kernel_rfl,by decide⟩ (by kernel_rfl) (by kernel_rfl) (Below.refl _ _) ?hput ?hinj ?stable ?step ?pre ?last
          case hput =>
           intro i hi uu v
           match i,hi with
           | 0,_=>rfl
           | 1,_=>rfl
           | 2,_=>rfl
           | 3,_=>rfl
           | 4,_=>rfl
           | 5,_=>rfl
           | 6,_=>rfl
           | 7,_=>rfl
           | 8,_=>rfl
           | 9,_=>rfl
           | 10,_=>rfl
           | 11,_=>rfl
           | 12,_=>rfl
           | 13,_=>rfl
           | 14,_=>rfl
           | i+15,hi=>exact absurd hi (by omega)
          case hinj =>
           intro i j hi hj h
           exact slots_inj [40,41,42,43,44,45,46,47,48,49,50,51,52,53,54] (by decide) hi hj h
          case stable =>
           intro i v w8 w9 hb hf h
           match i,hf,h with
           | 0,hf,h=>exact ⟨h,fun _ hk=>hk⟩
           | 1,hf,h=>exact ⟨own_same h (fun b hb=>(hf b hb).2),fun _ hk=>hk⟩
           | 2,hf,h=>exact ⟨h,fun _ hk=>hk⟩
           | 3,hf,h=>exact ⟨h,fun _ hk=>hk⟩
           | 4,hf,h=>exact ⟨h,fun _ hk=>hk⟩
           | 5,hf,h=>exact ⟨h,fun _ hk=>hk⟩
           | 6,hf,h=>exact ⟨own_same h (fun b hb=>(hf b hb).2),fun _ hk=>hk⟩
           | 7,hf,h=>exact ⟨h,fun _ hk=>hk⟩
           | 8,hf,h=>exact ⟨h,fun _ hk=>hk⟩
           | 9,hf,h=>exact ⟨h,fun _ hk=>hk⟩
           | 10,hf,h=>exact ⟨h,fun _ hk=>hk⟩
           | 11,hf,h=>
            obtain ⟨N,e,hc⟩:=h
            exact ⟨⟨N,e,(World.cell?_of_block (hf N (by rw [e];rfl)).2).trans hc⟩,fun _ hk=>hk⟩
           | 12,hf,h=>exact ⟨own_same h (fun b hb=>(hf b hb).2),fun _ hk=>hk⟩
           | 13,hf,h=>
            obtain ⟨N,g',cap',e,hc,ho⟩:=h
            have hN:=(hf N (.inl (by rw [e];rfl))).2
            have hc9:World.cell? w9 ⟨N,0,none⟩=some (rv ((g',cap'),(q.2 ++ [z]))):=(World.cell?_of_block hN).trans hc
            refine ⟨⟨N,g',cap',e,hc9,own_same ho (fun b hb=>(hf b (.inr ⟨N,_,e,hc,hb⟩)).2)⟩,fun b hk=>?_⟩
            rcases hk with hk|⟨N',rr,e',hc',hb'⟩
            · exact .inl hk
            · have e1:N' = N:=by rw [e] at e';injection e' with e' _ _;injection e' with e';injection e' with e';exact e'.symm
              subst e1
              rw [hc9] at hc'
              exact .inr ⟨_,rr,e,hc.trans hc',hb'⟩
           | _+14,hf,h=>exact ⟨trivial,fun _ hk=>hk⟩
          case step =>
           intro i hi uu w8 S8 hdep
           match i,hi with
           | 0,_ =>
            clear hdep
            refine ⟨_,rfl,fun K' hK=>?_⟩
            go_simp
            exact hK.out _ _ (Chg.refl _ _) rfl (fun b hb=>hb.elim)
           | 1,_ =>
            clear hdep
            refine ⟨_,rfl,fun K' hK=>?_⟩
            go_simp
            exact hK.out _ _ (Chg.of_below Bl) (ints_empty _ _ _ S8.size rfl) (fun b hb=>by rw [own_at hb];exact ⟨by simp,.inr (Nat.le_refl _)⟩)
           | 2,_ =>
            clear hdep
            refine ⟨_,rfl,fun K' hK=>?_⟩
            go_simp
            exact hK.out _ _ (Chg.refl _ _) rfl (fun b hb=>hb.elim)
           | 3,_ =>
            clear hdep
            refine ⟨_,rfl,fun K' hK=>?_⟩
            go_simp
            exact hK.out _ _ (Chg.refl _ _) rfl (fun b hb=>hb.elim)
           | 4,_ =>
            have h2:(uu 42)=.slice (some ⟨og,0,none⟩) (prod A0 k).length oc:=(hdep 2 rfl (by decide)).1
            have h3:(uu 43)=.int .i64 m:=(hdep 3 rfl (by decide)).1
            clear hdep
            refine ⟨_,rfl,fun K' hK=>?_⟩
            have hmi:(m:Int)<((prod A0 k).length:Int):=by omega
            simp only [h2,h3] at hK ⊢
            go_simp
            exact hK.out _ _ (Chg.refl _ _) rfl (fun b hb=>hb.elim)
           | 5,_ =>
            have h4:(uu 44)=.pointer (some ⟨og,m,none⟩):=(hdep 4 rfl (by decide)).1
            clear hdep
            refine ⟨_,rfl,fun K' hK=>?_⟩
            have qo:=(HFo.out w8 (HBj.out.trans (S8.mono hsj))).1
            unfold rv at qo
            simp only [h4] at hK ⊢
            go_simp
            exact hK.out _ _ (Chg.refl _ _) rfl (fun b hb=>hb.elim)
           | 6,_ =>
            have h1:OwnInts wr.heap.size w8 (uu 41) []:=(hdep 1 rfl (by decide)).1
            have h5:(uu 45)=.slice (some ⟨q.1.1,0,none⟩) q.2.length q.1.2:=(hdep 5 rfl (by decide)).1
            clear hdep
            refine ⟨_,rfl,fun K' hK=>?_⟩
            refine step_append_at w8 rfl _ _ 25 rfl (some 46) rfl wr.heap.size 3 i0 (.int .i64 0) 1 8 Tryz.underlying25 HI.out HZ0.out HZ1.out HZ2.out rfl (by decide) _ _ _ rfl h1 ⟨q.1.1,0,none⟩ q.2.length q.1.2 (q.2.map (.int .i64)) h5 (by simp) (ints_cells (row_of_own (HFo.out w8 (HBj.out.trans (S8.mono hsj))).2)) (one_ints _) (by have:=HQl.out;unfold maxLen;simp;omega) (by have:=HQl.out;simp;omega) S8.size ?_
            intro v' w' hown hg hat
            refine hK.out v' w' (Chg.of_grown hg (fun b hb=>⟨1,rfl,by decide,hb⟩)) (by have h9:=hown;simp only [List.length_nil,Nat.zero_add,List.map_nil,List.nil_append] at h9;exact h9) (fun b hb=>⟨(World.ownsRow.lt hown b hb).2,?_⟩)
            rcases hat with hat|hat
            · exact .inl ⟨1,rfl,by decide,by rw [hat] at hb;exact hb⟩
            · rw [hat] at hb
              injection hb with hb
              exact .inr (Nat.le_of_eq hb)
           | 7,_ =>
            clear hdep
            refine ⟨_,rfl,fun K' hK=>?_⟩
            go_simp
            exact hK.out _ _ (Chg.refl _ _) rfl (fun b hb=>hb.elim)
           | 8,_ =>
            clear hdep
            refine ⟨_,rfl,fun K' hK=>?_⟩
            go_simp
            exact hK.out _ _ (Chg.refl _ _) rfl (fun b hb=>hb.elim)
           | 9,_ =>
            have h7:(uu 47)=.slice (some ⟨lb,lo,none⟩) (A0 k).length lc:=(hdep 7 rfl (by decide)).1
            have h8:(uu 48)=.int .i64 j:=(hdep 8 rfl (by decide)).1
            clear hdep
            refine ⟨_,rfl,fun K' hK=>?_⟩
            have hji:(j:Int)<((A0 k).length:Int):=by omega
            simp only [h7,h8] at hK ⊢
            go_simp
            exact hK.out _ _ (Chg.refl _ _) rfl (fun b hb=>hb.elim)
           | 10,_ =>
            have h9:(uu 49)=.pointer (some ⟨lb,lo+j,none⟩):=(hdep 9 rfl (by decide)).1
            clear hdep
            refine ⟨_,rfl,fun K' hK=>?_⟩
            have qz:=HFz.out w8 (HBj.out.trans (S8.mono hsj))
            simp only [h9] at hK ⊢
            go_simp
            exact hK.out _ _ (Chg.refl _ _) rfl (fun b hb=>hb.elim)
           | 11,_ =>
            have h10:(uu 50)=.int .i64 z:=(hdep 10 rfl (by decide)).1
            clear hdep
            refine ⟨_,rfl,fun K' hK=>?_⟩
            simp only [h10] at hK ⊢
            go_simp
            exact hK.out _ _ (Chg.of_below Bl) ⟨w8.heap.size,rfl,by simp [go_sem]⟩ (fun b hb=>by rw [own_at hb];exact ⟨by simp,.inr (Nat.le_refl _)⟩)
           | 12,_ =>
            have h6:OwnInts wr.heap.size w8 (uu 46) q.2:=(hdep 6 rfl (by decide)).1
            have h11:∃ N,(uu 51)=.slice (some ⟨N,0,none⟩) 1 1∧World.cell? w8 ⟨N,0,none⟩=some (.int .i64 z):=(hdep 11 rfl (by decide)).1
            clear hdep
            refine ⟨_,rfl,fun K' hK=>?_⟩
            obtain ⟨N,e11,hc11⟩:=h11
            refine step_append_at w8 rfl _ _ 25 rfl (some 52) rfl wr.heap.size 3 i0 (.int .i64 0) 1 8 Tryz.underlying25 HI.out HZ0.out HZ1.out HZ2.out rfl (by decide) _ _ _ rfl h6 ⟨N,0,none⟩ 1 1 [.int .i64 z] e11 rfl (fun t y ht=>by rw [add_at];cases t with|zero=>(injection ht with ht;rw [← ht];exact hc11)|succ t=>(cases ht)) (fun y hy=>by simp at hy;subst hy;rfl) (by have:=HQl.out;unfold maxLen;omega) (by have:=HQl.out;omega) S8.size ?_
            intro v' w' hown hg hat
            refine hK.out v' w' (Chg.of_grown hg (fun b hb=>⟨6,rfl,by decide,hb⟩)) (by unfold OwnInts;rw [List.length_append,List.map_append];exact hown) (fun b hb=>⟨(World.ownsRow.lt hown b hb).2,?_⟩)
            rcases hat with hat|hat
            · exact .inl ⟨6,rfl,by decide,by rw [hat] at hb;exact hb⟩
            · rw [hat] at hb
              injection hb with hb
              exact .inr (Nat.le_of_eq hb)
           | 13,_ =>
            have h12:OwnInts wr.heap.size w8 (uu 52) (q.2 ++ [z]):=(hdep 12 rfl (by decide)).1
            clear hdep
            refine ⟨_,rfl,fun K' hK=>?_⟩
            obtain ⟨g',cap',e12⟩:=own_some h12 (by simp)
            have e12':uu 52=.slice (some ⟨g',0,none⟩) (q.2.length+1) cap' := by rw [e12];unfold rv;simp
            rw [e12] at h12
            simp only [e12'] at hK ⊢
            go_simp
            refine hK.out _ _ (Chg.of_below Bl) ⟨w8.heap.size,g',cap',rfl,by unfold rv;simp [go_sem],OwnInts.below h12 Bl⟩ (fun b hb=>?_)
            rcases hb with hb|⟨N,rr,e,hc,hb⟩
            · rw [own_at hb];exact ⟨by simp,.inr (Nat.le_refl _)⟩
            · have e1:N=w8.heap.size:=by injection e with e _ _;injection e with e;injection e with e;exact e.symm
              subst e1
              have hc2:=hc.symm.trans (show _=some (rv ((g',cap'),(q.2 ++ [z]))) by unfold rv;simp [go_sem])
              injection hc2 with hc2
              subst hc2
              rw [own_at hb]
              exact ⟨Nat.lt_of_lt_of_le (World.ownsRow.lt h12 g' rfl).2 (by simp),.inl ⟨12,rfl,by decide,(show (uu 52).ownBlock=some g' by rw [e12];rfl)⟩⟩
           | i+14,hi=>exact absurd hi (by omega)
          case pre =>
           intro uu w8 S8 hdep
           have h0:(uu 40)=u10:=(hdep 0 rfl (by decide)).1
           have h13:∃ N g' cap',(uu 53)=.slice (some ⟨N,0,none⟩) 1 1∧World.cell? w8 ⟨N,0,none⟩=some (rv ((g',cap'),(q.2 ++ [z])))∧OwnInts wr.heap.size w8 (rv ((g',cap'),(q.2 ++ [z]))) (q.2 ++ [z]):=(hdep 13 rfl (by decide)).1
           clear hdep
           refine ⟨_,rfl,fun K' hK=>?_⟩
           obtain ⟨N,g',cap',e13,hc13,ho13⟩:=h13
           have hR8:=HR.out.below S8
           refine step_append_at w8 rfl _ _ 91 rfl (some 54) rfl w4.heap.size 25 i1 (.slice none 0 0) 1 24 Tryz.underlying91 HJ.out HY0.out HY1.out HY2.out rfl (by decide) u10 _ _ h0 hR8.outer ⟨N,0,none⟩ 1 1 [rv ((g',cap'),(q.2 ++ [z]))] e13 rfl (fun t y ht=>by rw [add_at];cases t with|zero=>(injection ht with ht;rw [← ht];exact hc13)|succ t=>(cases ht)) (fun y hy=>by simp at hy;subst hy;rfl) (by unfold maxLen;omega) (by omega) (Nat.le_trans hsj S8.size) ?_
           intro v' w' hown hg hat
           exact hK.out v' w' ⟨g',cap',hR8.add (ho13.mono hsj) hown hg,(HBj.out.trans (S8.mono hsj)).grown hg (Nat.le_trans hsj S8.size) (fun b hb=>(World.ownsRow.lt hR8.outer b hb).1)⟩
          case last =>
           intro uu w8 hψ
           obtain ⟨g',cap',hor',hb'⟩:=hψ
           have HRn:=hid hor'
           have HBn:=hid hb'
           clear hor' hb'
           refine ⟨_,rfl,fun K' hK=>?_⟩
           go_simp
           refine hK.out _ _ ?_
           go_wp2_with fail
           go_roundw
           case rel =>
            refine ⟨j+1,by omega,by go_num,⟨_,HRn.out,?_⟩,HBn.out⟩
            rw [List.map_append,HRs.out,List.take_add_one,HZj.out]
            simp
           case measure=>simp [intOf];omega
        · have ej:j=(A0 k).length:=by omega
          subst ej
          go_wp2_with fail
          go_roundw
          case rel =>
           refine ⟨m+1,by omega,by go_num,⟨_,HR.out,?_⟩,HBj.out⟩
           rw [HRs.out,HQs.out,List.take_add_one,HC.out,List.flatMap_append,List.take_length]
           simp
          case measure=>simp [intOf];omega
     · have em:m=ps.length:=by omega
       subst em
       go_wp2_with fail
       go_roundw
       case rel =>
        refine ⟨k+1,by omega,by go_num,⟨_,HQ.out.mono (Nat.le_trans HB4.out.size (Nat.le_refl _)),?_⟩,HB4.out.trans (HBq.out.mono HB4.out.size)⟩
        rw [HQs.out,hpl,List.take_length]
        rfl
       case measure=>simp [intOf];omega
  · have ek:k=l 0:=by omega
    subst ek
    go_wp2_with fail
    go_ret
    exact ⟨_,ps,rfl,HO.out.mono (Nat.le_of_lt hz1),HPs.out,HBw.out⟩
end Go.Proofs.YthompjbplddkgaaGreatDoor.choSpec
