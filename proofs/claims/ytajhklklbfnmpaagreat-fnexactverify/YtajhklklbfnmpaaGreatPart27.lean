import Derived.Test.YtajhklklbfnmpaaGreatPart26
import Derived.Maps.AppendAt
set_option linter.unusedVariables false
namespace Go.Proofs.YtajhklklbfnmpaaGreat.ssSem
open Go base netSem routeRow nbSem candSem sceneSem sceneCand sceneList rtsRow noRts bestAll stabImpl stabFace stabLaw rofSem prodSem
def ownV (o : List Int) (i : Int) : List Int := if 0≤hasAt o i then [-2] else []
def extV (e env : List Int) (i : Int) : List Int := if 0≤hasAt e i∧0 < zAt env (hasAt e i).toNat then [-1] else []
def optL (g : R) (nl : Nat) (o e env : List Int) (ds : List Bool) (n : Nat) (i : Int) : List Int :=
 ownV o i ++ extV e env i ++ (if (ownV o i ++ extV e env i).length=0 then [-3] else []) ++ nbL g nl ds i n
def rowP (g : R) (nl : Nat) (o e env : List Int) (ds : List Bool) (i : Int) (k : Nat) : List Int :=
 ((List.range k).map fun j:Nat=>(j:Int) - 3).filter fun v=>openB g nl o e env ds i v
theorem rowP_succ (g : R) (nl : Nat) (o e env : List Int) (ds : List Bool) (i : Int) (k : Nat) : rowP g nl o e env ds i (k+1)=rowP g nl o e env ds i k ++ (if openB g nl o e env ds i ((k : Int) - 3) then [(k : Int) - 3] else []) := by
 unfold rowP
 rw [List.range_succ,List.map_append,List.filter_append]
 congr 1
 simp only [List.map_cons,List.map_nil]
 cases h:openB g nl o e env ds i ((k:Int) - 3) <;> simp [h]
theorem rowP_len (g : R) (nl : Nat) (o e env : List Int) (ds : List Bool) (i : Int) (k : Nat) : (rowP g nl o e env ds i k).length≤k := by
 unfold rowP
 refine Nat.le_trans (List.length_filter_le _ _) ?_
 simp
theorem rowP_form (g : R) (nl : Nat) (o e env : List Int) (ds : List Bool) (i : Int) (he : ∀ i,0≤zAt env i) : ∀ k,rowP g nl o e env ds i (k+3) = -3 :: (ownV o i ++ extV e env i ++ nbL g nl ds i k)
 | 0=>by
  rw [rowP_succ,rowP_succ,rowP_succ]
  have h0:rowP g nl o e env ds i 0=[]:=rfl
  have h3:openB g nl o e env ds i (((0:Nat):Int) - 3)=true:=rfl
  have h2:openB g nl o e env ds i (((0+1:Nat):Int) - 3)=decide (0≤hasAt o i):=rfl
  have h1:openB g nl o e env ds i (((0+1+1:Nat):Int) - 3)=(annA e env i != 0):=rfl
  rw [h0,h3,h2,h1]
  have hn:nbL g nl ds i 0=[]:=by simp [nbL]
  rw [hn]
  unfold ownV extV annA
  by_cases a:0≤hasAt o i
  · by_cases b:0≤hasAt e i
    · have:=he (hasAt e i).toNat
      by_cases c:zAt env (hasAt e i).toNat=0
      · simp [a,b,c]
      · have c':0 < zAt env (hasAt e i).toNat:=by omega
        simp [a,b,c,c']
    · simp [a,b]
  · by_cases b:0≤hasAt e i
    · have:=he (hasAt e i).toNat
      by_cases c:zAt env (hasAt e i).toNat=0
      · simp [a,b,c]
      · have c':0 < zAt env (hasAt e i).toNat:=by omega
        simp [a,b,c,c']
    · simp [a,b]
 | k+1=>by
  rw [show k+1+3=(k+3)+1 from rfl,rowP_succ,rowP_form g nl o e env ds i he k,nbL_succ]
  have h:openB g nl o e env ds i (((k+3:Nat):Int) - 3)=nbB g nl ds i k:=by
   have e1:((k+3:Nat):Int) - 3=(k:Int):=by omega
   rw [e1]
   unfold openB
   rw [if_neg (by omega),if_neg (by omega),if_neg (by omega),Int.toNat_natCast]
  rw [h,show ((k+3:Nat):Int) - 3=(k:Int) by omega]
  cases nbB g nl ds i k <;> simp
def letsB (o e env : List Int) (i : Int) (v : Int) : Bool := decide (v ≠ -3) || decide ((ownV o i ++ extV e env i).length=0)
theorem opt_row (g : R) (nl : Nat) (o e env : List Int) (ds : List Bool) (n : Nat) (i : Int) (he : ∀ i,0≤zAt env i) : optL g nl o e env ds n i=(rowP g nl o e env ds i (n+3)).filter (letsB o e env i) := by
 rw [rowP_form g nl o e env ds i he n,List.filter_cons,List.filter_append,List.filter_append]
 have h2:(ownV o i).filter (letsB o e env i)=ownV o i:=List.filter_eq_self.2 fun v hv=>by
  unfold ownV at hv
  split at hv
  · simp only [List.mem_singleton] at hv;subst hv;rfl
  · cases hv
 have h1:(extV e env i).filter (letsB o e env i)=extV e env i:=List.filter_eq_self.2 fun v hv=>by
  unfold extV at hv
  split at hv
  · simp only [List.mem_singleton] at hv;subst hv;rfl
  · cases hv
 have h0:(nbL g nl ds i n).filter (letsB o e env i)=nbL g nl ds i n:=List.filter_eq_self.2 fun v hv=>by
  unfold nbL at hv
  obtain ⟨j,_,rfl⟩:=List.mem_map.1 hv
  unfold letsB
  rw [decide_eq_true (by omega)]
  rfl
 rw [h2,h1,h0]
 unfold optL
 by_cases hz:(ownV o i ++ extV e env i).length=0
 · have h3:letsB o e env i (-3)=true:=by unfold letsB;rw [decide_eq_true hz];rfl
   rw [if_pos hz,h3,if_pos rfl,List.length_eq_zero_iff.1 hz]
   rfl
 · have h3:letsB o e env i (-3)=false:=by unfold letsB;rw [decide_eq_false hz];rfl
   rw [if_neg hz,h3,if_neg (by decide),List.append_nil]
def goodB (g : R) (nl : Nat) (o e : List Int) (x : R) (nx : Nat) (env : List Int) (ds : List Bool) (n : Nat) (c : List Int) : Bool := okV g nl o e x nx env ds c n && stabB g nl o e x nx env ds (valR g nl o e x nx env ds c n) n
def stateOf (g : R) (nl : Nat) (o e : List Int) (x : R) (nx : Nat) (env : List Int) (ds : List Bool) (n : Nat) (c : List Int) : List Rt := (List.range n).map (valR g nl o e x nx env ds c n)
def statesL (g : R) (nl : Nat) (o e : List Int) (x : R) (nx : Nat) (env : List Int) (ds : List Bool) (n : Nat) (l : List (List Int)) : List (List Rt) := (l.filter (goodB g nl o e x nx env ds n)).map (stateOf g nl o e x nx env ds n)
theorem statesL_snoc (g : R) (nl : Nat) (o e : List Int) (x : R) (nx : Nat) (env : List Int) (ds : List Bool) (n : Nat) (l : List (List Int)) (c : List Int) : statesL g nl o e x nx env ds n (l ++ [c])=statesL g nl o e x nx env ds n l ++ (if goodB g nl o e x nx env ds n c then [stateOf g nl o e x nx env ds n c] else []) := by
 unfold statesL
 rw [List.filter_append,List.map_append]
 congr 1
 cases h:goodB g nl o e x nx env ds n c <;> simp [h]
variable {g : R} {nl nx : Nat} {o e : List Int} {x : R} {env : List Int} {ds : List Bool} {n : Nat}
theorem bst_none {zs : List Rt} (h : bst zs=noRt) (hv : ∀ r ∈ zs,r.via ≠ -3) : zs=[] := by
 cases zs with
 | nil=>rfl
 | cons a zs =>
  exfalso
  have hpos:0 < (a :: zs).length:=by simp
  rw [bst_some hpos] at h
  have key:∀ k,k < (a :: zs).length→∃ i,i≤k∧bestTo (rF (a :: zs)) k=rF (a :: zs) i:=by
   intro k
   induction k with
   | zero=>intro _;exact ⟨0,Nat.le_refl _,rfl⟩
   | succ k ih =>
    intro hk
    simp only [bestTo]
    split
    · exact ⟨k+1,Nat.le_refl _,rfl⟩
    · obtain ⟨i,hi,e⟩:=ih (by omega)
      exact ⟨i,by omega,e⟩
  obtain ⟨i,hi,e⟩:=key _ (show (a :: zs).length - 1 < (a :: zs).length by omega)
  rw [e] at h
  have hm:rF (a :: zs) i ∈ (a :: zs):=by
   have hil:i < (a :: zs).length:=by omega
   unfold rF
   rw [List.getElem?_eq_getElem hil]
   exact List.getElem_mem hil
  exact hv _ hm (by rw [h];rfl)
theorem good_lets {c : List Int} (hn : 1≤n) (hl : c.length=n) (h : goodB g nl o e x nx env ds n c=true) : allQ (fun i v=>letsB o e env (i : Int) v) c=true := by
 unfold goodB at h
 simp only [Bool.and_eq_true] at h
 obtain ⟨h1,h2⟩:=h
 unfold allQ
 simp only [List.all_eq_true,List.mem_range]
 intro i hi
 rw [hl] at hi
 unfold letsB
 by_cases hv:zAt c i = -3
 · have hs : valR g nl o e x nx env ds c n i = noRt := by
    have hsome:=allN_iff.1 h1 i hi
    unfold valR
    cases hq:val g nl o e x nx env ds c n (i:Int) with
    | none=>rfl
    | some r =>
     obtain ⟨n',rfl⟩:∃ n',n=n' + 1:=⟨n - 1,by omega⟩
     simp only [val,Int.toNat_natCast,hv] at hq
     have h0:openB g nl o e env ds (i:Int) (-3)=true:=rfl
     rw [h0] at hq
     simp at hq
     rw [← hq]
     rfl
   unfold stabB sameTo at h2
   have h3:=eqR_iff.1 (allN_iff.1 h2 i hi)
   simp only at h3
   rw [hs] at h3
   have h4:=bst_none h3 (fun r hr=>cand_via r hr)
   unfold candL at h4
   simp only [List.append_eq_nil_iff] at h4
   have h5:ownV o (i:Int)=[]:=by
    have:=h4.1.1
    unfold ownC at this
    unfold ownV
    split at this
    · cases this
    · next hh=>rw [if_neg hh]
   have h6:extV e env (i:Int)=[]:=by
    have:=h4.1.2
    unfold extC at this
    unfold extV
    split at this
    · cases this
    · next hh=>rw [if_neg hh]
   rw [h5,h6]
   simp
 · rw [decide_eq_true hv]
   rfl
theorem states_same (he : ∀ i,0≤zAt env i) (hn : 1≤n) : statesL g nl o e x nx env ds n (prod (fun i : Nat=>optL g nl o e env ds n (i : Int)) n)=statesL g nl o e x nx env ds n (prod (fun i : Nat=>rowP g nl o e env ds (i : Int) (n+3)) n) := by
 have h1:prod (fun i:Nat=>optL g nl o e env ds n (i:Int)) n=(prod (fun i:Nat=>rowP g nl o e env ds (i:Int) (n+3)) n).filter (allQ fun i v=>letsB o e env (i:Int) v):=by
  rw [← prod_filter]
  congr 1
  funext i
  exact opt_row g nl o e env ds n (i:Int) he
 rw [h1]
 unfold statesL
 congr 1
 rw [List.filter_filter]
 apply List.filter_congr
 intro c hc
 have hl:=prod_len hc
 cases hg:goodB g nl o e x nx env ds n c with
 | false=>rfl
 | true=>rw [good_lets hn hl hg];rfl
end Go.Proofs.YtajhklklbfnmpaaGreat.ssSem
namespace Go.Proofs.YtajhklklbfnmpaaGreat.choImpl
open Go.RowKit Go.Deep Go.Shelf Go base copy netSem routeRow nbSem candSem hopSem intsOwn hopMake hopBetween sceneSem sceneOpen bestAll prodSem ssSem pick picksSeq
theorem info_ints : (Tryz.prog.info? 24).map (fun i=>(i.zero,i.size,i.bytes))=some (some (.slice none 0 0),1,24) := by kernel_rfl
variable {sb b B : Nat} {F : Nat→Value} {p : Nat→Option Addr} {l c : Nat→Nat} {g : R} {o e : List Int} {x : R} {ea da : Option Addr} {el ec dl dc : Nat} {env : List Int} {ds : List Bool} {w W W2 : World}
theorem sc_other {row : Option Nat} (h0 : Sc sb b B F p l c g o e x ea da el ec dl dc env ds w) (hbw : b < w.heap.size) (h : Sc sb b B F p l c g o e x ea da el ec dl dc env ds W) (hg : w.grownBy W (some b))
  (hq:∀ q,row=some q→w.heap.size≤q∧∀ cs fr,W.heap[q]? ≠ some (.cells cs 114 fr)) (h2:W.grownBy W2 row):Sc sb b B F p l c g o e x ea da el ec dl dc env ds W2∧w.grownBy W2 (some b):=by
 have hz:=hg.size
 have hne:∀ j,j < w.heap.size→some j ≠ row:=fun j hj e=>by have:=(hq j e.symm).1;omega
 have hg2:w.grownBy W2 (some b):=⟨h2.os.trans hg.os,h2.tape.trans hg.tape,h2.output.trans hg.output,Nat.le_trans hg.size h2.size,fun j hj hb=>(h2.block j (by omega) (hne j hj)).trans (hg.block j hj hb)⟩
 have hkb:W2.heap[b]? = W.heap[b]?:=h2.block b (by omega) (hne b hbw)
 refine ⟨h0.step hg2 ?_,hg2⟩
 rcases h.ready with ⟨h1,h2,h3,h4⟩ | ⟨V,F',hm⟩
 · exact .inl ⟨h1.of_block hkb,h2,h3,h4⟩
 · refine .inr ⟨V,F',hm.row.of_block hkb,hm.net,hm.done,hm.hops,fun p q' hp hq'=>hopMake.own_keep (hm.own p q' hp hq') fun k hk=>h2.block k (World.ownsRow.lt (hm.own p q' hp hq') k hk).2 fun ek=>?_⟩
   rcases (hm.own p q' hp hq').2 with ⟨e1,_⟩ | ⟨k',cap,cur,e1,_,hh,_⟩
   · rw [e1] at hk
     simp [Value.ownBlock] at hk
   · rw [e1] at hk
     simp [Value.ownBlock] at hk
     rw [hk] at hh
     exact (hq k ek.symm).2 _ _ hh
theorem not_imp {q t : Nat} {cs : Array Value} {fr : Nat × Nat} (h : W.heap[q]? = some (.cells cs t fr)) (ht : t ≠ 114) : ∀ cs fr,W.heap[q]? ≠ some (.cells cs 114 fr) := fun cs' fr' h'=>by
 rw [h] at h'
 injection h' with h'
 injection h' with _ h' _
 exact ht h'
set_option maxHeartbeats 6400000 in
set_option maxRecDepth 8000 in
theorem choices_impl (n : Nat) (h : Sc sb b B F p l c g o e x ea da el ec dl dc env ds w) (hf0 : F 0=.slice (p 0) (l 0) (c 0)) (hu : ∀ i,i < l 1→linkAt g i (g i 0) (g i 1) < 0) (hn0 : l 0=n) (hn1 : 1≤n) (hn : n≤4) :
  Calls Tryz.prog 85 #[.pointer (some ⟨sb,0,none⟩)] w fun e' w'=>∃ (Bx RB:Nat) (V:Nat→Value),e' = .returned (.func (.func 141) #[] #[.pointer (some ⟨Bx,0,none⟩)])∧Boxed w' Bx 102 (.slice (some ⟨RB,0,none⟩) n n)∧RowsD w.heap.size w'.heap.size RB n V (fun i:Nat=>rowP g (l 1) o e env ds (i:Int) (n+3)) w'∧w.heap.size≤Bx∧w.heap.size≤RB∧Sc sb b B F p l c g o e x ea da el ec dl dc env ds w'∧w.grownBy w' (some b):=by
 subst hn0
 have HS:=hid h
 have HU:=hid hu
 have hbw:b < w.heap.size:=by rcases h.ready with ⟨h1,_⟩ | ⟨V,F',hm⟩;exact h1.lt;exact hm.row.lt
 have s0:=h.s0
 have q0:=h.net 0 (by omega)
 rw [hf0] at q0
 have hmk:=run_make_row' (P:=Tryz.prog) 102 24 (.slice none 0 0) 24 Tryz.underlying102 info_ints rfl .i64 .i64 (l 0) (by omega) (by omega)
 obtain ⟨i0,hi0,hzz⟩:=Option.map_eq_some_iff.1 Tryz.info_int
 simp only [Prod.mk.injEq] at hzz
 obtain ⟨hz0,hz1,hz2⟩:=hzz
 have HI:=hid hi0
 have HZ0:=hid hz0
 have HZ1:=hid hz1
 have HZ2:=hid hz2
 clear hi0 hz0 hz1 hz2 h hu hf0
 go_enter Tryz.func85,Tryz.ntmps85
 go_wp2
 clear s0 q0 hmk
 obtain ⟨w1,hw1⟩:∃ w1,w.alloc (.cells (madeCells #[.slice none 0 0] (l 0)) 24)=w1:=⟨_,rfl⟩
 have HB1:Hid (Below w.heap.size w w1):=hid (by rw [← hw1];exact Bl)
 have HR1:Hid (w1.rowIs w.heap.size 24 (l 0) (fun _=>.slice none 0 0)):=hid (by rw [← hw1];exact World.rowIs_made w _ (l 0) 24)
 rw [hw1]
 clear hw1
 obtain ⟨RB,hRB⟩:∃ RB,w.heap.size=RB:=⟨_,rfl⟩
 rw [hRB] at HR1 ⊢
 have HRB:=hid hRB
 obtain ⟨n,hn0⟩:∃ n,l 0=n:=⟨_,rfl⟩
 rw [hn0] at hn1 hn HR1 ⊢
 obtain ⟨L,hL⟩:∃ L:Nat→List Int,L=fun i:Nat=>rowP g (l 1) o e env ds (i:Int) (n+3):=⟨_,rfl⟩
 have HLe:=hid hL
 clear hRB hL
 go_loopw [18] (fun i wr=>∃ (r:Nat) (V:Nat→Value),r≤n∧i=.int .i64 r∧wr.rowIs RB 24 n V∧(∀ i,i < r→OwnInts RB wr (V i) (L i))∧(∀ i,r≤i→V i=.slice none 0 0)∧Sc sb b B F p l c g o e x ea da el ec dl dc env ds wr∧w.grownBy wr (some b)) (fun i _=>n - (intOf i).toNat)
 case atStart=>exact ⟨0,_,Nat.zero_le _,rfl,HR1.out,fun i hi=>absurd hi (Nat.not_lt_zero _),fun _ _=>rfl,HS.out.below HB1.out,grown_of_below HB1.out _⟩
 case round =>
  clear HB1 HR1
  obtain ⟨r,V,hr,rfl,hrow,hown,hnil,hs,hg⟩:=hrel
  have HRo:=hid hrow
  have HOw:=hid hown
  have HNi:=hid hnil
  have HSr:=hid hs
  have HGr:=hid hg
  clear hrow hown hnil hs hg
  by_cases hlt:r < n
  · generalize hq:wr=W0 at *
    clear hq
    have hRW:RB < W0.heap.size:=HRo.out.lt
    have hRBw:w.heap.size≤RB:=by have:=HRB.out;omega
    go_wp2
    go_loopw [5] (fun i wr=>∃ (k:Nat) (v:Value),k≤n+3∧i=.int .i64 ((k:Int) - 3)∧wr.rowIs RB 24 n (fun i=>if i=r then v else V i)∧OwnInts W0.heap.size wr v (rowP g (l 1) o e env ds (r:Int) k)∧(∀ i,i < r→OwnInts RB wr (V i) (L i))∧Sc sb b B F p l c g o e x ea da el ec dl dc env ds wr∧w.grownBy wr (some b)∧W0.heap.size≤wr.heap.size) (fun i _=>n+3 - ((intOf i)+3).toNat)
    case atStart=>exact ⟨0,.slice none 0 0,Nat.zero_le _,rfl,HRo.out.congr (fun i hi=>by split;(next e=>subst e;exact HNi.out _ (Nat.le_refl _));rfl),OwnInts.nil _ _,HOw.out,HSr.out,HGr.out,Nat.le_refl _⟩
    case round =>
     obtain ⟨k,v,hk,rfl,hrow,hv,hown,hs,hg,hz⟩:=hrel
     have HR2:=hid hrow
     have HV2:=hid hv
     have HO2:=hid hown
     have HS2:=hid hs
     have HG2:=hid hg
     clear hrow hv hown hs hg
     by_cases hk3:k < n+3
     · have dk:decide ((k:Int) - 3 < (n:Int))=true:=decide_eq_true (by omega)
       have HPs:=hid (rowP_succ g (l 1) o e env ds (r:Int) k)
       have HPl:=hid (rowP_len g (l 1) o e env ds (r:Int) k)
       go_wp2_with fail
       refine (open_impl sb b B F p l c g o e x ea da el ec dl dc env ds n r ((k:Int) - 3) wr HS2.out HU.out hn hlt (by omega) (by omega)).mono ?_
       rintro e' w3 ⟨rfl,hs3,hg3⟩
       have HS3:=hid hs3
       have HG3:=hid (gtrans HG2.out hg3)
       have hbr:b < wr.heap.size:=Nat.lt_of_lt_of_le hbw HG2.out.size
       have HR3:=hid (HR2.out.of_block (hg3.block _ HR2.out.lt (fun e=>by injection e with e;omega)))
       have HV3:=hid (own_grown HV2.out hg3 (fun g hg e=>by injection e with e;have:=(own_lt HV2.out hg).1;have:=HGr.out.size;omega))
       have HO3:Hid (∀ i,i < r→OwnInts RB w3 (V i) (L i)):=hid (fun i hi=>own_grown (HO2.out i hi) hg3 (fun g hg e=>by injection e with e;have:=(own_lt (HO2.out i hi) hg).1;omega))
       have hz3:W0.heap.size≤w3.heap.size:=Nat.le_trans hz hg3.size
       obtain ⟨ob,hob⟩:∃ ob,openB g (l 1) o e env ds (r:Int) ((k:Int) - 3)=ob:=⟨_,rfl⟩
       rw [hob] at HPs ⊢
       clear hs3 hg3 HS2 HG2 HR2 HV2 HO2 hob
       cases ob with
       | false =>
        have HPe:Hid (rowP g (l 1) o e env ds (r:Int) (k+1)=rowP g (l 1) o e env ds (r:Int) k):=hid (by rw [HPs.out];simp)
        go_wp2
        go_roundw
        case rel=>exact ⟨k+1,v,by omega,by congr 1;omega,HR3.out,by rw [HPe.out];exact HV3.out,HO3.out,HS3.out,HG3.out,hz3⟩
        case measure=>simp [intOf];omega
       | true =>
        have HPe:Hid (rowP g (l 1) o e env ds (r:Int) (k+1)=rowP g (l 1) o e env ds (r:Int) k ++ [(k:Int) - 3]):=hid (by rw [HPs.out];simp)
        have qr:=HR3.out.cell (i:=r) hlt
        have zr:=HR3.out.frozen r
        rw [if_pos rfl] at qr
        have hrn:(r:Int) < (n:Int):=by omega
        have hRW3:RB < w3.heap.size:=HR3.out.lt
        have HR4f:Hid (∀ w4:World,(w3.alloc (.cells #[.int .i64 ((k:Int) - 3)] 3)).grownBy w4 v.ownBlock→w4.rowIs RB 24 n (fun i=>if i=r then v else V i)):=hid (fun w4 hg4=>(HR3.out.of_block ((show Below w3.heap.size w3 (w3.alloc (.cells #[.int .i64 ((k:Int) - 3)] 3)) from Bl).block _ hRW3)).of_block (hg4.block _ (by simp;omega) (fun e=>by have:=(own_lt HV3.out e.symm).1;omega)))
        go_wp2_with (at_builtin;(refine wpList_append_own _ rfl _ _ 24 rfl W0.heap.size 3 i0 (.int .i64 0) 1 8 Tryz.underlying24 HI.out HZ0.out HZ1.out HZ2.out rfl (by decide) _ _ _ rfl (World.ownsRow.alloc HV3.out _) ⟨_,0,none⟩ 1 1 [.int .i64 ((k:Int) - 3)] rfl rfl (cell_one_new _ _ _) (fun x hx=>by simp at hx;subst hx;rfl) (by have:=HPl.out;unfold maxLen;omega) (by have:=HPl.out;omega) (by simp;omega) ?_);intro v' w4 hown' hgrow4 hnil4;obtain ⟨g4,cap4,hv4⟩:=ownsRow_succ hown';subst hv4;have HR4:=hid (HR4f.out w4 hgrow4);have q4:=HR4.out.cell (i:=r) hlt;have z4:=HR4.out.frozen r;rw [if_pos rfl] at q4;have HOw4:=hid hown';have HGw4:=hid hgrow4;clear hown' hgrow4 hnil4)
        have HV5:Hid (OwnInts W0.heap.size (w4.setCell ⟨RB,r,none⟩ (.slice (some ⟨g4,0,none⟩) ((rowP g (l 1) o e env ds (r:Int) k).length+1) cap4)) (.slice (some ⟨g4,0,none⟩) ((rowP g (l 1) o e env ds (r:Int) k).length+1) cap4) (rowP g (l 1) o e env ds (r:Int) (k+1))):=hid (by
         have h4:OwnInts W0.heap.size w4 (.slice (some ⟨g4,0,none⟩) ((rowP g (l 1) o e env ds (r:Int) k).length+1) cap4) (rowP g (l 1) o e env ds (r:Int) (k+1)):=by
          rw [HPe.out]
          unfold OwnInts
          rw [List.length_append,List.map_append]
          exact HOw4.out
         exact own_grown h4 (grown_set (grown_refl _ _)) (fun g hg e=>by injection e with e;have:=(own_lt h4 hg).1;omega))
        have HO5:Hid (∀ i,i < r→OwnInts RB (w4.setCell ⟨RB,r,none⟩ (.slice (some ⟨g4,0,none⟩) ((rowP g (l 1) o e env ds (r:Int) k).length+1) cap4)) (V i) (L i)):=hid (fun i hi=>by
         have h3:=(HO3.out i hi).below (show Below w3.heap.size w3 (w3.alloc (.cells #[.int .i64 ((k:Int) - 3)] 3)) from Bl)
         have h4:=own_grown h3 HGw4.out (fun g hg e=>by have h8:=(own_lt (HOw.out i hi) hg).2;have h9:=(own_lt HV3.out e.symm).1;omega)
         refine own_grown h4 (grown_set (grown_refl _ _)) (fun g hg e=>?_)
         injection e with e
         subst e
         obtain ⟨cs,hcs⟩:=own_block h4 hg
         obtain ⟨c9,h9,_⟩:=HR4.out
         rw [h9] at hcs
         injection hcs with hcs
         injection hcs with _ hcs _
         exact absurd hcs (by decide))
        obtain ⟨hs4,hg4⟩:=sc_other HS.out hbw HS3.out HG3.out (row:=Value.ownBlock v) (fun q hq=>⟨by have:=(own_lt HV3.out hq).1;have:=HGr.out.size;omega,by obtain ⟨cs,hcs⟩:=own_block HV3.out hq;exact not_imp hcs (by decide)⟩) (gtrans (World.grownBy_alloc w3 _ _) HGw4.out)
        obtain ⟨hs5,hg5⟩:=sc_other HS.out hbw hs4 hg4 (row:=some RB) (fun q hq=>by injection hq with hq;subst hq;exact ⟨hRBw,by obtain ⟨c9,h9,_⟩:=HR4.out;exact not_imp h9 (by decide)⟩) (grown_set (k:=r) (v:=.slice (some ⟨g4,0,none⟩) ((rowP g (l 1) o e env ds (r:Int) k).length+1) cap4) (grown_refl _ _))
        have HS5:=hid hs5
        have HG5:=hid hg5
        have hz5:W0.heap.size≤w4.heap.size:=by have:=HGw4.out.size;simp at this;omega
        clear hs4 hg4 hs5 hg5
        go_roundw
        case rel=>exact ⟨k+1,_,by omega,by congr 1;omega,(HR4.out.set r _).congr (fun i hi=>by by_cases e:i=r <;> simp [e]),HV5.out,HO5.out,HS5.out,HG5.out,by simpa [World.setCell] using hz5⟩
        case measure=>simp [intOf];omega
     · have dk:decide ((k:Int) - 3 < (n:Int))=false:=decide_eq_false (by omega)
       have e1:k=n+3:=by omega
       subst e1
       have HVe:Hid (OwnInts RB wr v (L r)):=hid (by rw [HLe.out];exact HV2.out.mono (by omega))
       go_wp2
       go_roundw
       case rel =>
        refine ⟨r+1,fun i=>if i=r then v else V i,by omega,by go_num,HR2.out,fun i hi=>?_,fun i hi=>?_,HS2.out,HG2.out⟩
        · by_cases e:i=r
          · subst e;dsimp only;rw [if_pos rfl];exact HVe.out
          · dsimp only;rw [if_neg e];exact HO2.out i (by omega)
        · dsimp only;rw [if_neg (by omega)];exact HNi.out i (by omega)
       case measure=>simp [intOf];omega
  · have e1:r=n:=by omega
    subst e1
    have hRW:RB < wr.heap.size:=HRo.out.lt
    go_wp2_with fail
    refine (picks_impl _ _ _ wr).mono ?_
    rintro e' w3 ⟨rfl,hw3⟩
    have hb3:Below wr.heap.size wr w3:=by rw [hw3];exact Bl
    have HBx:Hid (Boxed w3 wr.heap.size 102 (.slice (some ⟨RB,0,none⟩) r r)):=hid (by rw [hw3];exact Boxed.new _ _ _)
    have HRD:Hid (RowsD w.heap.size w3.heap.size RB r V L w3):=hid ⟨HRo.out.of_block (hb3.block _ hRW),fun i hi=>by have:=(HOw.out i hi).below hb3;rw [← HRB.out] at this;exact this,fun i g hi hg=>Nat.lt_of_lt_of_le (own_lt (HOw.out i hi) hg).2 hb3.size,fun i hi=>by rw [HLe.out];exact Nat.le_trans (rowP_len _ _ _ _ _ _ _ _) (by omega)⟩
    have HS3:=hid (HSr.out.below hb3)
    have HG3:=hid (gtrans HGr.out (grown_of_below hb3 _))
    have hz3:w.heap.size≤wr.heap.size:=HGr.out.size
    have hRBw:w.heap.size≤RB:=by have:=HRB.out;omega
    clear hw3 hb3
    go_wp2
    go_ret
    refine ⟨_,RB,V,rfl,?_,?_,hz3,hRBw,HS3.out,HG3.out⟩
    · rw [hn0];exact HBx.out
    · rw [hn0,← HLe.out];exact HRD.out
end Go.Proofs.YtajhklklbfnmpaaGreat.choImpl
