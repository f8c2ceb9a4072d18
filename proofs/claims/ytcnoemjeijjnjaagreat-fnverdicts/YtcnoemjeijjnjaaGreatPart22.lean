import Derived.Test.YtcnoemjeijjnjaaGreatPart21
import Derived.Laws.BitsLemmas
import Derived.Laws.BitsAllLaws
import Derived.Laws.Bits64b
import Derived.Test.YtcnoemjeijjnjaaGreatPart6
import Derived.Shelf.RegionOpen
import Derived.WalkKit
import Derived.OwnWalkIn
import Derived.TacticsInMore
import Derived.LoopNIn
import Derived.LoopIn
import Derived.BigRegion
import Derived.Deep.RegionWith
set_option linter.unusedVariables false
namespace Go.Proofs.YtcnoemjeijjnjaaGreat.downsSpec
open Go.RowKit Go.Deep base copy rowsOwn
def OwnBools (B : Nat) (w : World) (v : Value) (zs : List Bool) : Prop := w.ownsRow B 4 1 v zs.length (zs.map Value.bool)
structure OwnRB (B : Nat) (w : World) (v : Value) (ps : List (Value × List Bool)) : Prop where
 outer:w.ownsRow B 35 1 v ps.length (ps.map Prod.fst)
 inner:∀p∈ps,OwnBools B w p.1 p.2
theorem OwnRB.below {B:Nat} {w w1:World} {v:Value} {ps:List (Value × List Bool)} (h:OwnRB B w v ps) (hb:Below w.heap.size w w1):OwnRB B w1 v ps:=⟨own_pass h.outer hb,fun p hp=>own_pass (h.inner p hp) hb⟩
theorem own_atT {B n s:Nat} {t:TypeId} {w w1:World} {v:Value} {xs:List Value} (h:w.ownsRow B t s v n xs) (hk:∀g cs,v.ownBlock=some g→w.heap[g]? = some (.cells cs t (0,0))→w1.heap[g]? = w.heap[g]?):w1.ownsRow B t s v n xs:=by
 obtain⟨h1,h2⟩:=h;refine⟨h1,?_⟩;rcases h2 with h2|⟨g,cap,cur,rfl,hg,hh,hn⟩
 · exact .inl h2
 exact .inr ⟨g,cap,cur,rfl,hg,by rw[hk g cur rfl hh];exact hh,hn⟩
theorem OwnRB.add {B:Nat} {w w3:World} {v v' x:Value} {ps:List (Value × List Bool)} {zs:List Bool} (h:OwnRB B w v ps) (hx:OwnBools B w x zs) (ho:w3.ownsRow B 35 1 v' (ps.length+1) (ps.map Prod.fst++[x])) (hg:w.grownBy w3 v.ownBlock):OwnRB B w3 v' (ps++[(x,zs)]):=by
 have hap:∀(y:Value) (ys:List Bool),OwnBools B w y ys→OwnBools B w3 y ys:=fun y ys hy=>own_atT hy fun g cs hv hh=>hg.block g (Array.getElem?_eq_some_iff.1 hh).1 fun e=>by
  rcases h.outer.2 with ⟨e1,_⟩|⟨g',c',cur,e1,_,hh',_⟩
  · rw[e1]at e;cases e
  rw[e1]at e;have e':some g=some g' := e;injection e' with e';subst e';rw[hh]at hh';injection hh' with hh';injection hh' with _ hh' _;exact absurd hh' (by decide)
 refine⟨by rw[List.length_append,List.map_append];exact ho,fun q hq=>?_⟩;rcases List.mem_append.1 hq with hq|hq
 · exact hap _ _ (h.inner q hq)
 rw[List.mem_singleton]at hq;subst hq;exact hap _ _ hx
def bitsD (L mask : Nat) : List Bool := (List.range L).map fun i=>mask.testBit (L - 1 - i)
theorem bitsD_len (L mask:Nat):(bitsD L mask).length=L:=by simp[bitsD]
def cntT (ds : List Bool) : Nat := (ds.filter id).length
theorem cnt_snoc (ds:List Bool) (b:Bool):cntT (ds++[b])=cntT ds+if b then 1 else 0:=by
 cases b<;>simp[cntT]
theorem cnt_le (ds:List Bool):cntT ds≤ds.length:=List.length_filter_le _ _
theorem take_next {L mask q:Nat} (h:q<L):(bitsD L mask).take (q+1)=(bitsD L mask).take q++[mask.testBit (L - 1 - q)]:=by
 rw[List.take_succ_eq_append_getElem (by rw[bitsD_len];exact h)];simp[bitsD]
def downsAt (L s m : Nat) : List (List Bool) := ((List.range m).map (bitsD L)).filter fun d=>cntT d==s
def downsL (L k : Nat) : List (List Bool) := (List.range k).flatMap fun s=>downsAt L s (2 ^ L)
theorem downsAt_succ (L s m:Nat):downsAt L s (m+1)=downsAt L s m++if cntT (bitsD L m)==s then [bitsD L m] else []:=by
 unfold downsAt;rw[List.range_succ,List.map_append,List.filter_append]
 congr 1
 simp only[List.map_cons,List.map_nil,List.filter_cons,List.filter_nil]
theorem downsAt_len (L s m:Nat):(downsAt L s m).length≤m:=Nat.le_trans (List.length_filter_le _ _) (by simp)
theorem downsL_succ (L k:Nat):downsL L (k+1)=downsL L k++downsAt L k (2 ^ L):=by
 unfold downsL;rw[List.range_succ,List.flatMap_append];simp
theorem downsL_len (L:Nat):∀k,(downsL L k).length≤k*2 ^ L
 | 0=>by simp[downsL]
 | k+1=>by
  have h1:=downsL_len L k;have h2:=downsAt_len L k (2 ^ L);rw[downsL_succ,List.length_append,Nat.add_mul];omega
theorem bit_of (n k:Nat) (hn:n<4096):(bits .and .i64 ((n:Int) / 2 ^ k) 1==1)=n.testBit k:=by
 have e:((n:Int) / 2 ^ k)=((n / 2 ^ k:Nat):Int):=by simp
 have hl:n / 2 ^ k<4096:=Nat.lt_of_le_of_lt (Nat.div_le_self _ _) hn;rw[e,Nat.testBit_eq_decide_div_mod_eq];generalize n / 2 ^ k=m at *;have h:=bits_mask .i64 40 (by decide) (fun m h0 h1=>by rw[IntKind.wrap_i64];omega) 1 (by decide) (m:Int) Om Om;simp only[Int.reducePow,Int.reduceSub]at h;rw[h];rw[Bool.eq_iff_iff];simp;omega
theorem info_bool : (Tryz.prog.info? 4).map (fun i=>(i.zero,i.size,i.bytes))=some (some (.bool false),1,1):=by kernel_rfl
theorem info_bools : (Tryz.prog.info? 35).map (fun i=>(i.zero,i.size,i.bytes))=some (some (.slice none 0 0),1,24):=by kernel_rfl
theorem empty_row (t:TypeId) (w:World):(w.alloc (.cells #[] t)).ownsRow w.heap.size t 1 (.slice (some ⟨w.heap.size,0,none⟩) 0 0) 0 [] :=
 ⟨rfl,.inr ⟨w.heap.size,0,#[],rfl,Nat.le_refl _,heap_alloc_new w _,Nat.le_refl _,Nat.zero_le _,rfl,rfl⟩⟩
theorem own_low {B B' n s:Nat} {w:World} {v:Value} {t:TypeId} {xs:List Value} (h:w.ownsRow B t s v n xs) (hb:B'≤B):w.ownsRow B' t s v n xs:=by
 obtain⟨h1,h2⟩:=h;refine⟨h1,?_⟩;rcases h2 with h2|⟨g,cap,cur,e,hg,hr⟩
 · exact .inl h2
 exact .inr ⟨g,cap,cur,e,Nat.le_trans hb hg,hr⟩
theorem rb_form {B:Nat} {w:World} {v:Value} {ps:List (Value × List Bool)} (h:OwnRB B w v ps):∃p c,v=.slice p ps.length c:=by
 rcases h.outer.2 with ⟨e,h0⟩|⟨g,cap,cur,e,_⟩
 · exact⟨none,0,by rw[e,h0]⟩
 exact⟨_,cap,e⟩
theorem bools_form {B:Nat} {w:World} {v:Value} {zs:List Bool} (h:OwnBools B w v zs):∃p c,v=.slice p zs.length c:=by
 rcases h.2 with ⟨e,h0⟩|⟨g,cap,cur,e,_⟩
 · exact⟨none,0,by rw[e,h0]⟩
 exact⟨_,cap,e⟩
set_option maxRecDepth 100000 in
set_option maxHeartbeats 6400000 in
theorem downs_spec (L k:Nat) (w:World) (hL:L≤6) (hk:k≤2) :
  Calls Tryz.prog 53 #[.int .i64 (L:Int),.int .i64 (k:Int)] w fun e w'=>∃v ps,e=.returned v∧OwnRB w.heap.size w' v ps∧ps.map (·.2)=downsL L (k+1)∧Below w.heap.size w w' := by
 obtain⟨i0,hi,hzz⟩:=Option.map_eq_some_iff.1 info_bool;simp only[Prod.mk.injEq]at hzz;obtain⟨hz0,hz1,hz2⟩:=hzz;have HI:=hid hi;have HZ0:=hid hz0;have HZ1:=hid hz1;have HZ2:=hid hz2;clear hi hz0 hz1 hz2;obtain⟨i1,hi,hzz⟩:=Option.map_eq_some_iff.1 info_bools;simp only[Prod.mk.injEq]at hzz;obtain⟨hz0,hz1,hz2⟩:=hzz;have HJ:=hid hi;have HJ0:=hid hz0;have HJ1:=hid hz1;have HJ2:=hid hz2;clear hi hz0 hz1 hz2;obtain⟨P,hP⟩:∃P,2 ^ L=P:=⟨_,rfl⟩
 have hP64:P≤64:=by
  rw[←hP];exact Nat.pow_le_pow_right (n:=2) Om (show L≤6 by omega)
 have hW:wrap64 ((2:Int) ^ L)=(P:Int):=by
  have hc:((2:Int) ^ L)=((2 ^ L:Nat):Int):=by simp
  rw[hc,hP];unfold wrap64;omega
 have HP:=hid hP;clear hP;go_enter Tryz.func53,Tryz.ntmps53;go_wp2;go_loopw [6,5] (fun i v wr=>∃(s:Nat) (ps:List (Value × List Bool)),s≤k+1∧i=.int .i64 s∧OwnRB w.heap.size wr v ps∧ps.map (·.2)=downsL L s∧Below w.heap.size w wr) (fun i _ _=>k+1 - (intOf i).toNat)
 case atStart=>exact⟨0,[],Nat.zero_le _,rfl,⟨empty_row _ w,fun p hp=>by cases hp⟩,rfl,Bl⟩
 rename_i v;obtain⟨s,ps,hs,rfl,hox,hpr,hbel⟩:=hrel;generalize wr=wo at *;obtain⟨va,vc,hv⟩:=rb_form hox;subst hv;have HO:=hid hox;have HPr:=hid hpr;have HB:=hid hbel;clear hox hpr hbel;by_cases hlt:s≤k
 · have hsi:(s:Int)≤(k:Int):=by omega
   go_wp2;go_loopw [7,5] (fun i v wr=>∃(m:Nat) (qs:List (Value × List Bool)),m≤P∧i=.int .i64 m∧OwnRB w.heap.size wr v qs∧qs.map (·.2)=downsL L s++downsAt L s m∧Below w.heap.size w wr) (fun i _ _=>P - (intOf i).toNat)
   case atStart=>exact⟨0,ps,Nat.zero_le _,rfl,HO.out,by rw[HPr.out];simp[downsAt],HB.out⟩
   rename_i v2;obtain⟨m,qs,hm,rfl,hoq,hpq,hbq⟩:=hrel;generalize wr=wp at *;obtain⟨na,nc,hnv⟩:=rb_form hoq;subst hnv
   have hql:qs.length≤300:=by
    have h1:qs.length=(qs.map (·.2)).length:=(List.length_map _).symm;rw[h1,hpq,List.length_append];have h2:=downsL_len L s;have h3:=downsAt_len L s m;rw[HP.out]at h2;have h4:s*P≤3*64:=Nat.mul_le_mul Om hP64;omega
   have HQ:=hid hoq;have HPq:=hid hpq;have HBq:=hid hbq;have hszp:=hbq.size;clear hoq hpq hbq;by_cases hmP:m<P
   · have hmi:(m:Int)<(P:Int):=by omega
     go_wp2;simp only[hW];clear hW;go_loopw [10,9,8] (fun i n d wr=>∃q:Nat,q≤L∧i=.int .i64 q∧n=.int .i64 (cntT ((bitsD L m).take q):Nat)∧OwnBools wp.heap.size wr d ((bitsD L m).take q)∧Below wp.heap.size wp wr) (fun i _ _ _=>L - (intOf i).toNat)
     case atStart=>exact⟨0,Nat.zero_le _,rfl,rfl,empty_row _ wp,Bl⟩
     obtain⟨q,hq,rfl,rfl,hod,hbd⟩:=hrel;generalize wr=wd at *;have hdl:((bitsD L m).take q).length=q:=by rw[List.length_take,bitsD_len];omega
     have hcl:cntT ((bitsD L m).take q)≤q:=by have:=cnt_le ((bitsD L m).take q);omega
     obtain⟨da,dc,hdv⟩:=bools_form hod;rw[hdl]at hdv;subst hdv;have HD:=hid hod;have HBd:=hid hbd;have HDl:=hid hdl;have hszd:=hbd.size;obtain⟨N,hN⟩:∃N,cntT ((bitsD L m).take q)=N:=⟨_,rfl⟩;rw[hN]at hcl;simp only[hN];have HN:=hid hN;clear hod hbd hdl hN;by_cases hqL:q<L
     · have hqi:(q:Int)<(L:Int):=by omega
       obtain⟨bt,hbt⟩:∃b,m.testBit (L - 1 - q)=b:=⟨_,rfl⟩;have HBt:Hid ((bits .and .i64 ((m:Int) / 2 ^ (L - 1 - q)) 1==1)=bt):=hid (by rw[bit_of m _ Om,hbt]);have HTk:Hid ((bitsD L m).take (q+1)=(bitsD L m).take q++[bt]):=hid (by rw[take_next hqL,hbt]);clear hbt;go_wp2_with (at_builtin;(refine wpList_append_own _ rfl _ _ 35 rfl wp.heap.size 4 i0 (.bool false) 1 1 Tryz.underlying35 HI.out HZ0.out HZ1.out HZ2.out rfl (by decide) _ q _ rfl (by have h9:=World.ownsRow.alloc HD.out (.cells #[.bool (bits .and .i64 ((m:Int) / 2 ^ (L - 1 - q)) 1==1)] 4);rw[HDl.out]at h9;exact h9) ⟨wd.heap.size,0,none⟩ 1 1 [.bool (bits .and .i64 ((m:Int) / 2 ^ (L - 1 - q)) 1==1)] rfl rfl (cell_one_new _ _ _) (fun u hu=>by simp at hu;subst hu;rfl) (by unfold maxLen;omega) Om (by simp;omega) ?_);intro v' w9 hown' hgrow9 hnil9)
       all_goals
        rename_i hbb
        have HO9:Hid (OwnBools wp.heap.size w9 v' ((bitsD L m).take (q+1))):=hid (by
         rw[HBt.out]at hown';unfold OwnBools;rw[HTk.out,List.length_append,List.map_append,HDl.out]
         exact hown')
        have hba:Below wp.heap.size wp (wd.alloc (.cells #[.bool (bits .and .i64 ((m:Int) / 2 ^ (L - 1 - q)) 1==1)] 4)):=HBd.out.alloc hszd _;have HB9:Hid (Below wp.heap.size wp w9):=hid (hba.grown hgrow9 (by simp;omega) (fun j hj=>(World.ownsRow.lt HD.out j hj).1));rw[HBt.out]at hbb;subst hbb;have HC9:=hid (cnt_snoc ((bitsD L m).take q) (_:Bool) |>.symm.trans (congrArg cntT HTk.out.symm));rw[HN.out]at HC9;clear hown' hgrow9 hnil9 hba;go_roundw
        case rel=>exact⟨q+1,by omega,by go_num,by rw[←HC9.out];first|rfl|go_num,HO9.out,HB9.out⟩
        case measure=>simp[intOf];omega
     have e:q=L:=by omega
     subst e;have HTa:Hid ((bitsD q m).take q=bitsD q m):=hid (List.take_of_length_le (Nat.le_of_eq (bitsD_len q m)));have HD2:Hid (OwnBools wp.heap.size wd (.slice da q dc) (bitsD q m)):=hid (by have h9:=HD.out;rw[HTa.out]at h9;exact h9);have HN2:Hid (cntT (bitsD q m)=N):=hid (by have h9:=HN.out;rw[HTa.out]at h9;exact h9);have HQ2:Hid (OwnRB w.heap.size wd (.slice na qs.length nc) qs):=hid (HQ.out.below HBd.out);have HB2:Hid (Below w.heap.size w wd):=hid (HBq.out.trans (HBd.out.mono hszp));have hszw:w.heap.size≤wd.heap.size:=HB2.out.size;by_cases hNs:N=s
     · have HSu:Hid (downsAt q s (m+1)=downsAt q s m++[bitsD q m]):=hid (by rw[downsAt_succ,HN2.out,hNs];simp);subst hNs;go_wp2_with (at_builtin;(refine wpList_append_own _ rfl _ _ 133 rfl w.heap.size 35 i1 (.slice none 0 0) 1 24 Tryz.underlying133 HJ.out HJ0.out HJ1.out HJ2.out rfl (by decide) _ qs.length _ rfl (World.ownsRow.alloc HQ2.out.outer _) ⟨wd.heap.size,0,none⟩ 1 1 [.slice da q dc] rfl rfl (cell_one_new _ _ _) (fun u hu=>by simp at hu;subst hu;rfl) (by unfold maxLen;omega) Om (by simp;omega) ?_);intro v' w9 hown' hgrow9 hnil9);have hal:Below wd.heap.size wd (wd.alloc (.cells #[.slice da q dc] 35)):=Bl;have HO9:Hid (OwnRB w.heap.size w9 v' (qs++[(.slice da q dc,bitsD q m)])):=hid (OwnRB.add (HQ2.out.below hal) (own_low (own_pass HD2.out hal) hszp) hown' hgrow9);have hba:Below w.heap.size w (wd.alloc (.cells #[.slice da q dc] 35)):=HB2.out.alloc hszw _;have HB9:Hid (Below w.heap.size w w9):=hid (hba.grown hgrow9 (by simp;omega) (fun j hj=>(World.ownsRow.lt HQ2.out.outer j hj).1));clear hown' hgrow9 hnil9 hba hal;go_wp2;go_roundw
       case rel=>exact⟨m+1,qs++[(.slice da q dc,bitsD q m)],by omega,by go_num,HO9.out,by rw[List.map_append,HPq.out,HSu.out,List.append_assoc];rfl,HB9.out⟩
       case measure=>simp[intOf];omega
     have HSu:Hid (downsAt q s (m+1)=downsAt q s m):=hid (by rw[downsAt_succ,HN2.out];simp[hNs]);have hni:¬((N:Int)=(s:Int)):=by omega
     go_wp2;go_roundw
     case rel=>exact⟨m+1,qs,by omega,by go_num,HQ2.out,by rw[HPq.out,HSu.out],HB2.out⟩
     case measure=>simp[intOf];omega
   have e:m=P:=by omega
   subst e;go_wp2;go_roundw
   case rel=>exact⟨s+1,qs,by omega,by go_num,HQ.out,by rw[HPq.out,downsL_succ,HP.out],HBq.out⟩
   case measure=>simp[intOf];omega
 have e:s=k+1:=by omega
 subst e;have hsi:¬(((k+1:Nat):Int)≤(k:Int)):=by omega
 go_wp2;go_ret;exact⟨_,rfl,ps,HO.out,HPr.out,HB.out⟩
end Go.Proofs.YtcnoemjeijjnjaaGreat.downsSpec
namespace Go.Proofs.YtcnoemjeijjnjaaGreat.rRows
open Go.RowKit Go.Deep Go base copy netSem routeRow candSem intsOwn
theorem own_apart {B B' n m k s s':Nat} {t t':TypeId} {w:World} {v x:Value} {xs ys:List Value} (hne:t≠t') (h:w.ownsRow B t s v n xs) (hx:w.ownsRow B' t' s' x m ys) (hv:v.ownBlock=some k) (hxk:x.ownBlock=some k):False:=by
 rcases h.2 with ⟨rfl,_⟩|⟨g,cap,cur,rfl,_,hh,_⟩
 · cases hv
 rcases hx.2 with ⟨rfl,_⟩|⟨g',cap',cur',rfl,_,hh',_⟩
 · cases hxk
 have e1:some g=some k:=hv;have e2:some g' = some k:=hxk;injection e1 with e1;injection e2 with e2;rw[e1]at hh;rw[e2,hh]at hh';injection hh' with hh';injection hh' with _ ht;exact hne ht
theorem own_kept {B B' n m s s':Nat} {t t':TypeId} {w w':World} {v x:Value} {xs ys:List Value} (hne:t≠t') (h:w.ownsRow B t s v n xs) (hx:w.ownsRow B' t' s' x m ys) (hg:w.grownBy w' x.ownBlock):w'.ownsRow B t s v n xs:=by
 refine World.ownsRow.kept h hg ?_;rcases h.2 with ⟨rfl,_⟩|⟨g,cap,cur,rfl,_⟩
 · exact .inl rfl
 exact .inr fun e=>own_apart hne h hx rfl e.symm
def rvR (p : (Nat × Nat) × List Rt) : Value := .slice (some ⟨p.1.1,0,none⟩) p.2.length p.1.2
structure OwnRR (B : Nat) (w : World) (v : Value) (ps : List ((Nat × Nat) × List Rt)) : Prop where
 outer:w.ownsRow B 52 1 v ps.length (ps.map rvR)
 inner:∀p∈ps,OwnRts B w (rvR p) p.2
 lone:ps.Pairwise fun p q=>p.1.1≠q.1.1
theorem OwnRR.below {B:Nat} {w w1:World} {v:Value} {ps:List ((Nat × Nat) × List Rt)} (h:OwnRR B w v ps) (hb:Below w.heap.size w w1):OwnRR B w1 v ps:=⟨own_pass h.outer hb,fun p hp=>own_pass (h.inner p hp) hb,h.lone⟩
theorem OwnRR.mono {B B':Nat} {w:World} {v:Value} {ps:List ((Nat × Nat) × List Rt)} (h:OwnRR B w v ps) (hb:B'≤B):OwnRR B' w v ps:=by
 refine⟨⟨h.outer.1,?_⟩,fun p hp=>(h.inner p hp).mono hb,h.lone⟩;rcases h.outer.2 with h2|⟨g,cap,cur,e,hg,rest⟩
 · exact .inl h2
 exact .inr ⟨g,cap,cur,e,Nat.le_trans hb hg,rest⟩
theorem OwnRR.form {B:Nat} {w:World} {v:Value} {ps:List ((Nat × Nat) × List Rt)} (h:OwnRR B w v ps):∃a cap,v=.slice a ps.length cap:=by
 rcases h.outer.2 with ⟨rfl,hn⟩|⟨g,cap,cur,rfl,_⟩
 · exact⟨none,0,by rw[hn]⟩
 exact⟨_,cap,rfl⟩
theorem OwnRR.add {B:Nat} {w w':World} {v v':Value} {ps:List ((Nat × Nat) × List Rt)} {q:(Nat × Nat) × List Rt} (h:OwnRR B w v ps) (hq:OwnRts B w (rvR q) q.2) (hn:∀p∈ps,p.1.1≠q.1.1) (ho:w'.ownsRow B 52 1 v' (ps.length+1) (ps.map rvR++[rvR q])) (hg:w.grownBy w' v.ownBlock):OwnRR B w' v' (ps++[q]):=by
 refine⟨by rw[List.length_append,List.map_append];exact ho,fun p hp=>?_,?_⟩
 · have hp' : OwnRts B w (rvR p) p.2 := by
    rcases List.mem_append.1 hp with hp|hp
    · exact h.inner p hp
    rw[List.mem_singleton]at hp;rw[hp];exact hq
   exact own_kept (by decide) hp' h.outer hg
 refine List.pairwise_append.2 ⟨h.lone,List.pairwise_singleton _ _,fun a ha b hb=>?_⟩;rw[List.mem_singleton]at hb;rw[hb];exact hn a ha
theorem OwnRR.lt {B:Nat} {w:World} {v:Value} {ps:List ((Nat × Nat) × List Rt)} (h:OwnRR B w v ps):∀p∈ps,p.1.1<w.heap.size:=fun p hp=>(World.ownsRow.lt (h.inner p hp) p.1.1 rfl).2
theorem rr_empty (B N:Nat) (w:World) (hB:B≤w.heap.size) (hN:w.heap.size=N):OwnRR B (w.alloc (.cells #[] 52)) (.slice (some ⟨N,0,none⟩) 0 0) []:=by
 subst hN;exact⟨⟨rfl,.inr ⟨w.heap.size,0,#[],rfl,hB,heap_alloc_new w _,Nat.le_refl _,Nat.zero_le _,rfl,rfl⟩⟩,fun p hp=>(by cases hp),List.Pairwise.nil⟩
theorem rts_some {B:Nat} {w:World} {v:Value} {zs:List Rt} (h:OwnRts B w v zs) (hz:0<zs.length):∃g cap,v=rvR ((g,cap),zs):=by
 rcases h.2 with ⟨_,hn⟩|⟨g,cap,cur,rfl,_⟩
 · omega
 exact⟨g,cap,rfl⟩
theorem info_rr : (Tryz.prog.info? 52).map (fun i=>(i.zero,i.size,i.bytes))=some (some (.slice none 0 0),1,24):=by kernel_rfl
end Go.Proofs.YtcnoemjeijjnjaaGreat.rRows
namespace Go.Proofs.YtcnoemjeijjnjaaGreat.verHold
open Go.RowKit Go.Deep Go base copy rowsOwn downsSpec routeRow candSem rRows
theorem row_kept {B V n s:Nat} {t:TypeId} {w w':World} {v:Value} {xs:List Value} (h:w.ownsRow B t s v n xs) (hg:w.grownBy w' (some V)) (hV:V<B):w'.ownsRow B t s v n xs :=
 own_atT h fun g cs hv hh=>by
  have h1:=World.ownsRow.lt h g hv;refine hg.block g h1.2 (fun e=>?_);injection e with e;omega
theorem rb_kept {B V:Nat} {w w':World} {v:Value} {ps:List (Value × List Bool)} (h:OwnRB B w v ps) (hg:w.grownBy w' (some V)) (hV:V<B):OwnRB B w' v ps:=⟨row_kept h.outer hg hV,fun p hp=>row_kept (h.inner p hp) hg hV⟩
theorem ri_kept {B V:Nat} {w w':World} {v:Value} {ps:List (Value × List Int)} (h:OwnRows B w v ps) (hg:w.grownBy w' (some V)) (hV:V<B):OwnRows B w' v ps:=⟨row_kept h.outer hg hV,fun p hp=>row_kept (h.inner p hp) hg hV⟩
theorem rr_kept {B V:Nat} {w w':World} {v:Value} {ps:List ((Nat × Nat) × List Rt)} (h:OwnRR B w v ps) (hg:w.grownBy w' (some V)) (hV:V<B):OwnRR B w' v ps:=⟨row_kept h.outer hg hV,fun p hp=>row_kept (h.inner p hp) hg hV,h.lone⟩
theorem row_cell {B n:Nat} {t:TypeId} {w:World} {a:Option Addr} {l c j:Nat} {xs:List Value} {x:Value} (h:w.ownsRow B t 1 (.slice a l c) n xs) (hn:xs.length=n) (hx:xs[j]? = some x):∃g,a=some ⟨g,0,none⟩∧B≤g∧w.cell? ⟨g,j,none⟩=some x:=by
 have hj:j<xs.length:=(List.getElem?_eq_some_iff.1 hx).1;rcases h.2 with ⟨e,h0⟩|⟨g,cap,cur,e,hB,hh,_,_,hs,ht⟩
 · omega
 have eg:a=some ⟨g,0,none⟩:=by injection e
 subst eg;refine⟨g,rfl,hB,?_⟩
 have h3:cur[j]? = some x:=by
  have:(cur.toList.take (n*1))[j]? = xs[j]?:=by rw[ht]
  rw[List.getElem?_take,if_pos Om,hx]at this;rw[←Array.getElem?_toList,this]
 simp[World.cell?,hh,h3]
theorem bools_row {B:Nat} {w:World} {v:Value} {zs:List Bool} (h:OwnBools B w v zs):∃a c,v=.slice a zs.length c∧BoolRow w a zs.length zs:=by
 rcases h.2 with ⟨e,h0⟩|⟨g,cap,cur,e,hB,hh,h4,h5,hs,ht⟩
 · exact⟨none,0,by rw[e,h0],rfl,by rw[h0];exact Nat.zero_le _,fun i hi=>by omega⟩
 refine⟨_,cap,e,rfl,by omega,fun i hi=>⟨g,0,rfl,?_⟩⟩
 have h3:cur[i]? = some (.bool (zs[i]?.getD false)):=by
  have:(cur.toList.take (zs.length*1))[i]? = (zs.map Value.bool)[i]?:=by rw[ht]
  rw[List.getElem?_take,if_pos Om]at this;rw[←Array.getElem?_toList,this,List.getElem?_map,List.getElem?_eq_getElem hi];rfl
 rw[Nat.zero_add];simp[World.cell?,hh,h3]
end Go.Proofs.YtcnoemjeijjnjaaGreat.verHold
namespace Go.Proofs.YtcnoemjeijjnjaaGreat.pickB
open Go.RowKit Go.Deep Go.Shelf Go base copy netSem downsSpec verHold prodB rangeAt
attribute [local go_sem] Oper.semAt_some
theorem brow_of_own {B n c:Nat} {w:World} {a:Option Addr} {zs:List Bool} (h:OwnBools B w (.slice a n c) zs):BoolRow w a n zs:=by
 obtain⟨a',c',e,hr⟩:=bools_row h;injection e with e1 e2 e3;subst e1;subst e2;exact hr
def pk (L : Nat→List Bool) : Nat→Nat→List Bool→List (List Bool)
 | 0,_,c=>[c]
 | m+1,k,c=>(L k).flatMap fun v=>pk L m (k+1) (c++[v])
theorem pk_prod (L:Nat→List Bool):∀m k,(prod L k).flatMap (fun c=>pk L m k c)=prod L (k+m)
 | 0,k=>by simp[pk]
 | m+1,k=>by
  have ih:=pk_prod L m (k+1);rw[show k+(m+1)=k+1+m by omega,←ih];simp only[pk,prod,List.flatMap_assoc,List.flatMap_map]
theorem pk_all (L:Nat→List Bool) (n:Nat):pk L n 0 []=prod L n:=by
 have:=pk_prod L n 0;simp only[prod,List.flatMap_cons,List.flatMap_nil,List.append_nil,Nat.zero_add]at this;exact this
theorem own_keep {B n:Nat} {w w1:World} {v:Value} {t:TypeId} {s:Nat} {xs:List Value} (h:w.ownsRow B t s v n xs) (hk:∀g,v.ownBlock=some g→w1.heap[g]? = w.heap[g]?):w1.ownsRow B t s v n xs:=by
 obtain⟨h1,h2⟩:=h;refine⟨h1,?_⟩;rcases h2 with h2|⟨g,cap,cur,rfl,hg,hh,hn⟩
 · exact .inl h2
 exact .inr ⟨g,cap,cur,rfl,hg,by rw[hk g rfl];exact hh,hn⟩
def KpB (A A' : World) : Prop := ∀(q : Nat) (cs : Array Value) (t : TypeId) (fr : Nat × Nat),A.heap[q]? = some (.cells cs t fr)→t=4∨t=35∨t=133→A'.heap[q]? = some (.cells cs t fr)
theorem KpB.trans {A B C:World} (h:KpB A B) (k:KpB B C):KpB A C:=fun q cs t fr hq ht=>k q cs t fr (h q cs t fr hq ht) ht
structure RBool (B : Nat) (A A' : World) : Prop where
 os:A'.os=A.os
 tape:A'.tape=A.tape
 output:A'.output=A.output
 size:A.heap.size≤A'.heap.size
 blk:∀q,q<A.heap.size→(B≤q→∀cs fr,A.heap[q]?≠some (.cells cs 4 fr))→A'.heap[q]? = A.heap[q]?
structure RowsD (B0 B1 RB n : Nat) (V : Nat→Value) (L : Nat→List Bool) (W : World) : Prop where
 row:W.rowIs RB 35 n V
 own:∀i,i<n→OwnBools B0 W (V i) (L i)
 low:∀i g,i<n→(V i).ownBlock=some g→g<B1
 few:∀i,i<n→(L i).length≤100
theorem own_block {B g:Nat} {W:World} {v:Value} {zs:List Bool} (h:OwnBools B W v zs) (hg:v.ownBlock=some g):∃cs,W.heap[g]? = some (.cells cs 4 (0,0)):=by
 rcases h.2 with ⟨e,_⟩|⟨g',cap,cur,e,_,hh,_⟩
 · rw[e]at hg;simp[Value.ownBlock]at hg
 rw[e]at hg;simp[Value.ownBlock]at hg;subst hg;exact⟨cur,hh⟩
theorem RowsD.kept {B0 B1 RB n:Nat} {V:Nat→Value} {L:Nat→List Bool} {W W':World} (h:RowsD B0 B1 RB n V L W) (hk:KpB W W'):RowsD B0 B1 RB n V L W' := by
 refine⟨h.row.of_block ?_,fun i hi=>own_keep (h.own i hi) fun g hg=>?_,h.low,h.few⟩
 · obtain⟨c,hc,_⟩:=h.row;rw[hc];exact hk _ _ _ _ hc (.inr (.inl rfl))
 obtain⟨cs,hc⟩:=own_block (h.own i hi) hg;rw[hc];exact hk _ _ _ _ hc (.inl rfl)
theorem RowsD.set {B0 B1 RB n LB k:Nat} {V:Nat→Value} {L:Nat→List Bool} {W:World} {v:Value} (h:RowsD B0 B1 RB n V L W) (h1:B1≤LB) (h2:RB≠LB):RowsD B0 B1 RB n V L (W.setCell ⟨LB,k,none⟩ v) :=
 ⟨h.row.of_block (Below.heap_setCell _ _ _ _ h2),fun i hi=>own_keep (h.own i hi) fun g hg=>Below.heap_setCell _ _ _ _ (by have:=h.low i g hi hg;show g≠LB;omega),h.low,h.few⟩
def ListD (LB n k : Nat) (c : List Bool) (W : World) : Prop := ∃z : Nat→Bool,W.rowIs LB 4 n (fun i=>.bool (z i))∧∀i,i<k→z i=bAt c i
theorem ListD.kept {LB n k:Nat} {c:List Bool} {W W':World} (h:ListD LB n k c W) (hk:KpB W W'):ListD LB n k c W' := by
 obtain⟨z,hz,hc⟩:=h;refine⟨z,hz.of_block ?_,hc⟩;obtain⟨cs,hh,_⟩:=hz;rw[hh];exact hk _ _ _ _ hh (.inl rfl)
theorem ListD.less {LB n k:Nat} {c:List Bool} {v:Bool} {W:World} (h:ListD LB n (k+1) (c++[v]) W) (hl:c.length=k):ListD LB n k c W:=by
 obtain⟨z,hz,hc⟩:=h;refine⟨z,hz,fun i hi=>?_⟩;rw[hc i Om];unfold bAt;rw[List.getElem?_append_left Om]
theorem ListD.put {LB n k:Nat} {c:List Bool} {W:World} (h:ListD LB n k c W) (hl:c.length=k) (v:Bool):ListD LB n (k+1) (c++[v]) (W.setCell ⟨LB,k,none⟩ (.bool v)):=by
 obtain⟨z,hz,hc⟩:=h;refine⟨fun i=>if i=k then v else z i,(hz.set k _).congr (fun i hi=>?_),fun i hi=>?_⟩
 · by_cases e:i=k<;>simp[e]
 dsimp only;unfold bAt;by_cases e:i=k
 · subst e;rw[if_pos rfl,List.getElem?_append_right Om,hl,Nat.sub_self];rfl
 rw[if_neg e,List.getElem?_append_left Om];exact hc i Om
theorem RBool.set {B LB k:Nat} {W:World} {n:Nat} {f:Nat→Value} (h:W.rowIs LB 4 n f) (hB:B≤LB) (v:Value):RBool B W (W.setCell ⟨LB,k,none⟩ v):=by
 refine⟨rfl,rfl,rfl,by simp[World.setCell],fun q hq hx=>Below.heap_setCell _ _ _ _ fun e=>?_⟩;obtain⟨cs,hh,_⟩:=h;have e:q=LB:=e;subst e;exact hx hB _ _ hh
def AtL (B n : Nat) (L : Nat→List Bool) (x : Nat × List Bool) (W : World) : Prop := B≤x.1∧x.2.length=n∧(∀i,i<n→bAt x.2 i∈L i)∧W.rowIs x.1 4 n (fun i=>.bool (bAt x.2 i))
set_option maxRecDepth 100000 in
set_option maxHeartbeats 4000000 in
theorem pick_in (n B0 B1 RB rc LB l:Nat) (V:Nat→Value) (L:Nat→List Bool) (J Jx:List (Nat × List Bool)→World→Prop) (hn:n≤100) (hLB:B1≤LB) (hRB:RB≠LB) (Bs:Nat) (Full:List (List Bool)) (hBs:Bs≤LB)
  (hJ:∀s A A',RBool Bs A A'→J s A→J s A')
  (hY:∀pre x W1,J pre W1→AtL Bs n L x W1→(∃suf,Full=pre.map (·.2)++x.2::suf)→YieldAt Fence.wide 9 Tryz.prog l #[.slice (some ⟨x.1,0,none⟩) n n] W1 fun e W' =>
   (e=.returned (.bool true)∧J (pre++[x]) W'∧KpB W1 W')∨(e=.returned (.bool false)∧Jx (pre++[x]) W')) :
  ∀(m k:Nat) (c:List Bool) (pre:List (Nat × List Bool)) (W:World),k+m=n→(∃suf,Full=pre.map (·.2)++pk L m k c++suf)→c.length=k→(∀i,i<k→bAt c i∈L i)→RowsD B0 B1 RB n V L W→ListD LB n k c W→J pre W →
   CallsIn Fence.wide 9 Tryz.prog 147 #[.slice (some ⟨RB,0,none⟩) n rc,.slice (some ⟨LB,0,none⟩) n n,.int .i64 (k:Int),.func (.yield l) #[] #[]] W fun e W' =>
    (e=.returned (.bool true)∧J (pre++(pk L m k c).map (fun c=>(LB,c))) W'∧RowsD B0 B1 RB n V L W'∧ListD LB n k c W')∨(e=.returned (.bool false)∧∃q,Jx q W'):=by
 intro m
 induction m with
 | zero =>
  intro k c pre W hkm hT hcl hin hR hL hj;have hT0:∃suf,Full=pre.map (·.2)++c::suf:=by obtain⟨suf,h⟩:=hT;exact⟨suf,by rw[h];simp[pk]⟩
  have hk:k=n:=by omega
  subst hk
  have hat:AtL Bs k L (LB,c) W:=by
   obtain⟨z,hz,hc⟩:=hL;exact⟨hBs,hcl,hin,hz.congr (fun i hi=>by rw[hc i hi])⟩
  obtain⟨fn,tmps,assign,body,hy,hround⟩:=yield_any (m' := 8) (hY pre (LB,c) W hj hat hT0);dsimp only at hy;have HR:=hid hR;have HL:=hid hL;have dk:((k:Int)==(k:Int))=true:=by simp
  clear hR hL hat;refine callsIn_of_wp Tryz.func147 rfl trivial ?_ rfl;simp only[Tryz.ntmps147,List.size_toArray,List.length_cons,List.length_nil,Nat.reduceAdd,Nat.reduceSub,Array.replicate_succ,Array.replicate_zero,List.push_toArray,List.append_toArray,List.nil_append,List.cons_append];gi_wp2;refine hround.mono ?_;rintro e W3 (⟨rfl,hJ3,hk3⟩|⟨rfl,hJx3⟩)
  · have HR3:=hid (HR.out.kept hk3);have HL3:=hid (HL.out.kept hk3);gi_wp2;go_ret;exact .inl ⟨rfl,by simpa[pk] using hJ3,HR3.out,HL3.out⟩
  gi_wp2;go_ret;exact .inr ⟨rfl,_,hJx3⟩
 | succ m ih =>
  intro k c pre W hkm hT hcl hin hR hL hj;have HT:=hid hT;clear hT;have hkn:k<n:=by omega
  have dk:((k:Int)==(n:Int))=false:=by simp;omega
  have HR:=hid hR;have HL:=hid hL;have hf:=hR.few k hkn;obtain⟨av,cv,hVk,hrow⟩:=bools_row (hR.own k hkn);have HVk:=hid hVk;have q0:=hR.row.cell (i:=k) hkn;rw[hVk]at q0;have hki:(k:Int)<(n:Int):=by omega
  have HIh:=hid ih;have HJ0:=hid hj;clear hR hL hVk hrow ih hj;refine callsIn_of_wp Tryz.func147 rfl trivial ?_ rfl;simp only[Tryz.ntmps147,List.size_toArray,List.length_cons,List.length_nil,Nat.reduceAdd,Nat.reduceSub,Array.replicate_succ,Array.replicate_zero,List.push_toArray,List.append_toArray,List.nil_append,List.cons_append];gi_wp2;clear q0;gi_loopw [23] (fun i wr=>∃t:Nat,t≤(L k).length∧i=.int .i64 t∧J (pre++(((L k).take t).flatMap fun v=>pk L m (k+1) (c++[v])).map (fun c=>(LB,c))) wr∧RowsD B0 B1 RB n V L wr∧ListD LB n k c wr) (fun i _=>(L k).length - (intOf i).toNat)
  case atStart=>exact⟨0,Nat.zero_le _,rfl,by simpa using HJ0.out,HR.out,HL.out⟩
  clear HR HL HJ0;obtain⟨t,ht,rfl,hj,hR,hL⟩:=hrel;have HR:=hid hR;have HL:=hid hL;have HJ:=hid hj;have hO:=hR.own k hkn;rw[HVk.out]at hO;have hrow:=brow_of_own hO;clear hR hL hj hO;by_cases hlt:t<(L k).length
  · obtain⟨b,off,rfl,hc⟩:=hrow.cell t hlt;obtain⟨v,hv⟩:∃v,(L k)[t]?.getD false=v:=⟨_,rfl⟩;rw[hv]at hc;have HTk:Hid ((L k).take (t+1)=(L k).take t++[v]):=hid (by rw[List.take_add_one,List.getElem?_eq_getElem hlt,←hv,List.getElem?_eq_getElem hlt];rfl);have hvin:v∈L k:=by rw[←hv,List.getElem?_eq_getElem hlt];exact List.getElem_mem hlt
    obtain⟨z,hz,hzc⟩:=HL.out;have gk:=hz.cell (i:=k) hkn;have zk:=hz.frozen k;have HLn:=hid (HL.out.put hcl v);have HRn:Hid (RowsD B0 B1 RB n V L (wr.setCell ⟨LB,k,none⟩ (.bool v))):=hid (HR.out.set hLB hRB);have HJn:=hid (hJ _ _ _ (RBool.set (k:=k) hz hBs (.bool v)) HJ.out)
    have HTn:Hid (∃suf,Full=(pre++(((L k).take t).flatMap fun v=>pk L m (k+1) (c++[v])).map (fun c=>(LB,c))).map (·.2)++pk L m (k+1) (c++[v])++suf):=hid (by
     obtain⟨suf,h9⟩:=HT.out
     have e9:(pk L (m+1) k c)=((L k).take (t+1)).flatMap (fun v=>pk L m (k+1) (c++[v]))++((L k).drop (t+1)).flatMap (fun v=>pk L m (k+1) (c++[v])):=by
      rw[←List.flatMap_append,List.take_append_drop];rfl
     have e8:∀l:List (List Bool),(l.map (fun c=>(LB,c))).map (·.2)=l:=fun l=>by rw[List.map_map];exact List.map_id _
     refine⟨((L k).drop (t+1)).flatMap (fun v=>pk L m (k+1) (c++[v]))++suf,?_⟩;rw[h9,e9,HTk.out,List.flatMap_append,List.map_append,e8]
     simp)
    have HI9:=hid (HIh.out (k+1) (c++[v]) _ _ Om HTn.out (by simp[hcl]) (fun i hi=>by
     by_cases e:i=k
     · subst e;unfold bAt;rw[List.getElem?_append_right Om,hcl,Nat.sub_self];exact hvin
     unfold bAt;rw[List.getElem?_append_left Om]
     exact hin i Om) HRn.out HLn.out HJn.out)
    have hti:(t:Int)<((L k).length:Int):=by omega
    clear hz hzc hv hrow HL HR HJ HLn HRn HJn;gi_wp2;refine⟨trivial,(calls_any HI9.out).mono ?_⟩;rintro e W3 (⟨rfl,hj3,hr3,hl3⟩|⟨rfl,q,hq⟩)
    · have HJ3:=hid hj3;have HR3:=hid hr3;have HL3:=hid (hl3.less hcl);clear hj3 hr3 hl3;gi_wp2;go_roundw
      case rel =>
       refine⟨t+1,by omega,by simp,?_,HR3.out,HL3.out⟩;rw[HTk.out,List.flatMap_append,List.map_append,←List.append_assoc];simpa using HJ3.out
      case measure=>simp[intOf];omega
    gi_wp2;go_ret;exact .inr ⟨rfl,q,hq⟩
  have e1:t=(L k).length:=by omega
  have HJe:Hid (J (pre++(pk L (m+1) k c).map (fun c=>(LB,c))) wr):=hid (by
   have:=HJ.out;rw[e1,List.take_length]at this
   exact this)
  subst e1;clear hlt;gi_wp2;go_ret;exact .inl ⟨rfl,HJe.out,HR.out,HL.out⟩
end Go.Proofs.YtcnoemjeijjnjaaGreat.pickB
namespace Go.Proofs.YtcnoemjeijjnjaaGreat.picksB
open Go.RowKit Go.Deep Go.Shelf Go base copy netSem downsSpec verHold prodB rangeAt pickB
theorem RBool.below {B:Nat} {A A':World} (h:Below A.heap.size A A'):RBool B A A' := ⟨h.os,h.tape,h.output,h.size,fun q hq _=>h.block q hq⟩
theorem kp_below {A A':World} (h:Below A.heap.size A A'):KpB A A' := fun q cs t fr hq _=>(h.block q (Array.getElem?_eq_some_iff.1 hq).1).trans hq
theorem AtL.mono {B B' n:Nat} {L:Nat→List Bool} {x:Nat × List Bool} {W:World} (h:AtL B n L x W) (hb:B'≤B):AtL B' n L x W:=⟨Nat.le_trans hb h.1,h.2⟩
structure StartP (B B0 B1 RB Bx n : Nat) (V : Nat→Value) (L : Nat→List Bool) (W : World) : Prop where
 rows:RowsD B0 B1 RB n V L W
 box:Boxed W Bx 133 (.slice (some ⟨RB,0,none⟩) n n)
 b1:B1≤W.heap.size
 b:B≤W.heap.size
set_option maxRecDepth 100000 in
set_option maxHeartbeats 4000000 in
theorem picks_in (B B0 B1 RB Bx n l:Nat) (V:Nat→Value) (L:Nat→List Bool) (hn:n≤100) (J Jx:List (Nat × List Bool)→World→Prop) (W:World) (hs:StartP B B0 B1 RB Bx n V L W)
  (hJ:∀s A A',RBool W.heap.size A A'→J s A→J s A')
  (hY:∀pre x W1,J pre W1→AtL B n L x W1→(∃suf,prod L n=pre.map (·.2)++x.2::suf)→YieldAt Fence.wide 9 Tryz.prog l #[.slice (some ⟨x.1,0,none⟩) n n] W1 fun e W' =>
   (e=.returned (.bool true)∧J (pre++[x]) W'∧KpB W1 W')∨(e=.returned (.bool false)∧Jx (pre++[x]) W'))
  (h0:J [] W) :
  Calls Tryz.prog 146 #[.func (.yield l) #[] #[],.pointer (some ⟨Bx,0,none⟩)] W fun e W'=>(∃v,e=.returned v)∧((∃xs,(∃LB,xs=(prod L n).map (fun c=>(LB,c)))∧J xs W')∨(∃pre,Jx pre W')):=by
 have HS:=hid hs;have qb:=hs.box.cell;have hlt:=hs.box.lt;have hmk:=run_make_row' (P:=Tryz.prog) 35 4 (.bool false) 1 Tryz.underlying35 Tryz.info_bool rfl .i64 .i64 n Om Om
 have HP:Hid (∀W9:World,W9=W.drew.alloc (.cells (madeCells #[.bool false] n) 4)→Calls Tryz.prog 147 #[.slice (some ⟨RB,0,none⟩) n n,.slice (some ⟨W.heap.size,0,none⟩) n n,.int .i64 0,.func (.yield l) #[] #[]] W9 fun e W' =>
   ∃ok:Bool,e=.returned (.bool ok)∧((∃xs,(∃LB,xs=(prod L n).map (fun c=>(LB,c)))∧J xs W')∨(∃pre,Jx pre W'))):=hid (fun W9 h9=>by
  have hb:Below W.heap.size W W9:=by rw[h9];exact Bl
  have hrow:W9.rowIs W.heap.size 4 n (fun _=>.bool false):=by rw[h9];exact World.rowIs_made W.drew _ n 4
  have hRB:RB≠W.heap.size:=by have:=hs.rows.row.lt;omega
  have h:=pick_in n B0 B1 RB n W.heap.size l V L J Jx hn hs.b1 hRB W.heap.size (prod L n) (Nat.le_refl _) hJ (fun pre x W1 hj hat hlt=>hY pre x W1 hj (AtL.mono hat hs.b) hlt) n 0 [] [] W9 Om ⟨[],by rw[pk_all];simp⟩ rfl (fun i hi=>absurd hi (Nat.not_lt_zero _)) (hs.rows.kept (kp_below hb)) ⟨fun _=>false,hrow,fun i hi=>absurd hi (Nat.not_lt_zero _)⟩ (hJ _ _ _ (RBool.below hb) h0);refine(callsIn_wide.1 h).mono ?_;rintro e W' (⟨he,hj,_,_⟩|⟨he,hq⟩)
  · rw[pk_all,List.nil_append]at hj;exact⟨_,he,.inl ⟨_,⟨_,rfl⟩,hj⟩⟩
  exact⟨_,he,.inr hq⟩)
 clear hs hJ hY h0;go_enter Tryz.func146,Tryz.ntmps146;go_wp2_with fail;go_region_with (go_at_call 147;refine(HP.out _ rfl).mono ?_;rintro e W' ⟨ok,rfl,hres⟩;have HRes:=hid hres;clear hres)
 all_goals
  go_wp2;go_end0;exact⟨⟨_,rfl⟩,HRes.out⟩
theorem picks_impl (a:Option Addr) (len cap:Nat) (w:World) :
  Calls Tryz.prog 122 #[.slice a len cap] w fun e w'=>e=.returned (.func (.func 146) #[] #[.pointer (some ⟨w.heap.size,0,none⟩)])∧w' = w.alloc (.cells #[.slice a len cap] 133):=by
 go_enter Tryz.func122,Tryz.ntmps122;go_wp2;go_ret;exact⟨rfl,rfl⟩
end Go.Proofs.YtcnoemjeijjnjaaGreat.picksB
