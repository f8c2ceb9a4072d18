import Derived.Test.YthompjbplddkgaaGreatDoorEnvsSpec
import Derived.Laws.BitsLemmas
import Derived.Laws.BitsAllLaws
import Derived.Laws.Bits64b
import Derived.OwnWalk
import Derived.WalkSpells
import Derived.Sort.Row
import Derived.Laws.ResultCell
import Derived.Deep.RegionHeld3
set_option linter.unusedVariables false
namespace Go.Proofs.YthompjbplddkgaaGreatDoor.downsSpec
open Go.RowKit Go.Deep base copy rowsOwn
def OwnBools (B : Nat) (w : World) (v : Value) (zs : List Bool) : Prop := w.ownsRow B 4 1 v zs.length (zs.map Value.bool)
structure OwnRB (B : Nat) (w : World) (v : Value) (ps : List (Value × List Bool)) : Prop where
 outer:w.ownsRow B 36 1 v ps.length (ps.map Prod.fst)
 inner:∀ p∈ps,OwnBools B w p.1 p.2
theorem OwnRB.below {B:Nat} {w w1:World} {v:Value} {ps:List (Value × List Bool)} (h:OwnRB B w v ps) (hb:Below w.heap.size w w1):OwnRB B w1 v ps:=⟨own_pass h.outer hb,fun p hp=>own_pass (h.inner p hp) hb⟩
theorem own_atT {B n s:Nat} {t:TypeId} {w w1:World} {v:Value} {xs:List Value} (h:w.ownsRow B t s v n xs) (hk:∀ g cs,v.ownBlock=some g→w.heap[g]? = some (.cells cs t (0,0))→w1.heap[g]? = w.heap[g]?):w1.ownsRow B t s v n xs:=by
 obtain ⟨h1,h2⟩:=h
 refine ⟨h1,?_⟩
 rcases h2 with h2|⟨g,cap,cur,rfl,hg,hh,hn⟩
 · exact .inl h2
 · exact .inr ⟨g,cap,cur,rfl,hg,by rw [hk g cur rfl hh];exact hh,hn⟩
theorem OwnRB.add {B:Nat} {w w3:World} {v v' x:Value} {ps:List (Value × List Bool)} {zs:List Bool} (h:OwnRB B w v ps) (hx:OwnBools B w x zs) (ho:w3.ownsRow B 36 1 v' (ps.length+1) (ps.map Prod.fst ++ [x])) (hg:w.grownBy w3 v.ownBlock):OwnRB B w3 v' (ps ++ [(x,zs)]):=by
 have hap:∀ (y:Value) (ys:List Bool),OwnBools B w y ys→OwnBools B w3 y ys:=fun y ys hy=>own_atT hy fun g cs hv hh=>hg.block g (Array.getElem?_eq_some_iff.1 hh).1 fun e=>by
  rcases h.outer.2 with ⟨e1,_⟩|⟨g',c',cur,e1,_,hh',_⟩
  · rw [e1] at e;cases e
  · rw [e1] at e
    have e':some g=some g' := e
    injection e' with e'
    subst e'
    rw [hh] at hh'
    injection hh' with hh'
    injection hh' with _ hh' _
    exact absurd hh' (by decide)
 refine ⟨by rw [List.length_append,List.map_append];exact ho,fun q hq=>?_⟩
 rcases List.mem_append.1 hq with hq|hq
 · exact hap _ _ (h.inner q hq)
 · rw [List.mem_singleton] at hq
   subst hq
   exact hap _ _ hx
def bitsD (L mask : Nat) : List Bool := (List.range L).map fun i=>mask.testBit (L - 1 - i)
theorem bitsD_len (L mask:Nat):(bitsD L mask).length=L:=by simp [bitsD]
def cntT (ds : List Bool) : Nat := (ds.filter id).length
theorem cnt_snoc (ds:List Bool) (b:Bool):cntT (ds ++ [b])=cntT ds+if b then 1 else 0:=by
 cases b <;> simp [cntT]
theorem cnt_le (ds:List Bool):cntT ds≤ds.length:=List.length_filter_le _ _
theorem take_next {L mask q:Nat} (h:q<L):(bitsD L mask).take (q+1)=(bitsD L mask).take q ++ [mask.testBit (L - 1 - q)]:=by
 rw [List.take_succ_eq_append_getElem (by rw [bitsD_len];exact h)]
 simp [bitsD]
def downsAt (L s m : Nat) : List (List Bool) := ((List.range m).map (bitsD L)).filter fun d=>cntT d == s
def downsL (L k : Nat) : List (List Bool) := (List.range k).flatMap fun s=>downsAt L s (2 ^ L)
theorem downsAt_succ (L s m:Nat):downsAt L s (m+1)=downsAt L s m ++ if cntT (bitsD L m) == s then [bitsD L m] else []:=by
 unfold downsAt
 rw [List.range_succ,List.map_append,List.filter_append]
 congr 1
 simp only [List.map_cons,List.map_nil,List.filter_cons,List.filter_nil]
theorem downsAt_len (L s m:Nat):(downsAt L s m).length≤m:=Nat.le_trans (List.length_filter_le _ _) (by simp)
theorem downsL_succ (L k:Nat):downsL L (k+1)=downsL L k ++ downsAt L k (2 ^ L):=by
 unfold downsL
 rw [List.range_succ,List.flatMap_append];simp
theorem downsL_len (L:Nat):∀ k,(downsL L k).length≤k*2 ^ L
 | 0=>by simp [downsL]
 | k+1=>by
  have h1:=downsL_len L k
  have h2:=downsAt_len L k (2 ^ L)
  rw [downsL_succ,List.length_append,Nat.add_mul]
  omega
theorem bit_of (n k:Nat) (hn:n<4096):(bits .and .i64 ((n:Int) / 2 ^ k) 1 == 1)=n.testBit k:=by
 have e:((n:Int) / 2 ^ k)=((n / 2 ^ k:Nat):Int):=by simp
 have hl:n / 2 ^ k<4096:=Nat.lt_of_le_of_lt (Nat.div_le_self _ _) hn
 rw [e,Nat.testBit_eq_decide_div_mod_eq]
 generalize n / 2 ^ k=m at *
 have h:=bits_mask .i64 40 (by decide) (fun m h0 h1=>by rw [IntKind.wrap_i64];omega) 1 (by decide) (m:Int) (by omega) (by omega)
 simp only [Int.reducePow,Int.reduceSub] at h
 rw [h]
 rw [Bool.eq_iff_iff]
 simp
 omega
theorem info_bool : (Tryz.prog.info? 4).map (fun i=>(i.zero,i.size,i.bytes))=some (some (.bool false),1,1):=by kernel_rfl
theorem info_bools : (Tryz.prog.info? 36).map (fun i=>(i.zero,i.size,i.bytes))=some (some (.slice none 0 0),1,24):=by kernel_rfl
theorem empty_row (t:TypeId) (w:World):(w.alloc (.cells #[] t)).ownsRow w.heap.size t 1 (.slice (some ⟨w.heap.size,0,none⟩) 0 0) 0 [] :=
 ⟨rfl,.inr ⟨w.heap.size,0,#[],rfl,Nat.le_refl _,heap_alloc_new w _,Nat.le_refl _,Nat.zero_le _,rfl,rfl⟩⟩
theorem own_low {B B' n s:Nat} {w:World} {v:Value} {t:TypeId} {xs:List Value} (h:w.ownsRow B t s v n xs) (hb:B'≤B):w.ownsRow B' t s v n xs:=by
 obtain ⟨h1,h2⟩:=h
 refine ⟨h1,?_⟩
 rcases h2 with h2|⟨g,cap,cur,e,hg,hr⟩
 · exact .inl h2
 · exact .inr ⟨g,cap,cur,e,Nat.le_trans hb hg,hr⟩
theorem rb_form {B:Nat} {w:World} {v:Value} {ps:List (Value × List Bool)} (h:OwnRB B w v ps):∃ p c,v=.slice p ps.length c:=by
 rcases h.outer.2 with ⟨e,h0⟩|⟨g,cap,cur,e,_⟩
 · exact ⟨none,0,by rw [e,h0]⟩
 · exact ⟨_,cap,e⟩
theorem bools_form {B:Nat} {w:World} {v:Value} {zs:List Bool} (h:OwnBools B w v zs):∃ p c,v=.slice p zs.length c:=by
 rcases h.2 with ⟨e,h0⟩|⟨g,cap,cur,e,_⟩
 · exact ⟨none,0,by rw [e,h0]⟩
 · exact ⟨_,cap,e⟩
set_option maxRecDepth 100000 in
set_option maxHeartbeats 6400000 in
theorem downs_spec (L k:Nat) (w:World) (hL:L≤6) (hk:k≤2) :
  Calls Tryz.prog 48 #[.int .i64 (L:Int),.int .i64 (k:Int)] w fun e w'=>∃ v ps,e=.returned v∧OwnRB w.heap.size w' v ps∧ps.map (·.2)=downsL L (k+1)∧Below w.heap.size w w' := by
 obtain ⟨i0,hi,hzz⟩:=Option.map_eq_some_iff.1 info_bool
 simp only [Prod.mk.injEq] at hzz
 obtain ⟨hz0,hz1,hz2⟩:=hzz
 have HI:=hid hi
 have HZ0:=hid hz0
 have HZ1:=hid hz1
 have HZ2:=hid hz2
 clear hi hz0 hz1 hz2
 obtain ⟨i1,hi,hzz⟩:=Option.map_eq_some_iff.1 info_bools
 simp only [Prod.mk.injEq] at hzz
 obtain ⟨hz0,hz1,hz2⟩:=hzz
 have HJ:=hid hi
 have HJ0:=hid hz0
 have HJ1:=hid hz1
 have HJ2:=hid hz2
 clear hi hz0 hz1 hz2
 obtain ⟨P,hP⟩:∃ P,2 ^ L=P:=⟨_,rfl⟩
 have hP64:P≤64:=by
  rw [← hP]
  exact Nat.pow_le_pow_right (n:=2) (by omega) (show L≤6 by omega)
 have hW:wrap64 ((2:Int) ^ L)=(P:Int):=by
  have hc:((2:Int) ^ L)=((2 ^ L:Nat):Int):=by simp
  rw [hc,hP]
  unfold wrap64
  omega
 have HP:=hid hP
 clear hP
 go_enter Tryz.func48,Tryz.ntmps48
 go_wp2
 go_loopw [6,5] (fun i v wr=>∃ (s:Nat) (ps:List (Value × List Bool)),s≤k+1∧i=.int .i64 s∧OwnRB w.heap.size wr v ps∧ps.map (·.2)=downsL L s∧Below w.heap.size w wr) (fun i _ _=>k+1 - (intOf i).toNat)
 case atStart=>exact ⟨0,[],Nat.zero_le _,rfl,⟨empty_row _ w,fun p hp=>by cases hp⟩,rfl,Bl⟩
 case round =>
  rename_i v
  obtain ⟨s,ps,hs,rfl,hox,hpr,hbel⟩:=hrel
  generalize wr=wo at *
  obtain ⟨va,vc,hv⟩:=rb_form hox
  subst hv
  have HO:=hid hox
  have HPr:=hid hpr
  have HB:=hid hbel
  clear hox hpr hbel
  by_cases hlt:s≤k
  · have hsi:(s:Int)≤(k:Int):=by omega
    go_wp2
    go_loopw [7,5] (fun i v wr=>∃ (m:Nat) (qs:List (Value × List Bool)),m≤P∧i=.int .i64 m∧OwnRB w.heap.size wr v qs∧qs.map (·.2)=downsL L s ++ downsAt L s m∧Below w.heap.size w wr) (fun i _ _=>P - (intOf i).toNat)
    case atStart=>exact ⟨0,ps,Nat.zero_le _,rfl,HO.out,by rw [HPr.out];simp [downsAt],HB.out⟩
    case round =>
     rename_i v2
     obtain ⟨m,qs,hm,rfl,hoq,hpq,hbq⟩:=hrel
     generalize wr=wp at *
     obtain ⟨na,nc,hnv⟩:=rb_form hoq
     subst hnv
     have hql:qs.length≤300:=by
      have h1:qs.length=(qs.map (·.2)).length:=(List.length_map _).symm
      rw [h1,hpq,List.length_append]
      have h2:=downsL_len L s
      have h3:=downsAt_len L s m
      rw [HP.out] at h2
      have h4:s*P≤3*64:=Nat.mul_le_mul (by omega) hP64
      omega
     have HQ:=hid hoq
     have HPq:=hid hpq
     have HBq:=hid hbq
     have hszp:=hbq.size
     clear hoq hpq hbq
     by_cases hmP:m<P
     · have hmi:(m:Int)<(P:Int):=by omega
       go_wp2
       simp only [hW]
       clear hW
       go_loopw [10,9,8] (fun i n d wr=>∃ q:Nat,q≤L∧i=.int .i64 q∧n=.int .i64 (cntT ((bitsD L m).take q):Nat)∧OwnBools wp.heap.size wr d ((bitsD L m).take q)∧Below wp.heap.size wp wr) (fun i _ _ _=>L - (intOf i).toNat)
       case atStart=>exact ⟨0,Nat.zero_le _,rfl,rfl,empty_row _ wp,Bl⟩
       case round =>
        obtain ⟨q,hq,rfl,rfl,hod,hbd⟩:=hrel
        generalize wr=wd at *
        have hdl:((bitsD L m).take q).length=q:=by rw [List.length_take,bitsD_len];omega
        have hcl:cntT ((bitsD L m).take q)≤q:=by have:=cnt_le ((bitsD L m).take q);omega
        obtain ⟨da,dc,hdv⟩:=bools_form hod
        rw [hdl] at hdv
        subst hdv
        have HD:=hid hod
        have HBd:=hid hbd
        have HDl:=hid hdl
        have hszd:=hbd.size
        obtain ⟨N,hN⟩:∃ N,cntT ((bitsD L m).take q)=N:=⟨_,rfl⟩
        rw [hN] at hcl
        simp only [hN]
        have HN:=hid hN
        clear hod hbd hdl hN
        by_cases hqL:q<L
        · have hqi:(q:Int)<(L:Int):=by omega
          obtain ⟨bt,hbt⟩:∃ b,m.testBit (L - 1 - q)=b:=⟨_,rfl⟩
          have HBt:Hid ((bits .and .i64 ((m:Int) / 2 ^ (L - 1 - q)) 1 == 1)=bt):=hid (by rw [bit_of m _ (by omega),hbt])
          have HTk:Hid ((bitsD L m).take (q+1)=(bitsD L m).take q ++ [bt]):=hid (by rw [take_next hqL,hbt])
          clear hbt
          go_wp2_with (at_builtin;(refine wpList_append_own _ rfl _ _ 36 rfl wp.heap.size 4 i0 (.bool false) 1 1 Tryz.underlying36 HI.out HZ0.out HZ1.out HZ2.out rfl (by decide) _ q _ rfl (by have h9:=World.ownsRow.alloc HD.out (.cells #[.bool (bits .and .i64 ((m:Int) / 2 ^ (L - 1 - q)) 1 == 1)] 4);rw [HDl.out] at h9;exact h9) ⟨wd.heap.size,0,none⟩ 1 1 [.bool (bits .and .i64 ((m:Int) / 2 ^ (L - 1 - q)) 1 == 1)] rfl rfl (cell_one_new _ _ _) (fun u hu=>by simp at hu;subst hu;rfl) (by unfold maxLen;omega) (by omega) (by simp;omega) ?_);intro v' w9 hown' hgrow9 hnil9)
          all_goals
           rename_i hbb
           have HO9:Hid (OwnBools wp.heap.size w9 v' ((bitsD L m).take (q+1))):=hid (by
            rw [HBt.out] at hown'
            unfold OwnBools
            rw [HTk.out,List.length_append,List.map_append,HDl.out]
            exact hown')
           have hba:Below wp.heap.size wp (wd.alloc (.cells #[.bool (bits .and .i64 ((m:Int) / 2 ^ (L - 1 - q)) 1 == 1)] 4)):=HBd.out.alloc hszd _
           have HB9:Hid (Below wp.heap.size wp w9):=hid (hba.grown hgrow9 (by simp;omega) (fun j hj=>(World.ownsRow.lt HD.out j hj).1))
           rw [HBt.out] at hbb
           subst hbb
           have HC9:=hid (cnt_snoc ((bitsD L m).take q) (_:Bool) |>.symm.trans (congrArg cntT HTk.out.symm))
           rw [HN.out] at HC9
           clear hown' hgrow9 hnil9 hba
           go_roundw
           case rel=>exact ⟨q+1,by omega,by go_num,by rw [← HC9.out];first|rfl|go_num,HO9.out,HB9.out⟩
           case measure=>simp [intOf];omega
        · have e:q=L:=by omega
          subst e
          have HTa:Hid ((bitsD q m).take q=bitsD q m):=hid (List.take_of_length_le (Nat.le_of_eq (bitsD_len q m)))
          have HD2:Hid (OwnBools wp.heap.size wd (.slice da q dc) (bitsD q m)):=hid (by have h9:=HD.out;rw [HTa.out] at h9;exact h9)
          have HN2:Hid (cntT (bitsD q m)=N):=hid (by have h9:=HN.out;rw [HTa.out] at h9;exact h9)
          have HQ2:Hid (OwnRB w.heap.size wd (.slice na qs.length nc) qs):=hid (HQ.out.below HBd.out)
          have HB2:Hid (Below w.heap.size w wd):=hid (HBq.out.trans (HBd.out.mono hszp))
          have hszw:w.heap.size≤wd.heap.size:=HB2.out.size
          by_cases hNs:N=s
          · have HSu:Hid (downsAt q s (m+1)=downsAt q s m ++ [bitsD q m]):=hid (by rw [downsAt_succ,HN2.out,hNs];simp)
            subst hNs
            go_wp2_with (at_builtin;(refine wpList_append_own _ rfl _ _ 89 rfl w.heap.size 36 i1 (.slice none 0 0) 1 24 Tryz.underlying89 HJ.out HJ0.out HJ1.out HJ2.out rfl (by decide) _ qs.length _ rfl (World.ownsRow.alloc HQ2.out.outer _) ⟨wd.heap.size,0,none⟩ 1 1 [.slice da q dc] rfl rfl (cell_one_new _ _ _) (fun u hu=>by simp at hu;subst hu;rfl) (by unfold maxLen;omega) (by omega) (by simp;omega) ?_);intro v' w9 hown' hgrow9 hnil9)
            have hal:Below wd.heap.size wd (wd.alloc (.cells #[.slice da q dc] 36)):=Bl
            have HO9:Hid (OwnRB w.heap.size w9 v' (qs ++ [(.slice da q dc,bitsD q m)])):=hid (OwnRB.add (HQ2.out.below hal) (own_low (own_pass HD2.out hal) hszp) hown' hgrow9)
            have hba:Below w.heap.size w (wd.alloc (.cells #[.slice da q dc] 36)):=HB2.out.alloc hszw _
            have HB9:Hid (Below w.heap.size w w9):=hid (hba.grown hgrow9 (by simp;omega) (fun j hj=>(World.ownsRow.lt HQ2.out.outer j hj).1))
            clear hown' hgrow9 hnil9 hba hal
            go_wp2
            go_roundw
            case rel=>exact ⟨m+1,qs ++ [(.slice da q dc,bitsD q m)],by omega,by go_num,HO9.out,by rw [List.map_append,HPq.out,HSu.out,List.append_assoc];rfl,HB9.out⟩
            case measure=>simp [intOf];omega
          · have HSu:Hid (downsAt q s (m+1)=downsAt q s m):=hid (by rw [downsAt_succ,HN2.out];simp [hNs])
            have hni:¬ ((N:Int)=(s:Int)):=by omega
            go_wp2
            go_roundw
            case rel=>exact ⟨m+1,qs,by omega,by go_num,HQ2.out,by rw [HPq.out,HSu.out],HB2.out⟩
            case measure=>simp [intOf];omega
     · have e:m=P:=by omega
       subst e
       go_wp2
       go_roundw
       case rel=>exact ⟨s+1,qs,by omega,by go_num,HQ.out,by rw [HPq.out,downsL_succ,HP.out],HBq.out⟩
       case measure=>simp [intOf];omega
  · have e:s=k+1:=by omega
    subst e
    have hsi:¬ (((k+1:Nat):Int)≤(k:Int)):=by omega
    go_wp2
    go_ret
    exact ⟨_,rfl,ps,HO.out,HPr.out,HB.out⟩
end Go.Proofs.YthompjbplddkgaaGreatDoor.downsSpec
namespace Go.Proofs.YthompjbplddkgaaGreatDoor.intsOwn
open Go.RowKit Go.Deep Go.Sort base copy
def OwnInts (B : Nat) (w : World) (v : Value) (zs : List Int) : Prop := w.ownsRow B 3 1 v zs.length (zs.map (Value.int .i64))
theorem OwnInts.form {B:Nat} {w:World} {v:Value} {zs:List Int} (h:OwnInts B w v zs):∃ a cap,v=.slice a zs.length cap∧IntRow w a zs.length zs:=by
 obtain ⟨h1,h2⟩:=h
 rcases h2 with ⟨rfl,hn⟩|⟨g,cap,cur,rfl,hb,hh,hn,hm,hs,ht⟩
 · exact ⟨none,0,by rw [hn],⟨rfl,by rw [hn];exact Nat.zero_le _,fun i hi=>by omega⟩⟩
 · refine ⟨some ⟨g,0,none⟩,cap,rfl,⟨rfl,Nat.le_trans hn hm,fun i hi=>⟨g,0,rfl,?_⟩⟩⟩
   have h3:cur[i]? = some (.int .i64 (zs[i]?.getD 0)):=by
    have:(cur.toList.take (zs.length*1))[i]? = (zs.map (Value.int .i64))[i]?:=by rw [ht]
    rw [List.getElem?_take,if_pos (by omega)] at this
    rw [← Array.getElem?_toList,this,List.getElem?_map,List.getElem?_eq_getElem hi]
    rfl
   simp [World.cell?,hh,h3]
theorem OwnInts.below {B:Nat} {W w1:World} {v:Value} {zs:List Int} (h:OwnInts B W v zs) (hb:Below W.heap.size W w1):OwnInts B w1 v zs:=by
 obtain ⟨h1,h2⟩:=h
 refine ⟨h1,?_⟩
 rcases h2 with h2|⟨g,cap,cur,e,hg,hh,hn,hm,hs,ht⟩
 · exact .inl h2
 · exact .inr ⟨g,cap,cur,e,hg,by rw [hb.block g (Array.getElem?_eq_some_iff.1 hh).1];exact hh,hn,hm,hs,ht⟩
theorem OwnInts.mono {B B':Nat} {w:World} {v:Value} {zs:List Int} (h:OwnInts B w v zs) (hb:B'≤B):OwnInts B' w v zs:=by
 obtain ⟨h1,h2⟩:=h
 refine ⟨h1,?_⟩
 rcases h2 with h2|⟨g,cap,cur,e,hg,hh,hn,hm,hs,ht⟩
 · exact .inl h2
 · exact .inr ⟨g,cap,cur,e,Nat.le_trans hb hg,hh,hn,hm,hs,ht⟩
theorem grown_below {B:Nat} {w w1 w2:World} {v:Value} {zs:List Int} (h:OwnInts B w1 v zs) (hb:Below B w w1) (hB:B≤w1.heap.size) (hg:w1.grownBy w2 v.ownBlock):Below B w w2 :=
 hb.grown hg hB (fun k hk=>(World.ownsRow.lt h k hk).1)
theorem own_pass {B n:Nat} {w w1:World} {v:Value} {t:TypeId} {s:Nat} {xs:List Value} (h:w.ownsRow B t s v n xs) (hb:Below w.heap.size w w1):w1.ownsRow B t s v n xs:=by
 obtain ⟨h1,h2⟩:=h
 refine ⟨h1,?_⟩
 rcases h2 with h2|⟨g,cap,cur,e,hg,hh,hn,hm,hs,ht⟩
 · exact .inl h2
 · exact .inr ⟨g,cap,cur,e,hg,by rw [hb.block g (Array.getElem?_eq_some_iff.1 hh).1];exact hh,hn,hm,hs,ht⟩
theorem own_lt {B g:Nat} {w:World} {v:Value} {zs:List Int} (h:OwnInts B w v zs) (hg:v.ownBlock=some g):B≤g∧g<w.heap.size:=World.ownsRow.lt h g hg
theorem row_of_own {B:Nat} {w:World} {a:Option Addr} {n c:Nat} {zs:List Int} (h:OwnInts B w (.slice a n c) zs):IntRow w a n zs:=by
 obtain ⟨a',c',e,hr⟩:=h.form
 have e1:a=a' := by injection e
 have e2:n=zs.length:=by injection e
 rw [e1,e2]
 exact hr
theorem own_grown {B:Nat} {w w1:World} {v:Value} {zs:List Int} {row:Option Nat} (h:OwnInts B w v zs) (hg:w.grownBy w1 row) (hne:∀ g,v.ownBlock=some g→some g≠row):OwnInts B w1 v zs:=by
 obtain ⟨h1,h2⟩:=h
 refine ⟨h1,?_⟩
 rcases h2 with h2|⟨g,cap,cur,rfl,hgB,hh,hn,hm,hs,ht⟩
 · exact .inl h2
 · exact .inr ⟨g,cap,cur,rfl,hgB,by rw [hg.block g (Array.getElem?_eq_some_iff.1 hh).1 (hne g rfl)];exact hh,hn,hm,hs,ht⟩
theorem grown_refl (w:World) (row:Option Nat):w.grownBy w row:=⟨rfl,rfl,rfl,Nat.le_refl _,fun _ _ _=>rfl⟩
theorem grown_set {w w1:World} {g k:Nat} {v:Value} (h:w.grownBy w1 (some g)):w.grownBy (w1.setCell ⟨g,k,none⟩ v) (some g):=by
 rw [setCell_eq]
 refine ⟨h.os,h.tape,h.output,?_,fun j hj hne=>?_⟩
 · show _≤(w1.heap.modify g _).size
   rw [Array.size_modify];exact h.size
 · show (w1.heap.modify g _)[j]? = _
   rw [Array.getElem?_modify,if_neg (fun e=>hne (by rw [e]))]
   exact h.block j hj hne
end Go.Proofs.YthompjbplddkgaaGreatDoor.intsOwn
namespace Go.Proofs.YthompjbplddkgaaGreatDoor.nbSem
open Go.RowKit Go.Deep base netSem intsOwn
def nbB (g : R) (nl : Nat) (down : List Bool) (router : Int) (k : Nat) : Bool := decide (0≤linkAt g nl router k) && !(down[(linkAt g nl router k).toNat]?.getD false)
def nbL (g : R) (nl : Nat) (down : List Bool) (router : Int) (n : Nat) : List Int := ((List.range n).filter (nbB g nl down router)).map (fun k : Nat=>(k : Int))
theorem nbL_succ (g:R) (nl:Nat) (down:List Bool) (router:Int) (k:Nat):nbL g nl down router (k+1)=nbL g nl down router k ++ (if nbB g nl down router k then [(k:Int)] else []):=by
 unfold nbL
 rw [List.range_succ,List.filter_append,List.map_append]
 by_cases h:nbB g nl down router k=true
 · simp [h]
 · simp [h]
theorem nbL_len (g:R) (nl:Nat) (down:List Bool) (router:Int) (n:Nat):(nbL g nl down router n).length≤n:=by
 unfold nbL
 rw [List.length_map]
 exact Nat.le_trans (List.length_filter_le _ _) (by simp)
theorem own_empty (B N:Nat) (w:World) (hB:B≤w.heap.size) (hN:w.heap.size=N):OwnInts B (w.alloc (.cells #[] 3)) (.slice (some ⟨N,0,none⟩) 0 0) []:=by
 subst hN
 exact ⟨rfl,.inr ⟨w.heap.size,0,#[],rfl,hB,heap_alloc_new w _,Nat.le_refl _,Nat.zero_le _,rfl,rfl⟩⟩
end Go.Proofs.YthompjbplddkgaaGreatDoor.nbSem
namespace Go.Proofs.YthompjbplddkgaaGreatDoor.routeRow
open Go.RowKit Go.Deep base
structure Rt where
 via:Int
 pref:Int
 len:Int
 mark:Bool
def rtV (r : Rt) : Value := .agg #[.int .i64 r.via,.int .i64 r.pref,.int .i64 r.len,.bool r.mark]
def rc (r : Rt) : Nat→Value
 | 0=>.int .i64 r.via
 | 1=>.int .i64 r.pref
 | 2=>.int .i64 r.len
 | _=>.bool r.mark
abbrev Rs := Nat→Rt
structure RtRow (w : World) (a : Option Addr) (len : Nat) (g : Rs) : Prop where
 most:len≤maxLen
 cell:∀ i,i<len→∃ b off,a=some ⟨b,off,none⟩∧∀ j,j<4→w.cell? ⟨b,off+i*4+j,none⟩=some (rc (g i) j)
theorem RtRow.kept {W w1:World} {a:Option Addr} {len:Nat} {g:Rs} (h:RtRow W a len g) (hk:∀ b o v,W.cell? ⟨b,o,none⟩=some v→w1.cell? ⟨b,o,none⟩=some v):RtRow w1 a len g :=
 ⟨h.most,fun i hi=>by
  obtain ⟨b,off,e,h0⟩:=h.cell i hi
  exact ⟨b,off,e,fun j hj=>hk _ _ _ (h0 j hj)⟩⟩
theorem RtRow.below {W w1:World} {a:Option Addr} {len:Nat} {g:Rs} (h:RtRow W a len g) (hb:Below W.heap.size W w1):RtRow w1 a len g:=h.kept fun b o v hv=>keep hb hv
theorem RtRow.at4 {w:World} {a:Option Addr} {len i:Nat} {g:Rs} (h:RtRow w a len g) (hi:i<len):∃ b off,a=some ⟨b,off,none⟩∧w.cell? ⟨b,off+i*4,none⟩=some (.int .i64 (g i).via)∧w.cell? ⟨b,off+i*4+1,none⟩=some (.int .i64 (g i).pref)∧w.cell? ⟨b,off+i*4+2,none⟩=some (.int .i64 (g i).len)∧w.cell? ⟨b,off+i*4+3,none⟩=some (.bool (g i).mark):=by
 obtain ⟨b,off,e,hc⟩:=h.cell i hi
 exact ⟨b,off,e,hc 0 (by omega),hc 1 (by omega),hc 2 (by omega),hc 3 (by omega)⟩
def better (a b : Rt) : Bool := if a.pref=b.pref then (if a.len=b.len then decide (a.via<b.via) else decide (a.len<b.len)) else decide (b.pref<a.pref)
def bestTo (g : Rs) : Nat→Rt
 | 0=>g 0
 | k+1=>if better (g (k+1)) (bestTo g k)=true then g (k+1) else bestTo g k
theorem best_yes {g:Rs} {k:Nat} (h:better (g (k+1)) (bestTo g k)=true):bestTo g (k+1)=g (k+1):=by simp only [bestTo];rw [if_pos h]
theorem best_no {g:Rs} {k:Nat} (h:better (g (k+1)) (bestTo g k)=false):bestTo g (k+1)=bestTo g k:=by simp only [bestTo];rw [if_neg (by rw [h];exact Bool.false_ne_true)]
structure RtLaid (w : World) (N len k : Nat) (g : Rs) : Prop where
 row:∃ f,w.rowIs N 122 (len*4) f∧∀ i,i<k→∀ j,j<4→f (i*4+j)=rc (g i) j
theorem RtLaid.is {w:World} {N len:Nat} {g:Rs} (h:RtLaid w N len len g) (hm:len≤maxLen):RtRow w (some ⟨N,0,none⟩) len g:=by
 obtain ⟨f,hf,hc⟩:=h.row
 refine ⟨hm,fun i hi=>⟨N,0,rfl,fun j hj=>?_⟩⟩
 rw [← hc i hi j hj]
 simpa using hf.cell (i:=i*4+j) (by omega)
theorem RtLaid.below {w w1:World} {N len k:Nat} {g:Rs} (h:RtLaid w N len k g) (hb:Below w.heap.size w w1):RtLaid w1 N len k g:=by
 obtain ⟨f,hf,hc⟩:=h.row
 exact ⟨f,hf.of_block (hb.block _ hf.lt),hc⟩
theorem info_Route : (Tryz.prog.info? 122).map (fun i=>(i.zero,i.size,i.bytes))=some (some (.agg #[.int .i64 0,.int .i64 0,.int .i64 0,.bool false]),4,32):=by kernel_rfl
end Go.Proofs.YthompjbplddkgaaGreatDoor.routeRow
