import Derived.Test.YthompjbplddkgaaGreatDoorPart16
import Derived.Maps.AppendAt
set_option linter.unusedVariables false
namespace Go.Proofs.YthompjbplddkgaaGreatDoor.envsSpec
open Go.RowKit Go.Deep base copy rowsOwn prodSem
theorem own_new {B H:Nat} (w:World) (h:w.heap.size=H) (hB:B≤H):(w.alloc (.cells #[] 3)).ownsRow B 3 1 (.slice (some ⟨H,0,none⟩) 0 0) 0 []:=⟨rfl,.inr ⟨H,0,#[],rfl,hB,by subst h;exact heap_alloc_new w _,Nat.le_refl _,Nat.zero_le _,rfl,rfl⟩⟩
theorem rows_append {B:Nat} {w w3:World} {v v' x:Value} {ps:List (Value × List Int)} {zs:List Int} (h:OwnRows B w v ps) (hx:OwnInts B w x zs) (ho:w3.ownsRow B 25 1 v' (ps.length+1) (ps.map Prod.fst ++ [x])) (hg:w.grownBy w3 v.ownBlock):OwnRows B w3 v' (ps ++ [(x,zs)]):=by
 have hap:∀ q:Value × List Int,OwnInts B w q.1 q.2→OwnInts B w3 q.1 q.2:=fun q hq=>by
  refine own_grown hq hg fun k hk=>?_
  rcases h.outer.2 with ⟨e,_⟩|⟨g',c',cur,e,_⟩
  · rw [e];exact fun e=>by cases e
  · subst e
    have hh:=OwnRows.apart h hq hk
    intro e
    have e':some k=some g' := e
    injection e' with e'
    exact hh e'
 refine ⟨by rw [List.length_append,List.map_append];exact ho,fun q hq=>?_⟩
 rcases List.mem_append.1 hq with hq|hq
 · exact hap q (h.inner q hq)
 · rw [List.mem_singleton] at hq
   subst hq
   exact hap _ hx
theorem own_form {B:Nat} {w:World} {v:Value} {ps:List (Value × List Int)} (h:OwnRows B w v ps):∃ p c,v=.slice p ps.length c:=by
 rcases h.outer.2 with ⟨e,h0⟩|⟨g,c,cur,e,_⟩
 · exact ⟨none,0,by rw [e,h0]⟩
 · exact ⟨_,_,e⟩
def E3 : Nat→List Int := fun _=>[0,1,2]
def HasB (ps : List (Value × List Int)) : Prop := ∀ p∈ps,∃ g c,p.1=.slice (some ⟨g,0,none⟩) p.2.length c
theorem ints_some {B:Nat} {w:World} {v:Value} {zs:List Int} (h:OwnInts B w v zs) (h0:0<zs.length):∃ g c,v=.slice (some ⟨g,0,none⟩) zs.length c:=by
 rcases h.2 with ⟨e,hn⟩|⟨g,cap,cur,e,_⟩
 · omega
 · exact ⟨g,cap,e⟩
theorem news_of {B g n c:Nat} {w:World} {zs:List Int} (h:OwnInts B w (.slice (some ⟨g,0,none⟩) n c) zs):∀ i u,(zs.map (Value.int .i64))[i]? = some u→w.cell? ((⟨g,0,none⟩:Addr).add i)=some u:=fun i u hu=>by
 obtain ⟨hl,hc⟩:=own_holds h
 rw [List.getElem?_map] at hu
 cases hz:zs[i]? with
 | none=>rw [hz] at hu;cases hu
 | some z =>
  rw [hz] at hu
  have hi:i<n:=by
   have:=(List.getElem?_eq_some_iff.1 hz).1
   omega
  have h9:=(hc i hi).1
  rw [hz] at h9
  have e:(⟨g,0,none⟩:Addr).add i=⟨g,0+i,none⟩:=by unfold Addr.add;split <;> simp_all
  rw [e,h9]
  injection hu with hu
  rw [← hu];rfl
theorem one_ints (zs:List Int):∀ u∈zs.map (Value.int .i64),u.oneCell' = true:=fun u hu=>by
 obtain ⟨z,_,rfl⟩:=List.mem_map.1 hu
 rfl
theorem prod_len3 : ∀ k,(prod E3 k).length=3 ^ k
 | 0=>rfl
 | k+1=>by
  have ih:=prod_len3 k
  show ((prod E3 k).flatMap fun c=>[0,1,2].map fun v=>c ++ [v]).length=_
  have gen:∀ l:List (List Int),(l.flatMap fun c=>([0,1,2]:List Int).map fun v=>c ++ [v]).length=l.length*3:=by
   intro l
   induction l with
   | nil=>rfl
   | cons c l ih=>rw [List.flatMap_cons,List.length_append,ih,List.length_cons];simp;omega
  rw [gen,ih,Nat.pow_succ]
theorem start_rows (w:World):OwnRows w.heap.size ((w.alloc (.cells #[] 3)).alloc (.cells #[.slice (some ⟨w.heap.size,0,none⟩) 0 0] 25)) (.slice (some ⟨w.heap.size+1,0,none⟩) 1 1) [(.slice (some ⟨w.heap.size,0,none⟩) 0 0,[])]:=by
 refine ⟨⟨rfl,.inr ⟨w.heap.size+1,1,#[.slice (some ⟨w.heap.size,0,none⟩) 0 0],rfl,by omega,?_,Nat.le_refl _,by unfold maxLen;omega,rfl,rfl⟩⟩,fun p hp=>?_⟩
 · have:=heap_alloc_new (w.alloc (.cells #[] 3)) (.cells #[.slice (some ⟨w.heap.size,0,none⟩) 0 0] 25)
   rwa [World.size_alloc] at this
 · rw [List.mem_singleton] at hp
   subst hp
   exact OwnInts.below (own_new (B:=w.heap.size) w rfl (Nat.le_refl _)) Bl
theorem none_rows (w:World):OwnRows w.heap.size (w.alloc (.cells #[] 25)) (.slice (some ⟨w.heap.size,0,none⟩) 0 0) [] :=
 ⟨⟨rfl,.inr ⟨w.heap.size,0,#[],rfl,Nat.le_refl _,heap_alloc_new w _,Nat.le_refl _,Nat.zero_le _,rfl,rfl⟩⟩,fun p hp=>by cases hp⟩
set_option maxRecDepth 100000 in
set_option maxHeartbeats 6400000 in
theorem envs_spec (n:Nat) (w:World) (hn:n≤4) :
  Calls Tryz.prog 49 #[.int .i64 (n:Int)] w fun e w'=>∃ v ps,e=.returned v∧OwnRows w.heap.size w' v ps∧HasB ps∧ps.map (·.2)=prod E3 n∧Below w.heap.size w w' := by
 obtain ⟨i0,hi,hzz⟩:=Option.map_eq_some_iff.1 Tryz.info_int
 simp only [Prod.mk.injEq] at hzz
 obtain ⟨hz0,hz1,hz2⟩:=hzz
 have HI:=hid hi
 have HZ0:=hid hz0
 have HZ1:=hid hz1
 have HZ2:=hid hz2
 clear hi hz0 hz1 hz2
 obtain ⟨i1,hi,hzz⟩:=Option.map_eq_some_iff.1 info_row
 simp only [Prod.mk.injEq] at hzz
 obtain ⟨hz0,hz1,hz2⟩:=hzz
 have HJ:=hid hi
 have HJ0:=hid hz0
 have HJ1:=hid hz1
 have HJ2:=hid hz2
 clear hi hz0 hz1 hz2
 go_enter Tryz.func49,Tryz.ntmps49
 go_wp2
 go_loopw [4,3] (fun i v wr=>∃ (k:Nat) (ps:List (Value × List Int)),k≤n∧i=.int .i64 k∧OwnRows w.heap.size wr v ps∧HasB ps∧ps.map (·.2)=prod E3 k∧Below w.heap.size w wr) (fun i _ _=>n - (intOf i).toNat)
 case atStart=>exact ⟨0,_,Nat.zero_le _,rfl,start_rows w,fun p hp=>by rw [List.mem_singleton] at hp;subst hp;exact ⟨_,_,rfl⟩,rfl,Bl⟩
 case round =>
  rename_i v
  obtain ⟨k,ps,hk,rfl,hox,hsm,hpr,hbel⟩:=hrel
  generalize wr=wo at *
  obtain ⟨va,vc,hv⟩:=own_form hox
  subst hv
  have HO:=hid hox
  have HSm:=hid hsm
  have HPr:=hid hpr
  have HB:=hid hbel
  have hszo:=hbel.size
  have hpl:ps.length=3 ^ k:=by rw [← prod_len3,← hpr,List.length_map]
  have HPl:=hid hpl
  have hp81:ps.length≤81:=by
   rw [hpl]
   exact Nat.le_trans (Nat.pow_le_pow_right (by omega) (show k≤4 by omega)) (by decide)
  clear hox hsm hpr hbel hpl
  by_cases hlt:k<n
  · have hki:(k:Int)<(n:Int):=by omega
    go_wp2
    go_loopw [6,5] (fun i nx wr=>∃ (m:Nat) (qs:List (Value × List Int)),m≤ps.length∧i=.int .i64 m∧OwnRows wo.heap.size wr nx qs∧HasB qs∧qs.map (·.2)=((prod E3 k).take m).flatMap (fun c=>([0,1,2]:List Int).map fun z=>c ++ [z])∧qs.length=3*m∧Below wo.heap.size wo wr) (fun i _ _=>ps.length - (intOf i).toNat)
    case atStart=>exact ⟨0,[],Nat.zero_le _,rfl,none_rows wo,(fun p hp=>by cases hp),rfl,rfl,Bl⟩
    case round =>
     rename_i nx
     obtain ⟨m,qs,hm,rfl,hoq,hsq,hpq,hql,hbq⟩:=hrel
     generalize wr=wp at *
     obtain ⟨na,nc,hnv⟩:=own_form hoq
     subst hnv
     have HQ:=hid hoq
     have HSq:=hid hsq
     have HPq:=hid hpq
     have HBq:=hid hbq
     have HQl:=hid hql
     have hszp:=hbq.size
     clear hoq hsq hpq hbq hql
     by_cases hml:m<ps.length
     · have hmi:(m:Int)<(ps.length:Int):=by omega
       obtain ⟨pm,hpm⟩:∃ q,ps[m]? = some q:=⟨_,List.getElem?_eq_getElem hml⟩
       have hmem:=List.mem_of_getElem? hpm
       obtain ⟨pg,pc,hpe⟩:=HSm.out pm hmem
       have hpi:=HO.out.inner pm hmem
       have hcl:pm.2.length≤4:=by
        have h9:pm.2∈prod E3 k:=by rw [← HPr.out];exact List.mem_map_of_mem hmem
        have:=prod_len h9
        omega
       obtain ⟨og,hva⟩:∃ g,va=some ⟨g,0,none⟩:=by
        rcases HO.out.outer.2 with ⟨_,h0⟩|⟨g,cap,cur,e,_⟩
        · omega
        · injection e with e _ _
          exact ⟨g,e⟩
       subst hva
       have hcell:wo.cell? ⟨og,m,none⟩=some (.slice (some ⟨pg,0,none⟩) pm.2.length pc):=by
        obtain ⟨-,q9,h8,h9,-⟩:=rows_cell HO.out hml
        rw [hpm] at h8
        injection h8 with h8
        subst h8
        rw [← hpe]
        exact h9
       rw [hpe] at hpi
       have HPi:=hid hpi
       have HCe:=hid hcell
       have HPm:Hid ((prod E3 k)[m]? = some pm.2):=hid (by rw [← HPr.out,List.getElem?_map,hpm];rfl)
       clear hpe hpi hcell hpm hmem
       go_wp2
       go_loopw [7,5] (fun i nx wr=>∃ (j:Nat) (rs:List (Value × List Int)),j≤3∧i=.int .i64 j∧OwnRows wo.heap.size wr nx rs∧HasB rs∧rs.map (·.2)=qs.map (·.2) ++ (([0,1,2]:List Int).take j).map (fun z=>pm.2 ++ [z])∧rs.length=qs.length+j∧Below wo.heap.size wo wr) (fun i _ _=>3 - (intOf i).toNat)
       case atStart=>exact ⟨0,qs,Nat.zero_le _,rfl,HQ.out,HSq.out,by simp,rfl,HBq.out⟩
       case round =>
        rename_i nx2
        obtain ⟨j,rs,hj,rfl,hor,hsr,hpr2,hrl,hbr⟩:=hrel
        obtain ⟨ra,rc,hrv⟩:=own_form hor
        subst hrv
        have HR:=hid hor
        have HSr:=hid hsr
        have HPr2:=hid hpr2
        have HBr:=hid hbr
        have HRl:=hid hrl
        have hszr:=hbr.size
        have hrl2:rs.length≤300:=by have:=HQl.out;omega
        clear hor hsr hpr2 hbr hrl
        by_cases hj3:j<3
        · have hji:(j:Int)<3:=by omega
          have hc:=keep HBr.out HCe.out
          have hogl:og<wr.heap.size:=World.block_lt_of_cell? _ _ hc
          have HNews:=hid (fun o=>news_of (HPi.out.below (HBr.out.trans ((show Below wr.heap.size wr (wr.alloc o) from Bl).mono hszr))))
          go_wp2_with (at_builtin;first
           | ((refine wpList_append_own _ rfl _ _ 25 rfl wr.heap.size 3 i0 (.int .i64 0) 1 8 Tryz.underlying25 HI.out HZ0.out HZ1.out HZ2.out rfl (by decide) _ _ _ rfl (own_new wr rfl (Nat.le_refl _)) ⟨pg, 0, none⟩ pm.2.length pc (pm.2.map (.int .i64)) rfl (by rw [List.length_map, Nat.mul_one]) (HNews.out _) (one_ints _) (by unfold maxLen; omega) (by omega) (by simp) ?_); intro v3 w3 hown3 hg3 hnil3
              have hba:Below wr.heap.size wr (wr.alloc (.cells #[] 3)):=Bl
              have HB3:Hid (Below wr.heap.size wr w3):=hid (hba.grown hg3 hba.size (fun j e=>by have e':some wr.heap.size=some j:=e;injection e' with e';omega))
              have HO3:Hid (w3.ownsRow wr.heap.size 3 1 v3 pm.2.length (pm.2.map (.int .i64))):=hid (by simpa using hown3)
              have hs3:=HB3.out.size
              clear hown3 hg3 hnil3 hba)
           | ((refine wpList_append_own _ rfl _ _ 25 rfl wr.heap.size 3 i0 (.int .i64 0) 1 8 Tryz.underlying25 HI.out HZ0.out HZ1.out HZ2.out rfl (by decide) _ _ _ rfl (World.ownsRow.alloc HO3.out _) ⟨w3.heap.size, 0, none⟩ 1 1 [.int .i64 (j : Int)] rfl rfl (cell_one_new _ _ _) (fun x hx => by simp at hx; subst hx; rfl) (by unfold maxLen; omega) (by omega) (by simp; omega) ?_); intro v4 w4 hown4 hg4 hnil4
              have hba4:Below wr.heap.size wr (w3.alloc (.cells #[.int .i64 (j:Int)] 3)):=HB3.out.alloc hs3 _
              have HB4:Hid (Below wr.heap.size wr w4):=hid (hba4.grown hg4 hba4.size (fun j hj=>(World.ownsRow.lt HO3.out j hj).1))
              have HO4:Hid (OwnInts wr.heap.size w4 v4 (pm.2 ++ [(j:Int)])):=hid (by
               unfold OwnInts
               rw [List.length_append,List.map_append]
               exact hown4)
              have hs4:=HB4.out.size
              obtain ⟨g4,c4,hv4⟩:=ints_some HO4.out (by simp)
              rw [List.length_append,List.length_singleton] at hv4
              subst hv4
              clear hown4 hg4 hnil4 hba4)
           | ((refine wpList_append_own _ rfl _ _ 91 rfl wo.heap.size 25 i1 (.slice none 0 0) 1 24 Tryz.underlying91 HJ.out HJ0.out HJ1.out HJ2.out rfl (by decide) _ _ _ rfl (own_pass HR.out.outer ((HB4.out).trans (show Below wr.heap.size w4 _ from (Below.refl _ w4).alloc hs4 _))) ⟨w4.heap.size,0,none⟩ 1 1 [.slice (some ⟨g4,0,none⟩) (pm.2.length+1) c4] rfl rfl (cell_one_new _ _ _) (fun x hx=>by simp at hx;subst hx;rfl) (by unfold maxLen;omega) (by omega) (by simp;omega) ?_);intro v5 w5 hown5 hg5 hnil5))
          have hbe:Below wr.heap.size wr (w4.alloc (.cells #[.slice (some ⟨g4,0,none⟩) (pm.2.length+1) c4] 25)):=HB4.out.trans ((Below.refl _ w4).alloc hs4 _)
          have HR5:Hid (OwnRows wo.heap.size w5 v5 (rs ++ [(.slice (some ⟨g4,0,none⟩) (pm.2.length+1) c4,pm.2 ++ [(j:Int)])])):=hid (rows_append (HR.out.below hbe) ((HO4.out.below (show Below w4.heap.size w4 _ from Bl)).mono hszr) hown5 hg5)
          have HB5:Hid (Below wo.heap.size wo w5):=hid ((HBr.out.trans (hbe.mono hszr)).grown hg5 (by have:=hbe.size;omega) (fun q hq=>(World.ownsRow.lt HR.out.outer q hq).1))
          clear hown5 hg5 hnil5 hbe
          go_wp2
          go_roundw
          case rel =>
           refine ⟨j+1,_,by omega,by go_num,HR5.out,fun p hp=>?_,?_,by have:=HRl.out;rw [List.length_append,List.length_singleton];omega,HB5.out⟩
           · rcases List.mem_append.1 hp with hp|hp
             · exact HSr.out p hp
             · rw [List.mem_singleton] at hp
               subst hp
               exact ⟨g4,c4,by simp⟩
           · rw [List.map_append,HPr2.out]
             rcases (show j=0∨j=1∨j=2 by omega) with rfl|rfl|rfl <;> simp
          case measure=>simp [intOf];omega
        · obtain rfl:j=3:=by omega
          go_wp2
          go_roundw
          case rel =>
           refine ⟨m+1,rs,by omega,by go_num,HR.out,HSr.out,?_,by have:=HQl.out;have:=HRl.out;omega,HBr.out⟩
           have e1:(prod E3 k).take (m+1)=(prod E3 k).take m ++ [pm.2]:=by rw [List.take_add_one,HPm.out];rfl
           rw [HPr2.out,HPq.out,e1,List.flatMap_append]
           simp
          case measure=>simp [intOf];omega
     · have e:m=ps.length:=by omega
       subst e
       go_wp2
       go_roundw
       case rel =>
        refine ⟨k+1,qs,by omega,by go_num,rows_mono HQ.out hszo,HSq.out,?_,HB.out.trans (HBq.out.mono hszo)⟩
        rw [HPq.out,HPl.out,← prod_len3,List.take_length]
        rfl
       case measure=>simp [intOf];omega
  · have e:k=n:=by omega
    subst e
    go_wp2
    go_ret
    exact ⟨_,ps,rfl,HO.out,HSm.out,HPr.out,HB.out⟩
end Go.Proofs.YthompjbplddkgaaGreatDoor.envsSpec
