import Derived.Test.YthompjbplddkgaaGreatDoorPart25
import Derived.Maps.AppendAt
import Derived.Deep.CutBlock
set_option linter.unusedVariables false
namespace Go.Proofs.YthompjbplddkgaaGreatDoor.candSpec
open Go.RowKit Go.Deep Go base names drawn netSem netSpec nbSem nbSpec intsOwn routeRow candSem candWay candImp
theorem cell_four (w:World) (a b c d:Value) (t:TypeId):∀ (j:Nat) (u:Value),[a,b,c,d][j]? = some u→(w.alloc (.cells #[a,b,c,d] t)).cell? ((⟨w.heap.size,0,none⟩:Addr).add j)=some u:=by
 intro j u h
 match j,h with
 | 0,h=>cases h;simp [Addr.add,go_sem]
 | 1,h=>cases h;simp [Addr.add,go_sem]
 | 2,h=>cases h;simp [Addr.add,go_sem]
 | 3,h=>cases h;simp [Addr.add,go_sem]
 | _+4,h=>simp at h
theorem rts_below {B:Nat} {w w1:World} {v:Value} {zs:List Rt} (h:OwnRts B w v zs) (hb:Below w.heap.size w w1):OwnRts B w1 v zs:=own_pass h hb
theorem rts_grown {B:Nat} {w w1 w2:World} {v:Value} {zs:List Rt} (h:OwnRts B w1 v zs) (hb:Below B w w1) (hB:B≤w1.heap.size) (hg:w1.grownBy w2 v.ownBlock):Below B w w2 :=
 hb.grown hg hB (fun k hk=>(World.ownsRow.lt h k hk).1)
theorem rts_add {B:Nat} {w:World} {v:Value} {zs:List Rt} {r:Rt} (h:w.ownsRow B 122 4 v (zs.length+1) (zs.flatMap rcs ++ rcs r)):OwnRts B w v (zs ++ [r]):=by
 unfold OwnRts
 rw [List.length_append,List.flatMap_append]
 simpa using h
theorem ints_kept {w w2:World} {a:Option Addr} {len:Nat} {zs:List Int} {v:Value} (h:IntRow w a len zs) (ho:∀ q,a=some q→v.ownBlock≠some q.block) (hg:w.grownBy w2 v.ownBlock):IntRow w2 a len zs :=
 ⟨h.length,h.most,fun i hi=>by
  obtain ⟨b,off,e,hc⟩:=h.cell i hi
  have hlt:=World.block_lt_of_cell? _ _ hc
  exact ⟨b,off,e,(World.cell?_of_block (a:=⟨b,off+i,none⟩) (hg.block b hlt (by have:=ho _ e;intro h;exact this h.symm))).trans hc⟩⟩
theorem apart_kept {w:World} {a:Option Addr} {len:Nat} {zs:List Int} {v v2:Value} (h:IntRow w a len zs) (hl:0<len) (ho:∀ q,a=some q→v.ownBlock≠some q.block) (hat:v2.ownBlock=v.ownBlock∨v2.ownBlock=some w.heap.size):∀ q,a=some q→v2.ownBlock≠some q.block:=by
 intro q hq
 rcases hat with e|e
 · rw [e];exact ho q hq
 · rw [e]
   obtain ⟨b,off,e2,hc⟩:=h.cell 0 hl
   have hlt:=World.block_lt_of_cell? _ _ hc
   rw [hq] at e2
   injection e2 with e2
   subst e2
   intro e3
   injection e3 with e3
   simp only at hlt e3
   omega
theorem nb_link {g:R} {nl:Nat} {ds:List Bool} {router:Int} {n i:Nat} {L:Nat} (hL:(nbL g nl ds router n).length=L) (hi:i<L):∃ j:Nat,(nbL g nl ds router n)[i]?.getD 0=(j:Int)∧j<n∧0≤linkAt g nl router (j:Int):=by
 subst hL
 have hm:=List.getElem_mem hi
 rw [List.getElem?_eq_getElem hi,Option.getD_some]
 unfold nbL at hm ⊢
 obtain ⟨j,hj,e⟩:=List.mem_map.1 hm
 rw [List.mem_filter] at hj
 refine ⟨j,e.symm,List.mem_range.1 hj.1,?_⟩
 have:=hj.2
 unfold nbB at this
 simp at this
 exact this.1
theorem take_flat {f:Int→List Rt} (z:List Int) (i:Nat) (hi:i<z.length):(z.take (i+1)).flatMap f=(z.take i).flatMap f ++ f (z[i]?.getD 0):=by
 rw [List.take_add_one,List.flatMap_append,List.getElem?_eq_getElem hi]
 simp
set_option maxHeartbeats 6400000 in
set_option maxRecDepth 8000 in
theorem cand_spec (p:Nat→Option Addr) (l c:Nat→Nat) (s:Ss) (g:R) (o e:List Int) (x f:R) (router:Int) (ea da ra:Option Addr) (ec dc rcap:Nat) (env:List Int) (ds:List Bool) (rs:Rs) (w:World) (h:NetIs w p l s g o e x f) (he:IntRow w ea (l 3) env) (hd:BoolRow w da (l 1) ds) (hr:RtRow w ra (l 0) rs) (h4:l 0≤4)
  (hg:∀ i,i<l 1→0≤g i 2∧g i 2≤100) (hv:∀ i,i<l 0→(rs i).via<l 0) (hln:∀ i,i<l 0→0≤(rs i).len∧(rs i).len≤20000) :
  Calls Tryz.prog 98 #[netV p l c,.int .i64 router,.slice ea (l 3) ec,.slice da (l 1) dc,.slice ra (l 0) rcap] w fun e' w'=>∃ v,e' = .returned v∧OwnRts w.heap.size w' v (candL g (l 1) o e x (l 4) env ds rs (l 0) router)∧Below w.heap.size w w' := by
 have m0:=h.routers.most
 have m1:=h.links.most
 have m2:=h.origins.most
 have m3:=h.externals.most
 have e3:=h.externals.length
 unfold maxLen at m0 m1 m2 m3
 have HG:=hid hg
 have HV:=hid hv
 have HLn:=hid hln
 have HE3:=hid e3
 have HW:Hid (∀ w8:World,Below (w.heap.size+1) (w.alloc (.cells #[.slice (p 0) (l 0) (c 0),.slice (p 1) (l 1) (c 1),.slice (p 2) (l 2) (c 2),.slice (p 3) (l 3) (c 3),.slice (p 4) (l 4) (c 4),.slice (p 5) (l 5) (c 5)] 29)) w8→(w8.cell? ⟨w.heap.size,0,none⟩=some (.slice (p 0) (l 0) (c 0))∧w8.cell? ⟨w.heap.size,1,none⟩=some (.slice (p 1) (l 1) (c 1))∧w8.cell? ⟨w.heap.size,2,none⟩=some (.slice (p 2) (l 2) (c 2))∧w8.cell? ⟨w.heap.size,3,none⟩=some (.slice (p 3) (l 3) (c 3))∧w8.cell? ⟨w.heap.size,4,none⟩=some (.slice (p 4) (l 4) (c 4))∧w8.cell? ⟨w.heap.size,5,none⟩=some (.slice (p 5) (l 5) (c 5)))∧NetIs w8 p l s g o e x f∧IntRow w8 ea (l 3) env∧BoolRow w8 da (l 1) ds∧RtRow w8 ra (l 0) rs∧Below w.heap.size w w8):=hid (fun w8 hb=>by
  have hb0:Below w.heap.size w (w.alloc (.cells #[.slice (p 0) (l 0) (c 0),.slice (p 1) (l 1) (c 1),.slice (p 2) (l 2) (c 2),.slice (p 3) (l 3) (c 3),.slice (p 4) (l 4) (c 4),.slice (p 5) (l 5) (c 5)] 29)):=Bl
  have hz:(w.alloc (.cells #[.slice (p 0) (l 0) (c 0),.slice (p 1) (l 1) (c 1),.slice (p 2) (l 2) (c 2),.slice (p 3) (l 3) (c 3),.slice (p 4) (l 4) (c 4),.slice (p 5) (l 5) (c 5)] 29)).heap.size=w.heap.size+1:=by simp
  rw [← hz] at hb
  have hb8:=hb0.trans (hb.mono hb0.size)
  exact ⟨⟨keep hb (by simp [go_sem]),keep hb (by simp [go_sem]),keep hb (by simp [go_sem]),keep hb (by simp [go_sem]),keep hb (by simp [go_sem]),keep hb (by simp [go_sem])⟩,h.below hb8,he.below hb8,hd.below hb8,hr.below hb8,hb8⟩)
 clear h he hd hr hg hv hln e3
 obtain ⟨i0,hi,hzz⟩:=Option.map_eq_some_iff.1 info_Route
 simp only [Prod.mk.injEq] at hzz
 obtain ⟨hz0,hz1,hz2⟩:=hzz
 have HI:=hid hi
 have HZ0:=hid hz0
 have HZ1:=hid hz1
 have HZ2:=hid hz2
 clear hi hz0 hz1 hz2
 have HNb:=hid (nbL_len g (l 1) ds router (l 0))
 unfold candL
 obtain ⟨F,hF⟩:∃ F,candOf g (l 1) x (l 4) rs (l 0) router=F:=⟨_,rfl⟩
 have HF:=hid hF
 rw [hF]
 clear hF
 obtain ⟨nb,hnb⟩:∃ q,nbL g (l 1) ds router (l 0)=q:=⟨_,rfl⟩
 have HNB:=hid hnb
 rw [hnb] at HNb ⊢
 clear hnb
 obtain ⟨c1,hc1⟩:∃ q,ownC o router=q:=⟨_,rfl⟩
 obtain ⟨c2,hc2⟩:∃ q,extC e env router=q:=⟨_,rfl⟩
 have HC1:=hid hc1
 have HC2:=hid hc2
 rw [hc1,hc2]
 clear hc1 hc2
 unfold ownC at HC1
 unfold extC at HC2
 obtain ⟨h2,e2⟩:∃ q,hasAt o router=q:=⟨_,rfl⟩
 obtain ⟨h3,e3⟩:∃ q,hasAt e router=q:=⟨_,rfl⟩
 have HB3:=hid (firstAt_bounds (fun i=>decide (zAt e i=router)) e.length)
 have e3':firstAt (fun i=>decide (zAt e i=router)) e.length=h3:=e3
 rw [e3',HE3.out] at HB3
 clear e3'
 have HH2:=hid e2
 have HH3:=hid e3
 rw [e2] at HC1
 rw [e3] at HC2
 clear e2 e3
 have VA:Hid (Below (w.heap.size+1) (w.alloc (.cells #[.slice (p 0) (l 0) (c 0),.slice (p 1) (l 1) (c 1),.slice (p 2) (l 2) (c 2),.slice (p 3) (l 3) (c 3),.slice (p 4) (l 4) (c 4),.slice (p 5) (l 5) (c 5)] 29)) ((w.alloc (.cells #[.slice (p 0) (l 0) (c 0),.slice (p 1) (l 1) (c 1),.slice (p 2) (l 2) (c 2),.slice (p 3) (l 3) (c 3),.slice (p 4) (l 4) (c 4),.slice (p 5) (l 5) (c 5)] 29)).alloc (.cells #[] 122))):=hid Bl
 have OA:Hid (OwnRts (w.heap.size+1) ((w.alloc (.cells #[.slice (p 0) (l 0) (c 0),.slice (p 1) (l 1) (c 1),.slice (p 2) (l 2) (c 2),.slice (p 3) (l 3) (c 3),.slice (p 4) (l 4) (c 4),.slice (p 5) (l 5) (c 5)] 29)).alloc (.cells #[] 122)) (.slice (some ⟨w.heap.size+1,0,none⟩) 0 0) []):=hid (rts_empty _ _ _ (by simp) (by simp))
 have hzA:((w.alloc (.cells #[.slice (p 0) (l 0) (c 0),.slice (p 1) (l 1) (c 1),.slice (p 2) (l 2) (c 2),.slice (p 3) (l 3) (c 3),.slice (p 4) (l 4) (c 4),.slice (p 5) (l 5) (c 5)] 29)).alloc (.cells #[] 122)).heap.size=w.heap.size+2:=by simp
 have HzA:=hid hzA
 have hzW:(w.alloc (.cells #[.slice (p 0) (l 0) (c 0),.slice (p 1) (l 1) (c 1),.slice (p 2) (l 2) (c 2),.slice (p 3) (l 3) (c 3),.slice (p 4) (l 4) (c 4),.slice (p 5) (l 5) (c 5)] 29)).heap.size=w.heap.size+1:=by simp
 have HzW:=hid hzW
 clear hzW
 clear hzA
 unfold netV
 go_enter Tryz.func98,Tryz.ntmps98
 go_wp2_with fail
 generalize (w.alloc (.cells #[.slice (p 0) (l 0) (c 0),.slice (p 1) (l 1) (c 1),.slice (p 2) (l 2) (c 2),.slice (p 3) (l 3) (c 3),.slice (p 4) (l 4) (c 4),.slice (p 5) (l 5) (c 5)] 29)).alloc (.cells #[] 122)=w1 at *
 generalize w.alloc (.cells #[.slice (p 0) (l 0) (c 0),.slice (p 1) (l 1) (c 1),.slice (p 2) (l 2) (c 2),.slice (p 3) (l 3) (c 3),.slice (p 4) (l 4) (c 4),.slice (p 5) (l 5) (c 5)] 29)=W0 at *
 refine (has_spec (p 2) (l 2) (c 2) o router _ (HW.out w1 VA.out).2.1.origins).mono ?_
 rintro e' w1' ⟨rfl,rfl⟩
 rw [HH2.out]
 go_upto_if 21 with fail
 have hL1:c1.length≤1:=by rw [← HC1.out];split <;> simp
 obtain ⟨tb,htb⟩:∃ t,decide (0≤h2)=t:=⟨_,rfl⟩
 have HTb:=hid htb
 rw [htb]
 clear htb
 go_cut [11] from 21 to 97 (fun s11 wc=>OwnRts (w.heap.size+1) wc s11 c1∧Below (w.heap.size+1) W0 wc∧w.heap.size+1≤wc.heap.size)
 case first =>
  cases tb with
  | true =>
   have g1:0≤h2:=of_decide_eq_true HTb.out
   have EC1:c1=[⟨-2,200,0,false⟩]:=by rw [← HC1.out,if_pos g1]
   clear HC1 g1
   have hsA:w.heap.size+1≤w1'.heap.size:=by have:=HzA.out;omega
   have HEC:=hid EC1
   clear EC1
   go_wp2_with (at_builtin
                refine wpList_append_own_at _ rfl _ _ 96 rfl (w.heap.size+1) 122 i0 _ 4 32 Tryz.underlying96 HI.out HZ0.out HZ1.out HZ2.out rfl (by decide) _ _ _ rfl (World.ownsRow.alloc OA.out _) ⟨_,0,none⟩ 1 1 [.int .i64 (-2),.int .i64 200,.int .i64 0,.bool false] rfl rfl (cell_four _ _ _ _ _ _) (fun u hu=>by simp at hu;rcases hu with rfl|rfl|rfl|rfl <;> rfl) (by simp only [List.length_nil];unfold maxLen;omega) (by simp only [List.length_nil];omega) (by simp;omega) ?_
                intro vA w3 hown' hgrow3 hnil3 hat3
                have O2:Hid (OwnRts (w.heap.size+1) w3 vA c1):=hid (by rw [HEC.out];exact rts_add (zs:=[]) hown')
                have B2:Hid (Below (w.heap.size+1) W0 w3):=hid (rts_grown (rts_below OA.out ((Below.refl _ w1').alloc (Nat.le_refl _) _)) (VA.out.alloc hsA _) (by simp;omega) hgrow3)
                have s2:w.heap.size+1≤w3.heap.size:=by have:=hgrow3.size;simp at this;omega
                clear hown' hgrow3 hnil3 hat3 OA VA hsA HEC)
   go_meet
   exact ⟨O2.out,B2.out,s2⟩
  | false =>
   have g1:¬ 0≤h2:=of_decide_eq_false HTb.out
   have EC1:c1=[]:=by rw [← HC1.out,if_neg g1]
   have O2:Hid (OwnRts (w.heap.size+1) w1' (.slice (some ⟨w.heap.size+1,0,none⟩) 0 0) c1):=hid (by rw [EC1];exact OA.out)
   have B2:Hid (Below (w.heap.size+1) W0 w1'):=hid VA.out
   have s2:w.heap.size+1≤w1'.heap.size:=by have:=HzA.out;omega
   clear HC1 g1 EC1 OA VA
   go_wp2_with fail
   go_meet
   exact ⟨O2.out,B2.out,s2⟩
 case rest =>
  obtain ⟨ho,hb,hs⟩:=hcut
  have O2:=hid ho
  have B2:=hid hb
  have s2:=hs
  have HQ2:=hid (HW.out wc hb)
  clear ho hb hs OA VA HC1 HH2 HTb
  obtain ⟨⟨n0,n1,n2,n3,n4,n5⟩,-⟩:=HQ2.out
  go_wp2_with fail
  refine (has_spec (p 3) (l 3) (c 3) e router _ HQ2.out.2.1.externals).mono ?_
  rintro e' w2' ⟨rfl,rfl⟩
  rw [HH3.out]
  go_upto_region 5 with fail
  go_cut [38] from 30 to 97 (fun s38 wd=>(∃ t:Bool,s38=.bool t∧(t=true→0≤h3∧0<zAt env h3.toNat)∧(t=false→¬ (0≤h3∧0<zAt env h3.toNat)))∧wd=w2')
  case first =>
   by_cases g2:0≤h3
   · have d2:decide (0≤h3)=true:=decide_eq_true g2
     obtain ⟨k3,rfl⟩:∃ k:Nat,h3=(k:Int):=⟨h3.toNat,by omega⟩
     have hk3:k3<l 3:=by have:=HB3.out;omega
     obtain ⟨eb,eo,rfl,ecell⟩:=HQ2.out.2.2.1.cell k3 hk3
     have HZ:Hid (zAt env k3=env[k3]?.getD 0):=hid rfl
     generalize env[k3]?.getD 0=ev at *
     by_cases g3:0<ev
     · have d3:decide (0<ev)=true:=decide_eq_true g3
       have HG3:Hid (0≤(k3:Int)∧0<zAt env (k3:Int).toNat):=hid ⟨g2,by rw [Int.toNat_natCast,HZ.out];exact g3⟩
       clear g2 g3 HZ
       go_wp2_with fail
       go_meet
       exact ⟨⟨true,rfl,fun _=>HG3.out,(by intro h;cases h)⟩,rfl⟩
     · have d3:decide (0<ev)=false:=decide_eq_false g3
       have HG3:Hid (¬ (0≤(k3:Int)∧0<zAt env (k3:Int).toNat)):=hid (fun h=>g3 (by have:=h.2;rw [Int.toNat_natCast,HZ.out] at this;exact this))
       clear g2 g3 HZ
       go_wp2_with fail
       go_meet
       exact ⟨⟨false,rfl,(by intro h;cases h),fun _=>HG3.out⟩,rfl⟩
   · have d2:decide (0≤h3)=false:=decide_eq_false g2
     have HG3:Hid (¬ (0≤h3∧0<zAt env h3.toNat)):=hid (fun h=>g2 h.1)
     clear g2
     go_wp2_with fail
     go_meet
     exact ⟨⟨false,rfl,(by intro h;cases h),fun _=>HG3.out⟩,rfl⟩
  case rest =>
   obtain ⟨⟨t,ht38,ht1,ht2⟩,hwd⟩:=hcut
   have HT1:=hid ht1
   have HT2:=hid ht2
   have hwd:=hwd.symm
   subst hwd
   subst ht38
   clear ht1 ht2
   go_upto_if 38 with fail
   go_cut [11] from 38 to 97 (fun s11 wc=>OwnRts (w.heap.size+1) wc s11 (c1 ++ c2)∧Below (w.heap.size+1) W0 wc∧w.heap.size+1≤wc.heap.size)
   case first =>
    cases t with
    | true =>
     obtain ⟨g2,g3⟩:=HT1.out rfl
     obtain ⟨k3,rfl⟩:∃ k:Nat,h3=(k:Int):=⟨h3.toNat,by omega⟩
     have hk3:k3<l 3:=by have:=HB3.out;omega
     rw [Int.toNat_natCast] at HC2 g3
     obtain ⟨eb,eo,rfl,ecell⟩:=HQ2.out.2.2.1.cell k3 hk3
     have HZ:Hid (zAt env k3=env[k3]?.getD 0):=hid rfl
     rw [HZ.out] at HC2 g3
     generalize env[k3]?.getD 0=ev at *
     clear HZ
     obtain ⟨bm,hbm⟩:∃ b,(ev == 2)=b:=⟨_,rfl⟩
     have hbm2:decide (ev=2)=bm:=by rw [← hbm,Bool.eq_iff_iff];simp
     have EC2:=HC2.out
     rw [if_pos ⟨g2,g3⟩,hbm2] at EC2
     have HEC:=hid EC2
     clear EC2 hbm2 g2 g3 HC2 HT1 HT2
     go_wp2_with (at_builtin
                  refine wpList_append_own_at _ rfl _ _ 96 rfl (w.heap.size+1) 122 i0 _ 4 32 Tryz.underlying96 HI.out HZ0.out HZ1.out HZ2.out rfl (by decide) _ _ _ rfl (World.ownsRow.alloc O2.out _) ⟨_,0,none⟩ 1 1 [.int .i64 (-1),.int .i64 100,.int .i64 2,.bool bm] rfl rfl (cell_four _ _ _ _ _ _) (fun u hu=>by simp at hu;rcases hu with rfl|rfl|rfl|rfl <;> rfl) (by have:=hL1;unfold maxLen;omega) (by have:=hL1;omega) (by simp;omega) ?_
                  intro vB w3 hown' hgrow3 hnil3 hat3
                  have O3:Hid (OwnRts (w.heap.size+1) w3 vB (c1 ++ c2)):=hid (by rw [← HEC.out];exact rts_add hown')
                  have B3:Hid (Below (w.heap.size+1) W0 w3):=hid (rts_grown (rts_below O2.out ((Below.refl _ _).alloc (Nat.le_refl _) _)) (B2.out.alloc s2 _) (by simp;omega) hgrow3)
                  have s3:w.heap.size+1≤w3.heap.size:=by have:=hgrow3.size;simp at this;omega
                  clear hown' hgrow3 hnil3 hat3 O2 B2 s2 HQ2 n0 n1 n2 n3 n4 n5 HEC ecell)
     go_meet
     exact ⟨O3.out,B3.out,s3⟩
    | false =>
     have EC2:=HC2.out
     rw [if_neg (HT2.out rfl)] at EC2
     have O3:Hid (OwnRts (w.heap.size+1) w2' u11 (c1 ++ c2)):=hid (by rw [← EC2,List.append_nil];exact O2.out)
     clear EC2 HC2 HT1 HT2
     go_wp2_with fail
     go_meet
     exact ⟨O3.out,B2.out,s2⟩
   case rest =>
    obtain ⟨ho,hb,hs⟩:=hcut
    have O3:=hid ho
    have B3:=hid hb
    have s3:=hs
    have hL2:(c1 ++ c2).length≤2:=by
     have h5:c2.length≤1:=by rw [← HC2.out];split <;> simp
     rw [List.length_append]
     omega
    have L2:=hL2
    have HQ3:=hid (HW.out wc hb)
    clear ho hb hs O2 B2 s2 HQ2 n0 n1 n2 n3 n4 n5 HC2 HT1 HT2 hL1 hL2 HH3 HB3
    obtain ⟨⟨n0,n1,n2,n3,n4,n5⟩,-⟩:=HQ3.out
    go_wp2_with fail
    have HNL:=hid (fun (L i:Nat) (h1:(nbL g (l 1) ds router (l 0)).length=L) (h2:i<L)=>nb_link h1 h2)
    have HLs:=hid (list_spec p l c s g o e x f router da (l 1) dc ds _ HQ3.out.2.1 HQ3.out.2.2.2.1 rfl h4)
    rw [HNB.out] at HNL HLs
    refine HLs.out.mono ?_
    rintro e' w4 ⟨lv,rfl,hol,hb4⟩
    obtain ⟨la,lc,rfl,hil⟩:=hol.form
    obtain ⟨L,hL⟩:∃ q,nb.length=q:=⟨_,rfl⟩
    have HLL:=hid hL
    have hL4:L≤4:=by have:=HNb.out;omega
    have AP:Hid (∀ q,la=some q→(u11:Value).ownBlock≠some q.block):=hid (fun q hq=>by
     subst hq
     intro e5
     have h5:=(World.ownsRow.lt O3.out _ e5).2
     have h6:=(World.ownsRow.lt hol q.block rfl).1
     omega)
    have O4:=hid (rts_below O3.out hb4)
    have B4:Hid (Below (w.heap.size+1) W0 w4):=hid (B3.out.trans (hb4.mono s3))
    have HIL:=hid hil
    rw [hL] at HIL
    rw [hL]
    clear hol hb4 hil hL O3 B3 HLs HQ3 n0 n1 n2 n3 n4 n5
    go_wp2
    go_loopw [14,11] (fun i v wr=>∃ k:Nat,k≤L∧i=.int .i64 k∧OwnRts (w.heap.size+1) wr v (c1 ++ c2 ++ (nb.take k).flatMap F)∧Below (w.heap.size+1) W0 wr∧IntRow wr la L nb∧(∀ q,la=some q→v.ownBlock≠some q.block)) (fun i _ _=>L - (intOf i).toNat)
    case atStart=>exact ⟨0,Nat.zero_le _,rfl,by simpa using O4.out,B4.out,HIL.out,AP.out⟩
    case round =>
     rename_i vo
     obtain ⟨k,hk,rfl,ho,hb,hla,hap⟩:=hrel
     have HO:=hid ho
     have HBr:=hid hb
     have HLa:=hid hla
     have HAp:=hid hap
     have hsr:w.heap.size+1≤wr.heap.size:=by have h5:=B4.out.size;have:=hb.size;have:=HzW.out;omega
     obtain ⟨⟨n0,n1,n2,n3,n4,n5⟩,hNr,hEr,hDr,hRr,hBw⟩:=HW.out wr hb
     have HNr:=hid hNr
     have HRr:=hid hRr
     have HBw:=hid hBw
     have hlen2:(c1 ++ c2 ++ (nb.take k).flatMap F).length≤2+k:=by
      have h5:=flat_len (f:=F) (fun j=>by rw [← HF.out];exact candOf_len _ _ _ _ _ _ _ _) (nb.take k)
      have h6:(nb.take k).length≤k:=by rw [List.length_take];omega
      rw [List.length_append]
      omega
     have HLen:=hid hlen2
     clear ho hb hla hap hNr hEr hDr hRr hBw hlen2
     by_cases hlt:k<L
     · obtain ⟨j,hj,hjn,hlk⟩:=HNL.out L k HLL.out hlt
       have HT1:=hid (take_flat (f:=F) nb k (by rw [HLL.out];exact hlt))
       rw [hj] at HT1
       have HFj:Hid (F (j:Int)=if (rs j).via = -3 then [] else if thru rs router (l 0+1) (j:Int)=true then [] else match impR g (l 1) x (l 4) router (j:Int) (rs j) with|some r=>[r]|none=>[]):=hid (by rw [← HF.out];rfl)
       obtain ⟨lb,lo,rfl,lcell⟩:=HLa.out.cell k hlt
       rw [hj] at lcell
       have hbl:=World.block_lt_of_cell? _ _ lcell
       simp only at hbl
       obtain ⟨rb,ro,rfl,r0,r1,r2,r3⟩:=HRr.out.at4 hjn
       have hbr:=World.block_lt_of_cell? _ _ r0
       simp only at hbr
       have HTh:=hid (thru_spec (some ⟨rb,ro,none⟩) (l 0) rcap rs (j:Int) router wr HRr.out h4 HV.out (by omega) (by omega))
       have HRL:=HLn.out j hjn
       have HRv:Hid (∀ w8:World,Below wr.heap.size wr w8→(w8.cell? ⟨w.heap.size,0,none⟩=some (.slice (p 0) (l 0) (c 0))∧w8.cell? ⟨w.heap.size,1,none⟩=some (.slice (p 1) (l 1) (c 1))∧w8.cell? ⟨w.heap.size,2,none⟩=some (.slice (p 2) (l 2) (c 2))∧w8.cell? ⟨w.heap.size,3,none⟩=some (.slice (p 3) (l 3) (c 3))∧w8.cell? ⟨w.heap.size,4,none⟩=some (.slice (p 4) (l 4) (c 4))∧w8.cell? ⟨w.heap.size,5,none⟩=some (.slice (p 5) (l 5) (c 5)))∧w8.cell? ⟨lb,lo+k,none⟩=some (.int .i64 (j:Int))∧w8.cell? ⟨rb,ro+j*4,none⟩=some (.int .i64 (rs j).via)∧w8.cell? ⟨rb,ro+j*4+1,none⟩=some (.int .i64 (rs j).pref)∧w8.cell? ⟨rb,ro+j*4+2,none⟩=some (.int .i64 (rs j).len)∧w8.cell? ⟨rb,ro+j*4+3,none⟩=some (.bool (rs j).mark)):=hid (fun w8 hb=>⟨⟨keep hb n0,keep hb n1,keep hb n2,keep hb n3,keep hb n4,keep hb n5⟩,keep hb lcell,keep hb r0,keep hb r1,keep hb r2,keep hb r3⟩)
       have HIm:=hid (fun (w8:World) (h8:NetIs w8 p l s g o e x f)=>import_spec p l c s g o e x f router (j:Int) (rs j) w8 h8 hlk HG.out HRL.1 HRL.2)
       obtain ⟨rj,hrj⟩:∃ q,rs j=q:=⟨_,rfl⟩
       rw [hrj] at HFj r0 r1 r2 r3 HRv HIm
       obtain ⟨rv,rp,rl,rm⟩:=rj
       simp only at HFj r0 r1 r2 r3 HRv
       clear hrj HRL hj
       by_cases a1:rv = -3
       · have d5:(rv == -3)=true:=by simp [a1]
         rw [if_pos a1] at HFj
         clear a1
         go_wp2
         go_roundw
         case rel=>exact ⟨k+1,by omega,by go_num,rts_below (by rw [HT1.out,HFj.out,List.append_nil];exact HO.out) (Below.refl _ wr),HBr.out.trans ((Below.refl _ wr).mono hsr),HLa.out.below (Below.refl _ wr),HAp.out⟩
         case measure=>simp [intOf];omega
       have d5:(rv == -3)=false:=by simp [a1]
       rw [if_neg a1] at HFj
       obtain ⟨T,hT⟩:∃ q,thru rs router (l 0+1) (j:Int)=q:=⟨_,rfl⟩
       rw [hT] at HFj HTh
       clear a1 hT
       go_wp2_with fail
       refine HTh.out.mono ?_
       rintro e' w5 ⟨rfl,hb5⟩
       have hq5:=HRv.out w5 hb5
       clear n0 n1 n2 n3 n4 n5 lcell r0 r1 r2 r3
       obtain ⟨⟨n0,n1,n2,n3,n4,n5⟩,lcell,r0,r1,r2,r3⟩:=hq5
       have HB5:=hid hb5
       have hs5:=hb5.size
       clear hb5 HTh
       cases T with
       | true =>
        rw [if_pos rfl] at HFj
        go_wp2
        go_roundw
        case rel=>exact ⟨k+1,by omega,by go_num,rts_below (by rw [HT1.out,HFj.out,List.append_nil];exact HO.out) HB5.out,HBr.out.trans (HB5.out.mono hsr),HLa.out.below HB5.out,HAp.out⟩
        case measure=>simp [intOf];omega
       | false =>
        rw [if_neg (by simp)] at HFj
        obtain ⟨ri,hri⟩:∃ q,impR g (l 1) x (l 4) router (j:Int) ⟨rv,rp,rl,rm⟩=q:=⟨_,rfl⟩
        have HRI:=hid hri
        rw [hri] at HFj HIm
        obtain ⟨q9,hq9⟩:∃ q,ri.getD noRt=q:=⟨_,rfl⟩
        have HQ9:=hid hq9
        rw [hq9] at HIm
        obtain ⟨qv,qp,ql,qm⟩:=q9
        simp only [rtV,netV] at HIm
        clear hri hq9
        have HR5:=hid (fun w8 (hb:Below w5.heap.size w5 w8)=>HRv.out w8 (HB5.out.trans (hb.mono hs5)))
        have HN5:=hid (fun w8 (hb:Below w5.heap.size w5 w8)=>HNr.out.below (HB5.out.trans (hb.mono hs5)))
        clear n0 n1 n2 n3 n4 n5 lcell r0 r1 r2 r3
        go_wp2_with fail
        refine region_below (fun u=>⟨#[.agg #[.slice (p 0) (l 0) (c 0),.slice (p 1) (l 1) (c 1),.slice (p 2) (l 2) (c 2),.slice (p 3) (l 3) (c 3),.slice (p 4) (l 4) (c 4),.slice (p 5) (l 5) (c 5)],.int .i64 router,.slice ea (l 3) ec,.slice da (l 1) dc,.slice (some ⟨rb,ro,none⟩) (l 0) rcap,.pointer (some ⟨w.heap.size,0,none⟩),undef,undef,undef,undef,.slice none 0 0,u11,.int .i64 h3,.slice (some ⟨lb,lo,none⟩) L lc,.int .i64 ↑k,u 15,.slice (some ⟨w.heap.size+1,0,none⟩) 0 0,.pointer (some ⟨w.heap.size,2,none⟩),.slice (p 2) (l 2) (c 2),.int .i64 router,.int .i64 h2,u21,u22,u23,u24,u25,.pointer (some ⟨w.heap.size,3,none⟩),.slice (p 3) (l 3) (c 3),.int .i64 router,.int .i64 h3,u30,u31,u32,u33,u34,u35,u36,u37,u38,u39,u40,u41,u42,u43,u44,u45,u46,u47,.agg #[.slice (p 0) (l 0) (c 0),.slice (p 1) (l 1) (c 1),.slice (p 2) (l 2) (c 2),.slice (p 3) (l 3) (c 3),.slice (p 4) (l 4) (c 4),.slice (p 5) (l 5) (c 5)],.int .i64 router,.slice da (l 1) dc,.slice (some ⟨lb,lo,none⟩) L lc,.int .i64 ↑k,.slice (some ⟨lb,lo,none⟩) L lc,.int .i64 ↑L,.bool true,u56,u57,.slice (some ⟨rb,ro,none⟩) (l 0) rcap,.slice (some ⟨lb,lo,none⟩) L lc,.int .i64 ↑k,.pointer (some ⟨lb,lo+k,none⟩),.int .i64 ↑j,.pointer (some ⟨rb,ro+j*4,none⟩),.pointer (some ⟨rb,ro+j*4,none⟩),.int .i64 rv,.bool false,.bool false,.slice (some ⟨rb,ro,none⟩) (l 0) rcap,.slice (some ⟨lb,lo,none⟩) L lc,.int .i64 ↑k,.pointer (some ⟨lb,lo+k,none⟩),.int .i64 ↑j,.int .i64 router,.bool false,.bool false,u 76,u 77,u 78,u 79,u 80,u 81,u 82,u 83,u 84,u 85,u 86,u 87,u 88,u 89,u90,u91,u92,u93,u94,u95,u96,u97],[]⟩) (fun i=>[76,77,78,79,80,81,82,83,84,85,86,87,88,89,15].getD i 0) (fun i v w8=>match i with|0=>v=.agg #[.slice (p 0) (l 0) (c 0),.slice (p 1) (l 1) (c 1),.slice (p 2) (l 2) (c 2),.slice (p 3) (l 3) (c 3),.slice (p 4) (l 4) (c 4),.slice (p 5) (l 5) (c 5)]|1=>v=.int .i64 router|2=>v=.slice (some ⟨lb,lo,none⟩) L lc|3=>v=.int .i64 (k:Int)|4=>v=.pointer (some ⟨lb,lo+k,none⟩)|5=>v=.int .i64 (j:Int)|6=>v=.slice (some ⟨rb,ro,none⟩) (l 0) rcap|7=>v=.slice (some ⟨lb,lo,none⟩) L lc|8=>v=.int .i64 (k:Int)|9=>v=.pointer (some ⟨lb,lo+k,none⟩)|10=>v=.int .i64 (j:Int)|11=>v=.pointer (some ⟨rb,ro+j*4,none⟩)|12=>v=.agg #[.int .i64 rv,.int .i64 rp,.int .i64 rl,.bool rm]|13=>v=.agg #[.int .i64 qv,.int .i64 qp,.int .i64 ql,.bool qm]|14=>NewRt w5.heap.size w8 v|_=>True) w5 15 (fun k=>match k with|76=>u76|77=>u77|78=>u78|79=>u79|80=>u80|81=>u81|82=>u82|83=>u83|84=>u84|85=>u85|86=>u86|87=>u87|88=>u88|89=>u89|15=>u15|_=>undef) (by rfl) (by kernel_rfl) (by rfl) ⟨by kernel_rfl,by kernel_rfl,by kernel_rfl,by decide⟩ (by kernel_rfl) (Below.refl _ _) ?hput ?hinj ?stable ?step ?last
        case hput =>
         intro i hi u v
         match i,hi with
         | 0,_=>rfl
         | 1,_=>rfl
         | 2,_=>rfl
         | 3,_=>rfl
         | 4,_=>rfl
         | 5,_=>rfl
         | 6,_=>rfl
         | 7,_=>rfl
         | 8,_=>rfl
         | 9,_=>rfl
         | 10,_=>rfl
         | 11,_=>rfl
         | 12,_=>rfl
         | 13,_=>rfl
         | 14,_=>rfl
         | i+15,hi=>exact absurd hi (by omega)
        case hinj =>
         intro i j hi hj h
         exact slots_inj [76,77,78,79,80,81,82,83,84,85,86,87,88,89,15] (by decide) hi hj h
        case stable =>
         intro i v w8 w9 hb h
         match i,h with
         | 0,h=>exact h
         | 1,h=>exact h
         | 2,h=>exact h
         | 3,h=>exact h
         | 4,h=>exact h
         | 5,h=>exact h
         | 6,h=>exact h
         | 7,h=>exact h
         | 8,h=>exact h
         | 9,h=>exact h
         | 10,h=>exact h
         | 11,h=>exact h
         | 12,h=>exact h
         | 13,h=>exact h
         | 14,h=>exact h.below hb
         | _+15,h=>trivial
        case step =>
         intro i hi u w8 S8 hdep
         match i,hi with
         | 0,_ =>
          clear hdep
          refine ⟨_,rfl,fun K' hK=>?_⟩
          obtain ⟨⟨q0,q1,q2,q3,q4,q5⟩,q6,q7,q8,q9,q10⟩:=HR5.out w8 S8
          go_simp
          exact hK.out _ _ (Below.refl _ _) rfl
         | 1,_ =>
          clear hdep
          refine ⟨_,rfl,fun K' hK=>?_⟩
          go_simp
          exact hK.out _ _ (Below.refl _ _) rfl
         | 2,_ =>
          clear hdep
          refine ⟨_,rfl,fun K' hK=>?_⟩
          go_simp
          exact hK.out _ _ (Below.refl _ _) rfl
         | 3,_ =>
          clear hdep
          refine ⟨_,rfl,fun K' hK=>?_⟩
          go_simp
          exact hK.out _ _ (Below.refl _ _) rfl
         | 4,_ =>
          have h2:(u 78)=.slice (some ⟨lb,lo,none⟩) L lc:=hdep 2 (by kernel_rfl)
          have h3:(u 79)=.int .i64 (k:Int):=hdep 3 (by kernel_rfl)
          clear hdep
          refine ⟨_,rfl,fun K' hK=>?_⟩
          simp only [h2,h3] at hK ⊢
          go_simp
          exact hK.out _ _ (Below.refl _ _) rfl
         | 5,_ =>
          have h4:(u 80)=.pointer (some ⟨lb,lo+k,none⟩):=hdep 4 (by kernel_rfl)
          clear hdep
          refine ⟨_,rfl,fun K' hK=>?_⟩
          obtain ⟨⟨q0,q1,q2,q3,q4,q5⟩,q6,q7,q8,q9,q10⟩:=HR5.out w8 S8
          simp only [h4] at hK ⊢
          go_simp
          exact hK.out _ _ (Below.refl _ _) rfl
         | 6,_ =>
          clear hdep
          refine ⟨_,rfl,fun K' hK=>?_⟩
          go_simp
          exact hK.out _ _ (Below.refl _ _) rfl
         | 7,_ =>
          clear hdep
          refine ⟨_,rfl,fun K' hK=>?_⟩
          go_simp
          exact hK.out _ _ (Below.refl _ _) rfl
         | 8,_ =>
          clear hdep
          refine ⟨_,rfl,fun K' hK=>?_⟩
          go_simp
          exact hK.out _ _ (Below.refl _ _) rfl
         | 9,_ =>
          have h7:(u 83)=.slice (some ⟨lb,lo,none⟩) L lc:=hdep 7 (by kernel_rfl)
          have h8:(u 84)=.int .i64 (k:Int):=hdep 8 (by kernel_rfl)
          clear hdep
          refine ⟨_,rfl,fun K' hK=>?_⟩
          simp only [h7,h8] at hK ⊢
          go_simp
          exact hK.out _ _ (Below.refl _ _) rfl
         | 10,_ =>
          have h9:(u 85)=.pointer (some ⟨lb,lo+k,none⟩):=hdep 9 (by kernel_rfl)
          clear hdep
          refine ⟨_,rfl,fun K' hK=>?_⟩
          obtain ⟨⟨q0,q1,q2,q3,q4,q5⟩,q6,q7,q8,q9,q10⟩:=HR5.out w8 S8
          simp only [h9] at hK ⊢
          go_simp
          exact hK.out _ _ (Below.refl _ _) rfl
         | 11,_ =>
          have h6:(u 82)=.slice (some ⟨rb,ro,none⟩) (l 0) rcap:=hdep 6 (by kernel_rfl)
          have h10:(u 86)=.int .i64 (j:Int):=hdep 10 (by kernel_rfl)
          clear hdep
          refine ⟨_,rfl,fun K' hK=>?_⟩
          simp only [h6,h10] at hK ⊢
          go_simp
          exact hK.out _ _ (Below.refl _ _) rfl
         | 12,_ =>
          have h11:(u 87)=.pointer (some ⟨rb,ro+j*4,none⟩):=hdep 11 (by kernel_rfl)
          clear hdep
          refine ⟨_,rfl,fun K' hK=>?_⟩
          obtain ⟨⟨q0,q1,q2,q3,q4,q5⟩,q6,q7,q8,q9,q10⟩:=HR5.out w8 S8
          simp only [h11] at hK ⊢
          go_simp
          exact hK.out _ _ (Below.refl _ _) rfl
         | 13,_ =>
          have h0:(u 76)=.agg #[.slice (p 0) (l 0) (c 0),.slice (p 1) (l 1) (c 1),.slice (p 2) (l 2) (c 2),.slice (p 3) (l 3) (c 3),.slice (p 4) (l 4) (c 4),.slice (p 5) (l 5) (c 5)]:=hdep 0 (by kernel_rfl)
          have h1:(u 77)=.int .i64 router:=hdep 1 (by kernel_rfl)
          have h5:(u 81)=.int .i64 (j:Int):=hdep 5 (by kernel_rfl)
          have h12:(u 88)=.agg #[.int .i64 rv,.int .i64 rp,.int .i64 rl,.bool rm]:=hdep 12 (by kernel_rfl)
          clear hdep
          refine ⟨_,rfl,fun K' hK=>?_⟩
          simp only [h0,h1,h5,h12] at hK ⊢
          go_simp
          refine (HIm.out w8 (HN5.out w8 S8)).mono ?_
          rintro e' w9 ⟨rfl,hb9⟩
          exact hK.out _ _ hb9 rfl
         | 14,_ =>
          clear hdep
          refine ⟨_,rfl,fun K' hK=>?_⟩
          go_simp
          exact hK.out _ _ Bl ⟨w8.heap.size,rfl,S8.size,row_new w8 zRt⟩
         | i+15,hi=>exact absurd hi (by omega)
        case last =>
         intro u w8 S8 hall
         have h13:(u 89)=.agg #[.int .i64 qv,.int .i64 qp,.int .i64 ql,.bool qm]:=hall 13 (by decide)
         have h14:NewRt w5.heap.size w8 (u 15):=hall 14 (by decide)
         clear hall
         refine ⟨_,rfl,fun K' hK=>?_⟩
         obtain ⟨N,e15,hN,hrow⟩:=h14
         simp only [h13,e15] at hK ⊢
         obtain ⟨y0,y1,y2,y3⟩:=row_cells hrow
         have z0:=hrow.frozen 0
         have z1:=hrow.frozen 1
         have z2:=hrow.frozen 2
         have z3:=hrow.frozen 3
         go_simp
         refine hK.out _ _ ?_
         have hro9:=row_set (r:=⟨qv,qp,ql,qm⟩) hrow
         have B9:Hid (Below wr.heap.size wr ((((w8.setCell ⟨N,0,none⟩ (.int .i64 qv)).setCell ⟨N,1,none⟩ (.int .i64 qp)).setCell ⟨N,2,none⟩ (.int .i64 ql)).setCell ⟨N,3,none⟩ (.bool qm))):=hid (((((HB5.out.trans (S8.mono hs5)).setCell (by dsimp only;omega) _).setCell (by dsimp only;omega) _).setCell (by dsimp only;omega) _).setCell (by dsimp only;omega) _)
         clear hK K' h13 y0 y1 y2 y3 z0 z1 z2 z3 hrow S8
         (try simp only [Exit.then])
         dsimp only at hro9
         generalize (((w8.setCell ⟨N,0,none⟩ (.int .i64 qv)).setCell ⟨N,1,none⟩ (.int .i64 qp)).setCell ⟨N,2,none⟩ (.int .i64 ql)).setCell ⟨N,3,none⟩ (.bool qm)=w9 at *
         obtain ⟨y0,y1,y2,y3⟩:=row_cells hro9
         simp only at y0 y1 y2 y3
         have hs9:=B9.out.size
         have HX9:=hid (fun a=>B9.out.alloc B9.out.size a)
         clear hro9
         cases ri with
         | none =>
          simp only at HFj
          have hq:=HQ9.out
          simp only [Option.getD_none,noRt,Rt.mk.injEq] at hq
          obtain ⟨rfl,rfl,rfl,rfl⟩:=hq
          go_wp2
          go_roundw
          case rel=>exact ⟨k+1,by omega,by go_num,rts_below (by rw [HT1.out,HFj.out,List.append_nil];exact HO.out) B9.out,HBr.out.trans (B9.out.mono hsr),HLa.out.below B9.out,HAp.out⟩
          case measure=>simp [intOf];omega
         | some r' =>
          have hq:=HQ9.out
          simp only [Option.getD_some] at hq
          subst hq
          simp only at HFj
          have hvia:qv=(j:Int):=(impK_via HRI.out).1
          subst hvia
          have d6:((j:Int) != -3)=true:=by first|(simp;done)|(simp;omega)
          go_wp2_with (at_builtin
                       refine wpList_append_own_at _ rfl _ _ 96 rfl (w.heap.size+1) 122 i0 _ 4 32 Tryz.underlying96 HI.out HZ0.out HZ1.out HZ2.out rfl (by decide) _ _ _ rfl (World.ownsRow.alloc (rts_below HO.out B9.out) _) ⟨_,0,none⟩ 1 1 [.int .i64 (j:Int),.int .i64 qp,.int .i64 ql,.bool qm] rfl rfl (cell_four _ _ _ _ _ _) (fun u hu=>by simp at hu;rcases hu with rfl|rfl|rfl|rfl <;> rfl) (by have:=HLen.out;unfold maxLen;omega) (by have:=HLen.out;omega) (by simp;omega) ?_
                       intro v' w3 hown' hgrow3 hnil3 hat3
                       have HG3:=hid hgrow3
                       have HO3:=hid hown'
                       have HA3:=hid hat3
                       clear hnil3 hgrow3 hown' hat3)
          have O7:Hid (OwnRts (w.heap.size+1) w3 v' (c1 ++ c2 ++ (nb.take k).flatMap F ++ [⟨(j:Int),qp,ql,qm⟩])):=hid (rts_add HO3.out)
          have B7:Hid (Below (w.heap.size+1) W0 w3):=hid (rts_grown (rts_below HO.out (HX9.out _)) (HBr.out.trans ((HX9.out _).mono hsr)) (by simp;omega) HG3.out)
          have L7:=hid (ints_kept (HLa.out.below (HX9.out _)) HAp.out HG3.out)
          have A7:=hid (apart_kept (HLa.out.below (HX9.out _)) (by omega) HAp.out HA3.out)
          go_roundw
          case rel=>exact ⟨k+1,by omega,by go_num,by rw [HT1.out,HFj.out,← List.append_assoc];exact O7.out,B7.out,L7.out,A7.out⟩
          case measure=>simp [intOf];omega
     · have ek:k=L:=by omega
       subst ek
       have hO3:=HO.out
       rw [List.take_of_length_le (by rw [HLL.out];exact Nat.le_refl _)] at hO3
       have HO3:=hid hO3
       clear hO3
       go_wp2
       go_ret
       exact ⟨_,rfl,HO3.out.mono (by omega),HBw.out⟩
end Go.Proofs.YthompjbplddkgaaGreatDoor.candSpec
