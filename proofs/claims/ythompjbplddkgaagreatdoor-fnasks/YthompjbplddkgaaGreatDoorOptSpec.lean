import Derived.Test.YthompjbplddkgaaGreatDoorPart30
import Derived.Maps.AppendAt
import Derived.Laws.AppendOwnNone
set_option linter.unusedVariables false
namespace Go.Proofs.YthompjbplddkgaaGreatDoor.optSpec
open Go.RowKit Go.Deep Go base copy names netSem netSpec nbSem nbSpec candSem candWay intsOwn ssSem
theorem ints_empty (B N:Nat) (w:World) (hB:B≤w.heap.size) (hN:w.heap.size=N):OwnInts B (w.alloc (.cells #[] 3)) (.slice (some ⟨N,0,none⟩) 0 0) []:=by
 subst hN
 exact ⟨rfl,.inr ⟨w.heap.size,0,#[],rfl,hB,heap_alloc_new w _,Nat.le_refl _,Nat.zero_le _,rfl,rfl⟩⟩
theorem add_at (g off j:Nat):(⟨g,off,none⟩:Addr).add j=⟨g,off+j,none⟩:=by
 by_cases h:j=0 <;> simp [Addr.add,h]
theorem ints_cells {w:World} {b off n:Nat} {zs:List Int} (h:IntRow w (some ⟨b,off,none⟩) n zs):∀ j u,(zs.map (Value.int .i64))[j]? = some u→w.cell? ((⟨b,off,none⟩:Addr).add j)=some u:=fun j u hj=>by
 rw [List.getElem?_map] at hj
 obtain ⟨y,hy,rfl⟩:=Option.map_eq_some_iff.1 hj
 obtain ⟨hlt,hy'⟩:=List.getElem?_eq_some_iff.1 hy
 rw [h.length] at hlt
 obtain ⟨b',off',e,hc⟩:=h.cell j hlt
 injection e with e
 injection e with e1 e2
 subst e1 e2
 rw [add_at,hc,hy]
 rfl
theorem row_succ {W:World} {base:Nat} {e:TypeId} {size:Nat} {v:Value} {k:Nat} {xs:List Value} (h:W.ownsRow base e size v (k+1) xs):∃ g cap,v=.slice (some ⟨g,0,none⟩) (k+1) cap:=by
 rcases h.2 with ⟨_,h0⟩|⟨g,cap,_,rfl,_⟩
 · omega
 · exact ⟨g,cap,rfl⟩
theorem one_ints (zs:List Int):∀ u∈zs.map (Value.int .i64),u.oneCell' = true:=fun u hu=>by
 obtain ⟨z,_,rfl⟩:=List.mem_map.1 hu
 rfl
set_option maxHeartbeats 6400000 in
set_option maxRecDepth 8000 in
theorem options_spec (p:Nat→Option Addr) (l c:Nat→Nat) (s:Ss) (g:R) (o e:List Int) (x f:R) (router:Int) (ea da:Option Addr) (ec dc:Nat) (env:List Int) (ds:List Bool) (w:World) (h:NetIs w p l s g o e x f) (he:IntRow w ea (l 3) env) (hd:BoolRow w da (l 1) ds) (h4:l 0≤4) :
  Calls Tryz.prog 96 #[netV p l c,.int .i64 router,.slice ea (l 3) ec,.slice da (l 1) dc] w fun e' w'=>∃ v,e' = .returned v∧OwnInts w.heap.size w' v (optL g (l 1) o e env ds (l 0) router)∧Below w.heap.size w w' := by
 have HN:=hid h
 have HE:=hid he
 have HD:=hid hd
 have e3:=h.externals.length
 have HE3:=hid e3
 have C1:∀ w8:World,Below ((w.alloc (.cells #[.slice (p 0) (l 0) (c 0),.slice (p 1) (l 1) (c 1),.slice (p 2) (l 2) (c 2),.slice (p 3) (l 3) (c 3),.slice (p 4) (l 4) (c 4),.slice (p 5) (l 5) (c 5)] 29))).heap.size (w.alloc (.cells #[.slice (p 0) (l 0) (c 0),.slice (p 1) (l 1) (c 1),.slice (p 2) (l 2) (c 2),.slice (p 3) (l 3) (c 3),.slice (p 4) (l 4) (c 4),.slice (p 5) (l 5) (c 5)] 29)) w8→(w8.cell? ⟨w.heap.size,0,none⟩=some (.slice (p 0) (l 0) (c 0))∧w8.cell? ⟨w.heap.size,1,none⟩=some (.slice (p 1) (l 1) (c 1))∧w8.cell? ⟨w.heap.size,2,none⟩=some (.slice (p 2) (l 2) (c 2))∧w8.cell? ⟨w.heap.size,3,none⟩=some (.slice (p 3) (l 3) (c 3))∧w8.cell? ⟨w.heap.size,4,none⟩=some (.slice (p 4) (l 4) (c 4))∧w8.cell? ⟨w.heap.size,5,none⟩=some (.slice (p 5) (l 5) (c 5)))∧Below w.heap.size w w8 :=
  fun w8 hb=>⟨⟨keep hb (by simp [go_sem]),keep hb (by simp [go_sem]),keep hb (by simp [go_sem]),keep hb (by simp [go_sem]),keep hb (by simp [go_sem]),keep hb (by simp [go_sem])⟩,(show Below w.heap.size w _ from Bl).trans (hb.mono (by simp))⟩
 have HK:=hid C1
 clear C1 h he hd e3
 obtain ⟨i0,hi0,hzz⟩:=Option.map_eq_some_iff.1 Tryz.info_int
 simp only [Prod.mk.injEq] at hzz
 obtain ⟨hz0,hz1,hz2⟩:=hzz
 have HI:=hid hi0
 have HZ0:=hid hz0
 have HZ1:=hid hz1
 have HZ2:=hid hz2
 clear hi0 hz0 hz1 hz2
 have HNb:Hid (∀ (W:World),Below w.heap.size w W→Calls Tryz.prog 115 #[netV p l c,.int .i64 router,.slice da (l 1) dc] W fun e' w'=>∃ v,e' = .returned v∧OwnInts W.heap.size w' v (nbL g (l 1) ds router (l 0))∧Below W.heap.size W w'):=hid (fun W hb=>list_spec p l c s g o e x f router da (l 1) dc ds W (HN.out.below hb) (HD.out.below hb) rfl h4)
 have HNl:=hid (nbL_len g (l 1) ds router (l 0))
 have HHb:=hid (firstAt_bounds (fun i=>decide (zAt e i=router)) e.length)
 obtain ⟨Z,hZ⟩:∃ Z,optL g (l 1) o e env ds (l 0) router=Z:=⟨_,rfl⟩
 have HZ:=hid hZ
 rw [hZ]
 clear hZ
 unfold optL ownV extV at HZ
 obtain ⟨ho,hho⟩:∃ ho,hasAt o router=ho:=⟨_,rfl⟩
 have HHo:=hid hho
 rw [hho] at HZ
 obtain ⟨he,hhe⟩:∃ he,hasAt e router=he:=⟨_,rfl⟩
 have HHe:=hid hhe
 rw [hhe] at HZ
 have hLL:firstAt (fun i=>decide (zAt e i=router)) e.length=he:=hhe
 rw [hLL] at HHb
 clear hho hhe hLL
 obtain ⟨nb,hnb⟩:∃ nb,nbL g (l 1) ds router (l 0)=nb:=⟨_,rfl⟩
 rw [hnb] at HZ HNl HNb
 clear hnb
 unfold netV at HNb ⊢
 go_enter Tryz.func96,Tryz.ntmps96
 have q2:=(HK.out _ (Below.refl _ _)).1.2.2.1
 go_wp2_with fail
 clear q2
 obtain ⟨w1,hw1⟩:∃ w1,(w.alloc (.cells #[.slice (p 0) (l 0) (c 0),.slice (p 1) (l 1) (c 1),.slice (p 2) (l 2) (c 2),.slice (p 3) (l 3) (c 3),.slice (p 4) (l 4) (c 4),.slice (p 5) (l 5) (c 5)] 29))=w1:=⟨_,rfl⟩
 have hz1:w.heap.size<w1.heap.size:=by rw [← hw1];simp
 have HB1:Hid (Below w.heap.size w w1):=hid (by rw [← hw1];exact Bl)
 have HSz:Hid (w1.heap.size=w.heap.size+1):=hid (by rw [← hw1];simp)
 rw [hw1] at HK ⊢
 clear hw1
 obtain ⟨w2,hw2⟩:∃ w2,w1.alloc (.cells #[] 3)=w2:=⟨_,rfl⟩
 have HB2:Hid (Below w1.heap.size w1 w2):=hid (by rw [← hw2];exact Bl)
 have HO2:Hid (OwnInts w1.heap.size w2 (.slice (some ⟨w.heap.size+1,0,none⟩) 0 0) []):=hid (by rw [← hw2];exact ints_empty _ _ _ (Nat.le_refl _) HSz.out)
 rw [hw2]
 clear hw2
 obtain ⟨ov,k0,c0,hk0,hv0⟩:∃ ov k0 c0,k0=0∧Value.slice (some ⟨w.heap.size+1,0,none⟩) 0 0=Value.slice ov k0 c0:=⟨_,_,_,rfl,rfl⟩
 have HK0:=hid hk0
 rw [hv0] at HO2 ⊢
 clear hv0 hk0
 refine (has_spec (p 2) (l 2) (c 2) o router w2 (HN.out.origins.below (HB1.out.trans (HB2.out.mono HB1.out.size)))).mono ?_
 rintro e1 w3 ⟨rfl,hw3⟩
 have hw3:=hw3.symm
 subst hw3
 rw [HHo.out]
 by_cases a0:0≤ho
 · have g0:decide ((0:Int)≤ho)=true:=decide_eq_true a0
   have HA0:=hid a0
   clear a0
   go_wp2_with (at_builtin
                refine wpList_append_own _ rfl _ _ 25 rfl w1.heap.size 3 i0 (.int .i64 0) 1 8 Tryz.underlying25 HI.out HZ0.out HZ1.out HZ2.out rfl (by decide) _ _ _ rfl (World.ownsRow.alloc HO2.out _) ⟨_,0,none⟩ 1 1 [.int .i64 (-2)] rfl rfl (cell_one_new _ _ _) (fun x hx=>by simp at hx;subst hx;rfl) (by unfold maxLen;simp) (by simp) (by have:=HB2.out.size;simp;omega) ?_
                intro v1 w51 hown' hgrow hnil
                have HO1:Hid (OwnInts w1.heap.size w51 v1 [-2]):=hid hown'
                have HBq1:Hid (Below w1.heap.size w1 w51):=hid (grown_below (OwnInts.below HO2.out Bl) (HB2.out.alloc HB2.out.size _) (by have:=HB2.out.size;simp;omega) hgrow)
                obtain ⟨g1,cap1,hv'⟩:=row_succ (k:=0) hown'
                subst hv'
                obtain ⟨⟨q0,q1,q2,q3,q4,q5⟩,hBw1⟩:=HK.out _ HBq1.out
                have HBw1:=hid hBw1
                clear hown' hgrow hnil hBw1)
   refine (has_spec (p 3) (l 3) (c 3) e router _ (HN.out.externals.below (HB1.out.trans (HBq1.out.mono HB1.out.size)))).mono ?_
   rintro e2 w6 ⟨rfl,hw6⟩
   have hw6:=hw6.symm
   subst hw6
   rw [HHe.out]
   by_cases b0:0≤he
   · obtain ⟨m,rfl⟩:∃ m:Nat,he=(m:Int):=⟨he.toNat,by omega⟩
     have hm:m<l 3:=by have:=HHb.out;have:=HE3.out;omega
     obtain ⟨eb,eo,hea,hce⟩:=(HE.out.below (HB1.out.trans (HBq1.out.mono HB1.out.size))).cell m hm
     obtain ⟨y,hy⟩:∃ y,env[m]?.getD 0=y:=⟨_,rfl⟩
     have HY:=hid (show zAt env m=y from hy)
     rw [hy] at hce
     subst hea
     have g1:decide ((0:Int)≤(m:Int))=true:=decide_eq_true b0
     have hmi:(m:Int)<(l 3:Int):=by omega
     have HM0:Hid ((0:Int)≤(m:Int)):=hid b0
     clear hy b0
     by_cases b1:0<y
     · have g2:decide (0<y)=true:=decide_eq_true b1
       have HB1y:=hid b1
       clear b1
       go_wp2_with (at_builtin
                    refine wpList_append_own _ rfl _ _ 25 rfl w1.heap.size 3 i0 (.int .i64 0) 1 8 Tryz.underlying25 HI.out HZ0.out HZ1.out HZ2.out rfl (by decide) _ _ _ rfl (World.ownsRow.alloc HO1.out _) ⟨_,0,none⟩ 1 1 [.int .i64 (-1)] rfl rfl (cell_one_new _ _ _) (fun x hx=>by simp at hx;subst hx;rfl) (by unfold maxLen;simp) (by simp) (by have:=HBq1.out.size;simp;omega) ?_
                    intro v2 w52 hown' hgrow hnil
                    have HO2:Hid (OwnInts w1.heap.size w52 v2 [-2,-1]):=hid hown'
                    have HBq2:Hid (Below w1.heap.size w1 w52):=hid (grown_below (OwnInts.below HO1.out Bl) (HBq1.out.alloc HBq1.out.size _) (by have:=HBq1.out.size;simp;omega) hgrow)
                    obtain ⟨g2,cap2,hv'⟩:=row_succ (k:=1) hown'
                    subst hv'
                    obtain ⟨⟨q0,q1,q2,q3,q4,q5⟩,hBw2⟩:=HK.out _ HBq2.out
                    have HBw2:=hid hBw2
                    clear hown' hgrow hnil hBw2)
       have eZ:Z=[-2,-1] ++ nb:=by
        rw [← HZ.out,if_pos HA0.out,if_pos (show (0:Int)≤(m:Int)∧0<zAt env (m:Int).toNat from ⟨HM0.out,by rw [Int.toNat_natCast,HY.out];exact HB1y.out⟩)]
        simp
       subst eZ
       refine (HNb.out _ (HB1.out.trans (HBq2.out.mono HB1.out.size))).mono ?_
       rintro e4 w7 ⟨vn,rfl,hon,hbn⟩
       have HO9:=hid (HO2.out.below hbn)
       have HB9:=hid (HBq2.out.trans (hbn.mono HBq2.out.size))
       have hz9:=HB9.out.size
       have hnl:nb.length≤4:=Nat.le_trans HNl.out h4
       clear hbn q0 q1 q2 q3 q4 q5
       rcases hon.2 with ⟨hvn,hn0⟩|⟨gn,capn,cur,hvn,-⟩
       · have e0:nb=[]:=List.length_eq_zero_iff.1 hn0
         subst hvn
         subst e0
         go_wp2_with (at_builtin;refine wpList_append_own_none rfl _ _ 25 rfl w1.heap.size 3 i0 1 Tryz.underlying25 HI.out _ _ _ rfl HO9.out rfl ?_)
         go_ret
         exact ⟨_,rfl,by rw [List.append_nil];exact HO9.out.mono (Nat.le_of_lt hz1),HB1.out.trans (HB9.out.mono HB1.out.size)⟩
       · subst hvn
         have HRn:=hid (row_of_own hon)
         clear hon
         go_wp2_with (at_builtin
                      refine wpList_append_own _ rfl _ _ 25 rfl w1.heap.size 3 i0 (.int .i64 0) 1 8 Tryz.underlying25 HI.out HZ0.out HZ1.out HZ2.out rfl (by decide) _ _ _ rfl HO9.out ⟨gn,0,none⟩ nb.length capn (nb.map (.int .i64)) rfl (by simp) (ints_cells HRn.out) (one_ints _) (by unfold maxLen;simp;omega) (by simp;omega) hz9 ?_
                      intro v9 w9 hown9 hgrow9 hnil9
                      have HOf:Hid (OwnInts w1.heap.size w9 v9 ([-2,-1] ++ nb)):=hid (by unfold OwnInts;rw [List.length_append,List.map_append];exact hown9)
                      have HBf:Hid (Below w1.heap.size w1 w9):=hid (grown_below HO9.out HB9.out hz9 hgrow9)
                      clear hown9 hgrow9 hnil9)
         go_ret
         exact ⟨_,rfl,HOf.out.mono (Nat.le_of_lt hz1),HB1.out.trans (HBf.out.mono HB1.out.size)⟩
     · have g2:decide (0<y)=false:=decide_eq_false b1
       have HB1y:=hid b1
       clear b1
       go_wp2_with fail
       have eZ:Z=[-2] ++ nb:=by
        rw [← HZ.out,if_pos HA0.out,if_neg (show ¬ ((0:Int)≤(m:Int)∧0<zAt env (m:Int).toNat) from fun hc=>by have h8:=HB1y.out;have h9:=hc.2;rw [Int.toNat_natCast,HY.out] at h9;omega)]
        simp
       subst eZ
       refine (HNb.out _ (HB1.out.trans (HBq1.out.mono HB1.out.size))).mono ?_
       rintro e4 w7 ⟨vn,rfl,hon,hbn⟩
       have HO9:=hid (HO1.out.below hbn)
       have HB9:=hid (HBq1.out.trans (hbn.mono HBq1.out.size))
       have hz9:=HB9.out.size
       have hnl:nb.length≤4:=Nat.le_trans HNl.out h4
       clear hbn q0 q1 q2 q3 q4 q5
       rcases hon.2 with ⟨hvn,hn0⟩|⟨gn,capn,cur,hvn,-⟩
       · have e0:nb=[]:=List.length_eq_zero_iff.1 hn0
         subst hvn
         subst e0
         go_wp2_with (at_builtin;refine wpList_append_own_none rfl _ _ 25 rfl w1.heap.size 3 i0 1 Tryz.underlying25 HI.out _ _ _ rfl HO9.out rfl ?_)
         go_ret
         exact ⟨_,rfl,by rw [List.append_nil];exact HO9.out.mono (Nat.le_of_lt hz1),HB1.out.trans (HB9.out.mono HB1.out.size)⟩
       · subst hvn
         have HRn:=hid (row_of_own hon)
         clear hon
         go_wp2_with (at_builtin
                      refine wpList_append_own _ rfl _ _ 25 rfl w1.heap.size 3 i0 (.int .i64 0) 1 8 Tryz.underlying25 HI.out HZ0.out HZ1.out HZ2.out rfl (by decide) _ _ _ rfl HO9.out ⟨gn,0,none⟩ nb.length capn (nb.map (.int .i64)) rfl (by simp) (ints_cells HRn.out) (one_ints _) (by unfold maxLen;simp;omega) (by simp;omega) hz9 ?_
                      intro v9 w9 hown9 hgrow9 hnil9
                      have HOf:Hid (OwnInts w1.heap.size w9 v9 ([-2] ++ nb)):=hid (by unfold OwnInts;rw [List.length_append,List.map_append];exact hown9)
                      have HBf:Hid (Below w1.heap.size w1 w9):=hid (grown_below HO9.out HB9.out hz9 hgrow9)
                      clear hown9 hgrow9 hnil9)
         go_ret
         exact ⟨_,rfl,HOf.out.mono (Nat.le_of_lt hz1),HB1.out.trans (HBf.out.mono HB1.out.size)⟩
   · have g1:decide ((0:Int)≤he)=false:=decide_eq_false b0
     have HB0:=hid b0
     clear b0
     go_wp2_with fail
     have eZ:Z=[-2] ++ nb:=by
      rw [← HZ.out,if_pos HA0.out,if_neg (show ¬ ((0:Int)≤he∧0<zAt env he.toNat) from fun hc=>by have h8:=HB0.out;have h9:=hc.1;omega)]
      simp
     subst eZ
     refine (HNb.out _ (HB1.out.trans (HBq1.out.mono HB1.out.size))).mono ?_
     rintro e4 w7 ⟨vn,rfl,hon,hbn⟩
     have HO9:=hid (HO1.out.below hbn)
     have HB9:=hid (HBq1.out.trans (hbn.mono HBq1.out.size))
     have hz9:=HB9.out.size
     have hnl:nb.length≤4:=Nat.le_trans HNl.out h4
     clear hbn q0 q1 q2 q3 q4 q5
     rcases hon.2 with ⟨hvn,hn0⟩|⟨gn,capn,cur,hvn,-⟩
     · have e0:nb=[]:=List.length_eq_zero_iff.1 hn0
       subst hvn
       subst e0
       go_wp2_with (at_builtin;refine wpList_append_own_none rfl _ _ 25 rfl w1.heap.size 3 i0 1 Tryz.underlying25 HI.out _ _ _ rfl HO9.out rfl ?_)
       go_ret
       exact ⟨_,rfl,by rw [List.append_nil];exact HO9.out.mono (Nat.le_of_lt hz1),HB1.out.trans (HB9.out.mono HB1.out.size)⟩
     · subst hvn
       have HRn:=hid (row_of_own hon)
       clear hon
       go_wp2_with (at_builtin
                    refine wpList_append_own _ rfl _ _ 25 rfl w1.heap.size 3 i0 (.int .i64 0) 1 8 Tryz.underlying25 HI.out HZ0.out HZ1.out HZ2.out rfl (by decide) _ _ _ rfl HO9.out ⟨gn,0,none⟩ nb.length capn (nb.map (.int .i64)) rfl (by simp) (ints_cells HRn.out) (one_ints _) (by unfold maxLen;simp;omega) (by simp;omega) hz9 ?_
                    intro v9 w9 hown9 hgrow9 hnil9
                    have HOf:Hid (OwnInts w1.heap.size w9 v9 ([-2] ++ nb)):=hid (by unfold OwnInts;rw [List.length_append,List.map_append];exact hown9)
                    have HBf:Hid (Below w1.heap.size w1 w9):=hid (grown_below HO9.out HB9.out hz9 hgrow9)
                    clear hown9 hgrow9 hnil9)
       go_ret
       exact ⟨_,rfl,HOf.out.mono (Nat.le_of_lt hz1),HB1.out.trans (HBf.out.mono HB1.out.size)⟩
 · have g0:decide ((0:Int)≤ho)=false:=decide_eq_false a0
   have HA0:=hid a0
   obtain ⟨⟨q0,q1,q2,q3,q4,q5⟩,-⟩:=HK.out _ HB2.out
   clear a0
   go_wp2_with fail
   refine (has_spec (p 3) (l 3) (c 3) e router _ (HN.out.externals.below (HB1.out.trans (HB2.out.mono HB1.out.size)))).mono ?_
   rintro e2 w6 ⟨rfl,hw6⟩
   have hw6:=hw6.symm
   subst hw6
   rw [HHe.out]
   by_cases b0:0≤he
   · obtain ⟨m,rfl⟩:∃ m:Nat,he=(m:Int):=⟨he.toNat,by omega⟩
     have hm:m<l 3:=by have:=HHb.out;have:=HE3.out;omega
     obtain ⟨eb,eo,hea,hce⟩:=(HE.out.below (HB1.out.trans (HB2.out.mono HB1.out.size))).cell m hm
     obtain ⟨y,hy⟩:∃ y,env[m]?.getD 0=y:=⟨_,rfl⟩
     have HY:=hid (show zAt env m=y from hy)
     rw [hy] at hce
     subst hea
     have g1:decide ((0:Int)≤(m:Int))=true:=decide_eq_true b0
     have hmi:(m:Int)<(l 3:Int):=by omega
     have HM0:Hid ((0:Int)≤(m:Int)):=hid b0
     clear hy b0
     by_cases b1:0<y
     · have g2:decide (0<y)=true:=decide_eq_true b1
       have HB1y:=hid b1
       clear b1
       go_wp2_with (at_builtin
                    refine wpList_append_own _ rfl _ _ 25 rfl w1.heap.size 3 i0 (.int .i64 0) 1 8 Tryz.underlying25 HI.out HZ0.out HZ1.out HZ2.out rfl (by decide) _ _ _ rfl (World.ownsRow.alloc HO2.out _) ⟨_,0,none⟩ 1 1 [.int .i64 (-1)] rfl rfl (cell_one_new _ _ _) (fun x hx=>by simp at hx;subst hx;rfl) (by unfold maxLen;simp) (by simp) (by have:=HB2.out.size;simp;omega) ?_
                    intro v6 w56 hown' hgrow hnil
                    have HO6:Hid (OwnInts w1.heap.size w56 v6 [-1]):=hid hown'
                    have HBq6:Hid (Below w1.heap.size w1 w56):=hid (grown_below (OwnInts.below HO2.out Bl) (HB2.out.alloc HB2.out.size _) (by have:=HB2.out.size;simp;omega) hgrow)
                    obtain ⟨g6,cap6,hv'⟩:=row_succ (k:=0) hown'
                    subst hv'
                    obtain ⟨⟨q0,q1,q2,q3,q4,q5⟩,hBw6⟩:=HK.out _ HBq6.out
                    have HBw6:=hid hBw6
                    clear hown' hgrow hnil hBw6)
       have eZ:Z=[-1] ++ nb:=by
        rw [← HZ.out,if_neg (show ¬ (0:Int)≤ho by have h8:=HA0.out;omega),if_pos (show (0:Int)≤(m:Int)∧0<zAt env (m:Int).toNat from ⟨HM0.out,by rw [Int.toNat_natCast,HY.out];exact HB1y.out⟩)]
        simp
       subst eZ
       refine (HNb.out _ (HB1.out.trans (HBq6.out.mono HB1.out.size))).mono ?_
       rintro e4 w7 ⟨vn,rfl,hon,hbn⟩
       have HO9:=hid (HO6.out.below hbn)
       have HB9:=hid (HBq6.out.trans (hbn.mono HBq6.out.size))
       have hz9:=HB9.out.size
       have hnl:nb.length≤4:=Nat.le_trans HNl.out h4
       clear hbn q0 q1 q2 q3 q4 q5
       rcases hon.2 with ⟨hvn,hn0⟩|⟨gn,capn,cur,hvn,-⟩
       · have e0:nb=[]:=List.length_eq_zero_iff.1 hn0
         subst hvn
         subst e0
         go_wp2_with (at_builtin;refine wpList_append_own_none rfl _ _ 25 rfl w1.heap.size 3 i0 1 Tryz.underlying25 HI.out _ _ _ rfl HO9.out rfl ?_)
         go_ret
         exact ⟨_,rfl,by rw [List.append_nil];exact HO9.out.mono (Nat.le_of_lt hz1),HB1.out.trans (HB9.out.mono HB1.out.size)⟩
       · subst hvn
         have HRn:=hid (row_of_own hon)
         clear hon
         go_wp2_with (at_builtin
                      refine wpList_append_own _ rfl _ _ 25 rfl w1.heap.size 3 i0 (.int .i64 0) 1 8 Tryz.underlying25 HI.out HZ0.out HZ1.out HZ2.out rfl (by decide) _ _ _ rfl HO9.out ⟨gn,0,none⟩ nb.length capn (nb.map (.int .i64)) rfl (by simp) (ints_cells HRn.out) (one_ints _) (by unfold maxLen;simp;omega) (by simp;omega) hz9 ?_
                      intro v9 w9 hown9 hgrow9 hnil9
                      have HOf:Hid (OwnInts w1.heap.size w9 v9 ([-1] ++ nb)):=hid (by unfold OwnInts;rw [List.length_append,List.map_append];exact hown9)
                      have HBf:Hid (Below w1.heap.size w1 w9):=hid (grown_below HO9.out HB9.out hz9 hgrow9)
                      clear hown9 hgrow9 hnil9)
         go_ret
         exact ⟨_,rfl,HOf.out.mono (Nat.le_of_lt hz1),HB1.out.trans (HBf.out.mono HB1.out.size)⟩
     · have g2:decide (0<y)=false:=decide_eq_false b1
       have HB1y:=hid b1
       clear b1
       have gk:(((k0:Nat):Int) == 0)=true:=by simp [HK0.out]
       go_wp2_with (at_builtin
                    refine wpList_append_own _ rfl _ _ 25 rfl w1.heap.size 3 i0 (.int .i64 0) 1 8 Tryz.underlying25 HI.out HZ0.out HZ1.out HZ2.out rfl (by decide) _ _ _ rfl (World.ownsRow.alloc HO2.out _) ⟨_,0,none⟩ 1 1 [.int .i64 (-3)] rfl rfl (cell_one_new _ _ _) (fun x hx=>by simp at hx;subst hx;rfl) (by unfold maxLen;simp) (by simp) (by have:=HB2.out.size;simp;omega) ?_
                    intro v8 w58 hown' hgrow hnil
                    have HO8:Hid (OwnInts w1.heap.size w58 v8 [-3]):=hid hown'
                    have HBq8:Hid (Below w1.heap.size w1 w58):=hid (grown_below (OwnInts.below HO2.out Bl) (HB2.out.alloc HB2.out.size _) (by have:=HB2.out.size;simp;omega) hgrow)
                    obtain ⟨g8,cap8,hv'⟩:=row_succ (k:=0) hown'
                    subst hv'
                    obtain ⟨⟨q0,q1,q2,q3,q4,q5⟩,hBw8⟩:=HK.out _ HBq8.out
                    have HBw8:=hid hBw8
                    clear hown' hgrow hnil hBw8)
       have eZ:Z=[-3] ++ nb:=by
        rw [← HZ.out,if_neg (show ¬ (0:Int)≤ho by have h8:=HA0.out;omega),if_neg (show ¬ ((0:Int)≤(m:Int)∧0<zAt env (m:Int).toNat) from fun hc=>by have h8:=HB1y.out;have h9:=hc.2;rw [Int.toNat_natCast,HY.out] at h9;omega)]
        simp
       subst eZ
       refine (HNb.out _ (HB1.out.trans (HBq8.out.mono HB1.out.size))).mono ?_
       rintro e4 w7 ⟨vn,rfl,hon,hbn⟩
       have HO9:=hid (HO8.out.below hbn)
       have HB9:=hid (HBq8.out.trans (hbn.mono HBq8.out.size))
       have hz9:=HB9.out.size
       have hnl:nb.length≤4:=Nat.le_trans HNl.out h4
       clear hbn q0 q1 q2 q3 q4 q5
       rcases hon.2 with ⟨hvn,hn0⟩|⟨gn,capn,cur,hvn,-⟩
       · have e0:nb=[]:=List.length_eq_zero_iff.1 hn0
         subst hvn
         subst e0
         go_wp2_with (at_builtin;refine wpList_append_own_none rfl _ _ 25 rfl w1.heap.size 3 i0 1 Tryz.underlying25 HI.out _ _ _ rfl HO9.out rfl ?_)
         go_ret
         exact ⟨_,rfl,by rw [List.append_nil];exact HO9.out.mono (Nat.le_of_lt hz1),HB1.out.trans (HB9.out.mono HB1.out.size)⟩
       · subst hvn
         have HRn:=hid (row_of_own hon)
         clear hon
         go_wp2_with (at_builtin
                      refine wpList_append_own _ rfl _ _ 25 rfl w1.heap.size 3 i0 (.int .i64 0) 1 8 Tryz.underlying25 HI.out HZ0.out HZ1.out HZ2.out rfl (by decide) _ _ _ rfl HO9.out ⟨gn,0,none⟩ nb.length capn (nb.map (.int .i64)) rfl (by simp) (ints_cells HRn.out) (one_ints _) (by unfold maxLen;simp;omega) (by simp;omega) hz9 ?_
                      intro v9 w9 hown9 hgrow9 hnil9
                      have HOf:Hid (OwnInts w1.heap.size w9 v9 ([-3] ++ nb)):=hid (by unfold OwnInts;rw [List.length_append,List.map_append];exact hown9)
                      have HBf:Hid (Below w1.heap.size w1 w9):=hid (grown_below HO9.out HB9.out hz9 hgrow9)
                      clear hown9 hgrow9 hnil9)
         go_ret
         exact ⟨_,rfl,HOf.out.mono (Nat.le_of_lt hz1),HB1.out.trans (HBf.out.mono HB1.out.size)⟩
   · have g1:decide ((0:Int)≤he)=false:=decide_eq_false b0
     have HB0:=hid b0
     clear b0
     have gk:(((k0:Nat):Int) == 0)=true:=by simp [HK0.out]
     go_wp2_with (at_builtin
                  refine wpList_append_own _ rfl _ _ 25 rfl w1.heap.size 3 i0 (.int .i64 0) 1 8 Tryz.underlying25 HI.out HZ0.out HZ1.out HZ2.out rfl (by decide) _ _ _ rfl (World.ownsRow.alloc HO2.out _) ⟨_,0,none⟩ 1 1 [.int .i64 (-3)] rfl rfl (cell_one_new _ _ _) (fun x hx=>by simp at hx;subst hx;rfl) (by unfold maxLen;simp) (by simp) (by have:=HB2.out.size;simp;omega) ?_
                  intro v10 w510 hown' hgrow hnil
                  have HO10:Hid (OwnInts w1.heap.size w510 v10 [-3]):=hid hown'
                  have HBq10:Hid (Below w1.heap.size w1 w510):=hid (grown_below (OwnInts.below HO2.out Bl) (HB2.out.alloc HB2.out.size _) (by have:=HB2.out.size;simp;omega) hgrow)
                  obtain ⟨g10,cap10,hv'⟩:=row_succ (k:=0) hown'
                  subst hv'
                  obtain ⟨⟨q0,q1,q2,q3,q4,q5⟩,hBw10⟩:=HK.out _ HBq10.out
                  have HBw10:=hid hBw10
                  clear hown' hgrow hnil hBw10)
     have eZ:Z=[-3] ++ nb:=by
      rw [← HZ.out,if_neg (show ¬ (0:Int)≤ho by have h8:=HA0.out;omega),if_neg (show ¬ ((0:Int)≤he∧0<zAt env he.toNat) from fun hc=>by have h8:=HB0.out;have h9:=hc.1;omega)]
      simp
     subst eZ
     refine (HNb.out _ (HB1.out.trans (HBq10.out.mono HB1.out.size))).mono ?_
     rintro e4 w7 ⟨vn,rfl,hon,hbn⟩
     have HO9:=hid (HO10.out.below hbn)
     have HB9:=hid (HBq10.out.trans (hbn.mono HBq10.out.size))
     have hz9:=HB9.out.size
     have hnl:nb.length≤4:=Nat.le_trans HNl.out h4
     clear hbn q0 q1 q2 q3 q4 q5
     rcases hon.2 with ⟨hvn,hn0⟩|⟨gn,capn,cur,hvn,-⟩
     · have e0:nb=[]:=List.length_eq_zero_iff.1 hn0
       subst hvn
       subst e0
       go_wp2_with (at_builtin;refine wpList_append_own_none rfl _ _ 25 rfl w1.heap.size 3 i0 1 Tryz.underlying25 HI.out _ _ _ rfl HO9.out rfl ?_)
       go_ret
       exact ⟨_,rfl,by rw [List.append_nil];exact HO9.out.mono (Nat.le_of_lt hz1),HB1.out.trans (HB9.out.mono HB1.out.size)⟩
     · subst hvn
       have HRn:=hid (row_of_own hon)
       clear hon
       go_wp2_with (at_builtin
                    refine wpList_append_own _ rfl _ _ 25 rfl w1.heap.size 3 i0 (.int .i64 0) 1 8 Tryz.underlying25 HI.out HZ0.out HZ1.out HZ2.out rfl (by decide) _ _ _ rfl HO9.out ⟨gn,0,none⟩ nb.length capn (nb.map (.int .i64)) rfl (by simp) (ints_cells HRn.out) (one_ints _) (by unfold maxLen;simp;omega) (by simp;omega) hz9 ?_
                    intro v9 w9 hown9 hgrow9 hnil9
                    have HOf:Hid (OwnInts w1.heap.size w9 v9 ([-3] ++ nb)):=hid (by unfold OwnInts;rw [List.length_append,List.map_append];exact hown9)
                    have HBf:Hid (Below w1.heap.size w1 w9):=hid (grown_below HO9.out HB9.out hz9 hgrow9)
                    clear hown9 hgrow9 hnil9)
       go_ret
       exact ⟨_,rfl,HOf.out.mono (Nat.le_of_lt hz1),HB1.out.trans (HBf.out.mono HB1.out.size)⟩
end Go.Proofs.YthompjbplddkgaaGreatDoor.optSpec
