import Derived.Test.YthompjbplddkgaaGreatDoorPart30
import Derived.RangeFuncBox
set_option linter.unusedVariables false
namespace Go.Proofs.YthompjbplddkgaaGreatDoor.rofSpec
open Go.RowKit Go.Deep Go base copy names netSem netSpec routeRow nbSem candSem candImp intsOwn candSpec rtsRow noRts sceneSem stabLaw rofSem
theorem laid_own {B N n cap:Nat} {w:World} {zs:List Rt} (h:OwnRts B w (.slice (some ⟨N,0,none⟩) n cap) zs):RtLaid w N cap n (rF zs)∧n≤cap∧cap≤maxLen∧B≤N:=by
 obtain ⟨h1,h2⟩:=h
 rcases h2 with ⟨e,_⟩|⟨g,cap',cur,e,hb,hh,hc,hm,hs,ht⟩
 · cases e
 · injection e with e1 e2 e3
   injection e1 with e1
   injection e1 with e1 _ _
   subst e1 e3
   rw [← e2] at hc ht
   refine ⟨⟨fun i=>cur[i]?.getD undef,⟨cur,hh,hs,fun i hi=>?_⟩,fun i hi j hj=>?_⟩,hc,hm,hb⟩
   · simp [show i<cur.size by omega]
   · have h7:=flat_at zs i j (by omega) hj
     rw [← ht,List.getElem?_take_of_lt (by omega)] at h7
     have h8:cur[i*4+j]? = some (rc (rF zs i) j):=by simpa using h7
     show cur[i*4+j]?.getD undef=_
     rw [h8]
     rfl
theorem flat_len4 (zs:List Rt):(zs.flatMap rcs).length=zs.length*4:=by
 induction zs with
 | nil=>rfl
 | cons a zs ih=>simp only [List.flatMap_cons,List.length_append,List.length_cons,ih];simp [rcs];omega
theorem own_laid {B N n cap:Nat} {w:World} {rs:Rs} (h:RtLaid w N cap n rs) (hc:n≤cap) (hm:cap≤maxLen) (hB:B≤N):OwnRts B w (.slice (some ⟨N,0,none⟩) n cap) ((List.range n).map rs):=by
 obtain ⟨f,⟨cur,hh,hs,hf⟩,hr⟩:=h.row
 have hl:((List.range n).map rs).length=n:=by simp
 unfold OwnRts
 rw [hl]
 refine ⟨by rw [flat_len4,hl],.inr ⟨N,cap,cur,rfl,hB,hh,hc,hm,hs,?_⟩⟩
 apply List.ext_getElem?
 intro q
 by_cases hq:q<n*4
 · rw [List.getElem?_take_of_lt hq]
   have hi:q / 4<n:=by omega
   have hj:q % 4<4:=by omega
   have hq':q=q / 4*4+q % 4:=by omega
   have h7:=flat_at ((List.range n).map rs) (q / 4) (q % 4) (by rw [hl];exact hi) hj
   rw [← hq'] at h7
   rw [h7]
   have h8:=hf q (by omega)
   have h9:=hr (q / 4) hi (q % 4) hj
   rw [← hq'] at h9
   rw [h9] at h8
   have e:rF ((List.range n).map rs) (q / 4)=rs (q / 4):=by
    unfold rF
    rw [List.getElem?_map,List.getElem?_range hi]
    rfl
   rw [e]
   simpa using h8
 · rw [List.getElem?_eq_none (by rw [List.length_take];omega),List.getElem?_eq_none (by rw [flat_len4,hl];omega)]
theorem laid_row {w:World} {N cap n:Nat} {rs:Rs} (h:RtLaid w N cap n rs) (hc:n≤cap) (hm:n≤maxLen):RtRow w (some ⟨N,0,none⟩) n rs:=by
 obtain ⟨f,hf,hr⟩:=h.row
 refine ⟨hm,fun i hi=>⟨N,0,rfl,fun j hj=>?_⟩⟩
 rw [← hr i hi j hj]
 simpa using hf.cell (i:=i*4+j) (by omega)
theorem laid_put {w:World} {N cap n k:Nat} {rs:Rs} (h:RtLaid w N cap n rs) (r:Rt) :
  RtLaid ((((w.setCell ⟨N,k*4,none⟩ (.int .i64 r.via)).setCell ⟨N,k*4+1,none⟩ (.int .i64 r.pref)).setCell ⟨N,k*4+2,none⟩ (.int .i64 r.len)).setCell ⟨N,k*4+3,none⟩ (.bool r.mark)) N cap n (putR rs k r):=by
 obtain ⟨f,hf,hc⟩:=h.row
 refine ⟨_,((((hf.set (k*4) _).set (k*4+1) _).set (k*4+2) _).set (k*4+3) _),fun i hi j hj=>?_⟩
 unfold putR
 by_cases e:i=k
 · subst e
   rw [if_pos rfl]
   match j,hj with
   | 0,_=>rw [if_neg (by omega),if_neg (by omega),if_neg (by omega),if_pos (by omega)];rfl
   | 1,_=>rw [if_neg (by omega),if_neg (by omega),if_pos rfl];rfl
   | 2,_=>rw [if_neg (by omega),if_pos rfl];rfl
   | 3,_=>rw [if_pos rfl];rfl
   | j+4,hj=>exact absurd hj (by omega)
 · rw [if_neg (by omega),if_neg (by omega),if_neg (by omega),if_neg (by omega),if_neg e]
   exact hc i hi j hj
theorem laid_same {w:World} {N len k:Nat} {g g':Rs} (h:RtLaid w N len k g) (he:∀ i,i<k→g i=g' i):RtLaid w N len k g' := by
 obtain ⟨f,hf,hc⟩:=h.row
 exact ⟨f,hf,fun i hi j hj=>by rw [← he i hi];exact hc i hi j hj⟩
theorem laid_keep {w w':World} {N len k:Nat} {g:Rs} (h:RtLaid w N len k g) (hb:w'.heap[N]? = w.heap[N]?):RtLaid w' N len k g:=by
 obtain ⟨f,hf,hc⟩:=h.row
 exact ⟨f,hf.of_block hb,hc⟩
theorem pick_take (v:Int) (zs:List Rt) (k:Nat) (hk:k<zs.length):pick v (zs.take (k+1))=if (rF zs k).via=v then some (rF zs k) else pick v (zs.take k):=by
 rw [List.take_add_one,List.getElem?_eq_getElem hk,Option.toList_some,pick_snoc]
 unfold rF
 rw [List.getElem?_eq_getElem hk,Option.getD_some]
set_option maxHeartbeats 6400000 in
set_option maxRecDepth 8000 in
theorem of_spec (p:Nat→Option Addr) (l c:Nat→Nat) (s:Ss) (g:R) (o e:List Int) (x f:R) (ea da va:Option Addr) (ec dc vc:Nat) (env:List Int) (ds:List Bool) (vs:List Int) (w:World) (h:NetIs w p l s g o e x f) (he:IntRow w ea (l 3) env) (hd:BoolRow w da (l 1) ds) (hvr:IntRow w va (l 0) vs) (h4:l 0≤4) (hn1:1≤l 0) (hc:∀ i,i<l 1→0≤g i 2∧g i 2≤100) (hv:∀ i,-3≤zAt vs i∧zAt vs i<l 0) (henv:∀ i,0≤zAt env i) :
  Calls Tryz.prog 79 #[netV p l c,.slice ea (l 3) ec,.slice da (l 1) dc,.slice va (l 0) vc] w fun e' w'=>∃ v,e' = .returned (.tuple #[v,.bool (okV g (l 1) o e x (l 4) env ds vs (l 0))])∧(okV g (l 1) o e x (l 4) env ds vs (l 0)=true→OwnRts w.heap.size w' v ((List.range (l 0)).map (valR g (l 1) o e x (l 4) env ds vs (l 0))))∧Below w.heap.size w w' := by
 have HN:=hid h
 have HE:=hid he
 have HD:=hid hd
 have HVr:=hid hvr
 have HC:=hid hc
 have HV:=hid hv
 have HEn:=hid henv
 have hvl:=hvr.length
 clear h he hd hvr hc hv henv hvl
 have C1:∀ w8:World,Below ((w.alloc (.cells #[.slice (p 0) (l 0) (c 0),.slice (p 1) (l 1) (c 1),.slice (p 2) (l 2) (c 2),.slice (p 3) (l 3) (c 3),.slice (p 4) (l 4) (c 4),.slice (p 5) (l 5) (c 5)] 29))).heap.size (w.alloc (.cells #[.slice (p 0) (l 0) (c 0),.slice (p 1) (l 1) (c 1),.slice (p 2) (l 2) (c 2),.slice (p 3) (l 3) (c 3),.slice (p 4) (l 4) (c 4),.slice (p 5) (l 5) (c 5)] 29)) w8→(w8.cell? ⟨w.heap.size,0,none⟩=some (.slice (p 0) (l 0) (c 0))∧w8.cell? ⟨w.heap.size,1,none⟩=some (.slice (p 1) (l 1) (c 1))∧w8.cell? ⟨w.heap.size,2,none⟩=some (.slice (p 2) (l 2) (c 2))∧w8.cell? ⟨w.heap.size,3,none⟩=some (.slice (p 3) (l 3) (c 3))∧w8.cell? ⟨w.heap.size,4,none⟩=some (.slice (p 4) (l 4) (c 4))∧w8.cell? ⟨w.heap.size,5,none⟩=some (.slice (p 5) (l 5) (c 5)))∧Below w.heap.size w w8 :=
  fun w8 hb=>⟨⟨keep hb (by simp [go_sem]),keep hb (by simp [go_sem]),keep hb (by simp [go_sem]),keep hb (by simp [go_sem]),keep hb (by simp [go_sem]),keep hb (by simp [go_sem])⟩,(show Below w.heap.size w _ from Bl).trans (hb.mono (by simp))⟩
 have HK:=hid C1
 clear C1
 obtain ⟨i0,hi,hzz⟩:=Option.map_eq_some_iff.1 info_Route
 simp only [Prod.mk.injEq] at hzz
 obtain ⟨hz0,hz1',hz2⟩:=hzz
 have HIn:=hid hi
 have HZ0:=hid hz0
 have HZ1:=hid hz1'
 have HZ2:=hid hz2
 clear hi hz0 hz1' hz2
 have HCa:Hid (∀ (W:World) (rs:Rs) (m N cap:Nat),Below w.heap.size w W→RtRow W (some ⟨N,0,none⟩) (l 0) rs→(∀ i,i<l 0→(rs i).via<l 0)→(∀ i,i<l 0→0≤(rs i).len∧(rs i).len≤20000)→Calls Tryz.prog 98 #[netV p l c,.int .i64 (m:Int),.slice ea (l 3) ec,.slice da (l 1) dc,.slice (some ⟨N,0,none⟩) (l 0) cap] W fun e' w'=>∃ v,e' = .returned v∧OwnRts W.heap.size w' v (candL g (l 1) o e x (l 4) env ds rs (l 0) (m:Int))∧Below W.heap.size W w') :=
  hid (fun W rs m N cap hb hr h1 h2=>cand_spec p l c s g o e x f (m:Int) ea da (some ⟨N,0,none⟩) ec dc cap env ds rs W (HN.out.below hb) (HE.out.below hb) (HD.out.below hb) hr h4 HC.out h1 h2)
 have hmk:=run_make_row' (P:=Tryz.prog) 36 4 (.bool false) 1 Tryz.underlying36 (show (Tryz.prog.info? 4).map (fun i=>(i.zero,i.size,i.bytes))=some (some (.bool false),1,1) by kernel_rfl) rfl .i64 .i64 (l 0) (by omega) (by omega)
 have HMk:=hid hmk
 clear hmk
 obtain ⟨V,hV⟩:∃ V,val g (l 1) o e x (l 4) env ds vs (l 0)=V:=⟨_,rfl⟩
 obtain ⟨OK,hOK⟩:∃ OK,okV g (l 1) o e x (l 4) env ds vs (l 0)=OK:=⟨_,rfl⟩
 have HOK:=hid hOK
 rw [hOK]
 obtain ⟨VR,hVR⟩:∃ VR,valR g (l 1) o e x (l 4) env ds vs (l 0)=VR:=⟨_,rfl⟩
 have HVR:=hid hVR
 rw [hVR]
 clear hV hOK hVR
 unfold netV at HCa ⊢
 go_enter Tryz.func79,Tryz.ntmps79
 go_wp2
 obtain ⟨w1,hw1⟩:∃ w1,(w.alloc (.cells #[.slice (p 0) (l 0) (c 0),.slice (p 1) (l 1) (c 1),.slice (p 2) (l 2) (c 2),.slice (p 3) (l 3) (c 3),.slice (p 4) (l 4) (c 4),.slice (p 5) (l 5) (c 5)] 29))=w1:=⟨_,rfl⟩
 have hz1:w.heap.size<w1.heap.size:=by rw [← hw1];simp
 have HB1:Hid (Below w.heap.size w w1):=hid (by rw [← hw1];exact Bl)
 have HSz:Hid (w1.heap.size=w.heap.size+1):=hid (by rw [← hw1];simp)
 rw [hw1] at HK ⊢
 clear hw1
 go_loopw [11,10] (fun i v wr=>∃ k:Nat,k≤l 0∧i=.int .i64 k∧OwnRts w1.heap.size wr v (List.replicate k noRt)∧Below w1.heap.size w1 wr) (fun i _ _=>l 0 - (intOf i).toNat)
 case atStart=>exact ⟨0,Nat.zero_le _,rfl,by simpa [HSz.out] using rts_empty w1.heap.size w1.heap.size w1 (Nat.le_refl _) rfl,(Below.refl _ w1).alloc (Nat.le_refl _) _⟩
 case round =>
  obtain ⟨k,hk,rfl,ho,hbr⟩:=hrel
  have HO:=hid ho
  have HBr:=hid hbr
  have hsr:=hbr.size
  have hrl:(List.replicate k noRt).length=k:=List.length_replicate
  clear ho hbr
  by_cases hlt:k<l 0
  · go_wp2_with fail
    refine (routesSpec.none_spec _).mono ?_
    rintro e' w6 ⟨rfl,hb6⟩
    have HB6:=hid hb6
    have HO6:=hid (rts_below HO.out hb6)
    have hz6:=hb6.size
    clear hb6 HO
    go_wp2_with (at_builtin
                 refine wpList_append_own_at _ rfl _ _ 96 rfl w1.heap.size 122 i0 _ 4 32 Tryz.underlying96 HIn.out HZ0.out HZ1.out HZ2.out rfl (by decide) _ _ _ rfl (World.ownsRow.alloc HO6.out _) ⟨_,0,none⟩ 1 1 [.int .i64 (-3),.int .i64 0,.int .i64 0,.bool false] rfl rfl (cell_four _ _ _ _ _ _) (fun u hu=>by simp at hu;first|(rcases hu with rfl|rfl|rfl|rfl <;> rfl)|(rcases hu with rfl|rfl|rfl <;> rfl)) (by rw [hrl];unfold maxLen;omega) (by rw [hrl];omega) (by simp;omega) ?_
                 intro v' w3 hown' hgrow3 hnil3 hat3
                 have HO3:Hid (OwnRts w1.heap.size w3 v' (List.replicate (k+1) noRt)):=hid (by rw [List.replicate_succ'];exact rts_add (r:=noRt) hown')
                 have HB3:Hid (Below w1.heap.size w1 w3):=hid (rts_grown (rts_below HO6.out ((Below.refl _ w6).alloc (Nat.le_refl _) _)) ((HBr.out.trans (HB6.out.mono hsr)).alloc (by omega) _) (by simp;omega) hgrow3)
                 clear hown' hgrow3 hnil3 hat3 HO6 HB6)
    go_roundw
    case rel=>exact ⟨k+1,by omega,by go_num,HO3.out,HB3.out⟩
    case measure=>simp [intOf];omega
  · have e1:k=l 0:=by omega
    subst e1
    obtain ⟨n',hn'⟩:∃ n',l 0=n' + 1:=⟨l 0 - 1,by omega⟩
    obtain ⟨N,cap,hNc⟩:∃ N cap,u10=.slice (some ⟨N,0,none⟩) (l 0) cap:=by
     have:=HO.out
     unfold OwnRts at this
     rw [hrl,hn'] at this
     obtain ⟨N,cap,e9⟩:=ownsRow_succ this
     exact ⟨N,cap,by rw [hn'];exact e9⟩
    clear hn' n'
    subst hNc
    obtain ⟨hl0,hcap,hcm,hN1⟩:=laid_own HO.out
    have HL0:Hid (RtLaid wr N cap (l 0) (fun _=>noRt)):=hid (laid_same hl0 (fun i hi=>by unfold rF;rw [List.getElem?_replicate,if_pos hi];rfl))
    have hNw:N<wr.heap.size:=by obtain ⟨ff,hff,-⟩:=hl0.row;exact hff.lt
    have HCap:=hid (And.intro hcap hcm)
    have hcap4:l 0*4≤cap*4:=by omega
    clear hl0 hcap hcm HO hrl
    have hmk:=HMk.out
    go_wp2
    clear hmk
    obtain ⟨w2,hw2⟩:∃ w2,wr.alloc (.cells (madeCells #[.bool false] (l 0)) 4)=w2:=⟨_,rfl⟩
    have HR2:Hid (w2.rowIs wr.heap.size 4 (l 0) (fun _=>.bool false)):=hid (by rw [← hw2];exact World.rowIs_made wr _ (l 0) 4)
    have HL2:Hid (RtLaid w2 N cap (l 0) (fun _=>noRt)):=hid (by rw [← hw2];exact HL0.out.below Bl)
    have HB2:Hid (Below w1.heap.size w1 w2):=hid (by rw [← hw2];exact HBr.out.alloc hsr _)
    rw [hw2]
    obtain ⟨M,hM⟩:∃ M,wr.heap.size=M:=⟨_,rfl⟩
    rw [hM] at HR2 hNw hsr ⊢
    clear hw2 HL0 HBr HMk HIn HZ0 HZ1 HZ2 hM
    have hMN:¬ N=M:=by omega
    have hMw:¬ w.heap.size=M:=by omega
    have hMw':¬ M=w.heap.size:=by omega
    have HSet:Hid (∀ (W:World) (k:Nat) (y:Value),Below w1.heap.size w1 W→Below w1.heap.size w1 (W.setCell ⟨M,k,none⟩ y)):=hid (fun W k y hb=>hb.setCell (p:=⟨M,k,none⟩) hsr y)
    have HSetN:Hid (∀ (W:World) (k:Nat) (y:Value),Below w1.heap.size w1 W→Below w1.heap.size w1 (W.setCell ⟨N,k,none⟩ y)):=hid (fun W k y hb=>hb.setCell (p:=⟨N,k,none⟩) hN1 y)
    have hMs:w1.heap.size≤M:=hsr
    go_loopw [13] (fun r wq=>∃ k:Nat,k≤l 0+1∧r=.int .i64 k∧∃ (D:Nat→Bool) (rs:Rs),St g (l 1) o e x (l 4) env ds vs (l 0) D rs∧(∀ j m,j<l 0→m≤k→cnt vs m (j:Int)=true→D j=true)∧RtLaid wq N cap (l 0) rs∧wq.rowIs M 4 (l 0) (fun i=>.bool (D i))∧Below w1.heap.size w1 wq) (fun r _=>l 0+1 - (intOf r).toNat)
    case atStart =>
     refine ⟨0,Nat.zero_le _,rfl,fun _=>false,fun _=>noRt,St.start,fun j m hj hm hc=>?_,HL2.out,HR2.out,HB2.out⟩
     have:m=0:=by omega
     subst this
     simp only [cnt,decide_eq_true_eq] at hc
     omega
    case round =>
     clear HR2 HL2 HB2
     obtain ⟨r,hr,rfl,D,rs,hst,hdn,hlay,hrow,hbq⟩:=hrel
     have HSt:=hid hst
     have HDn:=hid hdn
     have HL:=hid hlay
     have HRo:=hid hrow
     have HBq:=hid hbq
     clear hst hdn hlay hrow hbq
     by_cases hlt:r≤l 0
     · have dr:decide ((r:Int)≤(l 0:Int))=true:=decide_eq_true (by omega)
       have HRl:=hid hlt
       have dr':decide (r≤l 0)=true:=decide_eq_true hlt
       clear hlt
       go_wp2
       go_loopw [14] (fun i wq=>∃ m:Nat,m≤l 0∧i=.int .i64 m∧∃ (D:Nat→Bool) (rs:Rs),St g (l 1) o e x (l 4) env ds vs (l 0) D rs∧(∀ j m,j<l 0→m≤r→cnt vs m (j:Int)=true→D j=true)∧(∀ j,j<m→cnt vs (r+1) (j:Int)=true→D j=true)∧RtLaid wq N cap (l 0) rs∧wq.rowIs M 4 (l 0) (fun i=>.bool (D i))∧Below w1.heap.size w1 wq) (fun i _=>l 0 - (intOf i).toNat)
       case atStart=>exact ⟨0,Nat.zero_le _,rfl,D,rs,HSt.out,HDn.out,fun j hj=>absurd hj (Nat.not_lt_zero _),HL.out,HRo.out,HBq.out⟩
       case round =>
        clear HSt HDn HL HRo HBq dr dr' D rs
        obtain ⟨m,hm,rfl,D,rs,hst,hdn,hdm,hlay,hrow,hbq⟩:=hrel
        have HSt:=hid hst
        have HDn:=hid hdn
        have HDm:=hid hdm
        have HL:=hid hlay
        have HRo:=hid hrow
        have HBq:=hid hbq
        obtain ⟨⟨q0,q1,q2,q3,q4,q5⟩,hBw⟩:=HK.out _ hbq
        have HBw:=hid hBw
        have HBd:=hid (fun (j:Nat) (hj:j<l 0)=>hst.bounds h4 HV.out HC.out hj)
        clear hst hdn hdm hlay hrow hbq hBw
        by_cases hlt2:m<l 0
        · obtain ⟨vb,vo,hva,hvc⟩:=(HVr.out.below HBw.out).cell m hlt2
          obtain ⟨v,hve⟩:∃ v,vs[m]?.getD 0=v:=⟨_,rfl⟩
          have HVe:=hid (show zAt vs m=v from hve)
          have hvb:=HV.out m
          rw [HVe.out] at hvb
          rw [hve] at hvc
          have cm:=HRo.out.cell (i:=m) hlt2
          have zm:=HRo.out.frozen m
          subst hva
          clear hve
          cases hDm:D m with
          | true =>
           rw [hDm] at cm
           have HDm1:=hid hDm
           clear hDm
           go_wp2
           go_roundw
           case rel =>
            refine ⟨m+1,by omega,by go_num,D,rs,HSt.out,HDn.out,fun j hj hcj=>?_,HL.out,HRo.out,HBq.out⟩
            by_cases e1:j=m
            · subst e1;exact HDm1.out
            · exact HDm.out j (by omega) hcj
           case measure=>simp [intOf];omega
          | false =>
           rw [hDm] at cm
           have HDm1:=hid hDm
           clear hDm
           by_cases h0:0≤v
           · obtain ⟨q,rfl⟩:∃ q:Nat,v=(q:Int):=⟨v.toNat,by omega⟩
             have hql:q<l 0:=by omega
             have cq:=HRo.out.cell (i:=q) hql
             have g0:decide ((0:Int)≤(q:Int))=true:=decide_eq_true h0
             have hqi:(q:Int)<(l 0:Int):=by omega
             clear h0
             cases hDq:D q with
             | false =>
              rw [hDq] at cq
              have HDq:=hid hDq
              clear hDq
              go_wp2
              go_roundw
              case rel =>
               refine ⟨m+1,by omega,by go_num,D,rs,HSt.out,HDn.out,fun j hj hcj=>?_,HL.out,HRo.out,HBq.out⟩
               by_cases e1:j=m
               · subst e1
                 exfalso
                 obtain ⟨m',e2,hc'⟩:=cnt_one hcj (by omega)
                 rw [Int.toNat_natCast,HVe.out] at hc'
                 have h9:=HDn.out q m' hql (by omega) hc'
                 rw [HDq.out] at h9
                 cases h9
               · exact HDm.out j (by omega) hcj
              case measure=>simp [intOf];omega
             | true =>
              rw [hDq] at cq
              have HNx:Hid (0≤zAt vs m→D (zAt vs m).toNat=true):=hid (fun _=>by rw [HVe.out,Int.toNat_natCast];exact hDq)
              have HCM:Hid (∃ M',cnt vs M' (m:Int)=true):=hid (by
               obtain ⟨m',_,hc'⟩:=val_cnt (by omega) (HSt.out.has q hDq)
               exact ⟨m' + 1,cnt_succ (by omega) (by rw [Int.toNat_natCast,HVe.out];exact hc')⟩)
              clear hDq
              have d3:(((q:Int):Int) == -3)=false:=by first|(simp;done)|(simp;omega)
              have HV2:Hid (-2≤((q:Int):Int)∧((q:Int):Int)<(l 0:Int)):=hid ⟨by omega,by omega⟩
              go_wp2_with fail
              obtain ⟨W1,hW1⟩:∃ W1,wr.setCell ⟨M,m,none⟩ (.bool true)=W1:=⟨_,rfl⟩
              have HR1:Hid (W1.rowIs M 4 (l 0) (fun i=>.bool (put D m i))):=hid (by rw [← hW1];exact (HRo.out.set m _).congr (fun j hj=>by unfold put;split <;> rfl))
              have HL1:Hid (RtLaid W1 N cap (l 0) rs):=hid (by rw [← hW1];exact laid_keep HL.out (Below.heap_setCell _ _ _ _ hMN))
              have HBq1:Hid (Below w1.heap.size w1 W1):=hid (by rw [← hW1];exact HSet.out _ _ _ HBq.out)
              obtain ⟨-,hBw1⟩:=HK.out _ HBq1.out
              have hz1N:N<W1.heap.size:=by obtain ⟨ff,hff,-⟩:=HL1.out.row;exact hff.lt
              have hz1M:M<W1.heap.size:=HR1.out.lt
              rw [hW1]
              refine (HCa.out W1 rs m N cap hBw1 (laid_row HL1.out HCap.out.1 (by unfold maxLen;omega)) (fun i hi=>(HBd.out i hi).1.2) (fun i hi=>by have:=HBd.out i hi;omega)).mono ?_
              rintro e' w3 ⟨vl,rfl,hol,hb3⟩
              have HPk:Hid (pick ((q:Int)) (candL g (l 1) o e x (l 4) env ds rs (l 0) (m:Int))=val g (l 1) o e x (l 4) env ds vs (l 0) (m:Int)):=hid (by
               obtain ⟨M',hM'⟩:=HCM.out
               rw [← HSt.out.by h4 HV.out hlt2 hM' HNx.out,HVe.out]
               exact pick_cand h4 (fun i hi=>(HBd.out i hi).1.2) HEn.out HV2.out.1 HV2.out.2)
              obtain ⟨zs,hzs⟩:∃ zs,candL g (l 1) o e x (l 4) env ds rs (l 0) (m:Int)=zs:=⟨_,rfl⟩
              rw [hzs] at hol HPk
              obtain ⟨av,cv,rfl,hzr⟩:=rts_form hol
              have hzm:=hzr.most
              unfold maxLen at hzm
              have HL3:=hid (HL1.out.below hb3)
              have HR3:=hid (HR1.out.of_block (hb3.block _ hz1M))
              have HBq3:=hid (HBq1.out.trans (hb3.mono HBq1.out.size))
              have HO3:=hid hol
              have HRn:Hid (rs m=noRt):=hid (HSt.out.rest m hlt2 HDm1.out)
              clear hW1 hBw1 hol hb3 hzs hzr HL HRo HBq HBw HL1 HR1 HBq1 cm zm q0 q1 q2 q3 q4 q5
              go_wp2
              go_loopw [18,16] (fun i y w4=>∃ t:Nat,t≤zs.length∧i=.int .i64 t∧y=.bool (pick ((q:Int)) (zs.take t)).isSome∧RtLaid w4 N cap (l 0) (putR rs m ((pick ((q:Int)) (zs.take t)).getD noRt))∧w4.rowIs M 4 (l 0) (fun i=>.bool (put D m i))∧OwnRts W1.heap.size w4 (.slice av zs.length cv) zs∧Below w1.heap.size w1 w4) (fun i _ _=>zs.length - (intOf i).toNat)
              case atStart =>
               refine ⟨0,Nat.zero_le _,rfl,rfl,laid_same HL3.out (fun i hi=>?_),HR3.out,HO3.out,HBq3.out⟩
               unfold putR
               split
               · next e1=>subst e1;exact HRn.out
               · rfl
              case round =>
               clear HL3 HR3 HBq3 HO3
               obtain ⟨t,ht,rfl,rfl,hl4,hr4,ho4,hb4⟩:=hrel
               have HL4:=hid hl4
               have HR4:=hid hr4
               have HO4:=hid ho4
               have HB4:=hid hb4
               clear hl4 hr4 ho4 hb4
               by_cases hlt3:t<zs.length
               · obtain ⟨lb,lo,hav,c0,c1,c2,c3⟩:=(rts_row HO4.out).at4 hlt3
                 have HPt:=hid (pick_take ((q:Int)) zs t hlt3)
                 have hlbN:¬ lb=N∧¬ lb=M:=by
                  have:=rts_lt HO4.out (show Value.ownBlock _=some lb by rw [hav];rfl)
                  omega
                 have HLb:=hid hlbN
                 have HNe:Hid (∀ g,Value.ownBlock (.slice av zs.length cv)=some g→some g≠some N):=hid (fun g hg e=>by injection e with e;have:=rts_lt HO4.out hg;omega)
                 subst hav
                 obtain ⟨⟨r0,r1,r2,r3⟩,hrr⟩:∃ r,rF zs t=r:=⟨_,rfl⟩
                 rw [hrr] at c0 c1 c2 c3 HPt
                 dsimp only at c0 c1 c2 c3
                 clear hrr hlbN
                 by_cases heq:r0=((q:Int))
                 · have HPe:Hid (pick ((q:Int)) (zs.take (t+1))=some ⟨r0,r1,r2,r3⟩):=hid (by rw [HPt.out,if_pos heq])
                   have de:(r0 == ((q:Int):Int))=true:=by simp [heq]
                   obtain ⟨ff,hff,-⟩:=HL4.out.row
                   have g0:=hff.cell (i:=m*4) (by omega)
                   have z0:=hff.frozen (m*4)
                   have g1:=hff.cell (i:=m*4+1) (by omega)
                   have z1:=hff.frozen (m*4+1)
                   have g2:=hff.cell (i:=m*4+2) (by omega)
                   have z2:=hff.frozen (m*4+2)
                   have g3:=hff.cell (i:=m*4+3) (by omega)
                   have z3:=hff.frozen (m*4+3)
                   have HLs:=hid (laid_put (k:=m) HL4.out ⟨r0,r1,r2,r3⟩)
                   clear hff heq HPt
                   go_wp2
                   all_goals
                    go_roundw
                    case rel =>
                     refine ⟨t+1,by omega,by go_num,by rw [HPe.out];rfl,laid_same HLs.out (fun i hi=>?_),((((HR4.out.of_block (Below.heap_setCell _ ⟨N,m*4,none⟩ _ _ (Ne.symm hMN))).of_block (Below.heap_setCell _ ⟨N,m*4+1,none⟩ _ _ (Ne.symm hMN))).of_block (Below.heap_setCell _ ⟨N,m*4+2,none⟩ _ _ (Ne.symm hMN))).of_block (Below.heap_setCell _ ⟨N,m*4+3,none⟩ _ _ (Ne.symm hMN))),rts_keeps HO4.out (grown_set (grown_set (grown_set (grown_set (grown_refl _ _))))) HNe.out,HSetN.out _ _ _ (HSetN.out _ _ _ (HSetN.out _ _ _ (HSetN.out _ _ _ HB4.out)))⟩
                     rw [HPe.out]
                     unfold putR
                     split <;> rfl
                    case measure=>simp [intOf];omega
                 · have HPe:Hid (pick ((q:Int)) (zs.take (t+1))=pick ((q:Int)) (zs.take t)):=hid (by rw [HPt.out,if_neg heq])
                   have de:(r0 == ((q:Int):Int))=false:=by simp [heq]
                   clear heq HPt
                   go_wp2
                   go_roundw
                   case rel=>exact ⟨t+1,by omega,by go_num,by rw [HPe.out],by rw [HPe.out];exact HL4.out,HR4.out,HO4.out,HB4.out⟩
                   case measure=>simp [intOf];omega
               · have e1:t=zs.length:=by omega
                 subst e1
                 rw [List.take_length] at HL4 ⊢
                 rw [HPk.out] at HL4 ⊢
                 clear hlt3
                 cases hvl:val g (l 1) o e x (l 4) env ds vs (l 0) (m:Int) with
                 | none =>
                  have eOK:OK=false:=by rw [← HOK.out];exact ok_none hlt2 hvl
                  subst eOK
                  obtain ⟨-,hBw⟩:=HK.out _ HB4.out
                  have HBw:=hid hBw
                  rw [hvl] at HL4
                  clear hBw hvl
                  simp only [Option.isSome_none]
                  go_wp2
                  go_ret2
                  first
                   | exact ⟨⟨_,rfl⟩,HBw.out⟩
                   | exact ⟨_,rfl,fun h=>(by cases h),HBw.out⟩
                 | some rr =>
                  have HS4:=hid (HSt.out.put hlt2 hvl HNx.out)
                  rw [hvl] at HL4
                  clear hvl
                  simp only [Option.isSome_some]
                  go_wp2
                  go_roundw
                  case rel =>
                   refine ⟨m+1,by omega,by go_num,put D m,putR rs m rr,HS4.out,fun j m' hj hm' hc'=>?_,fun j hj hcj=>?_,HL4.out,HR4.out,HB4.out⟩
                   · unfold put
                     split
                     · rfl
                     · exact HDn.out j m' hj hm' hc'
                   · unfold put
                     split
                     · rfl
                     · exact HDm.out j (by omega) hcj
                  case measure=>simp [intOf];omega
           · have g0:decide ((0:Int)≤v)=false:=decide_eq_false h0
             have HNx:Hid (0≤zAt vs m→D (zAt vs m).toNat=true):=hid (fun h=>by rw [HVe.out] at h;exact absurd h h0)
             have HCM:Hid (∃ M',cnt vs M' (m:Int)=true):=hid ⟨1,cnt_succ (by omega) (by rw [Int.toNat_natCast,HVe.out];exact decide_eq_true (by omega))⟩
             by_cases h3:v = -3
             · subst h3
               have HVal:Hid (val g (l 1) o e x (l 4) env ds vs (l 0) (m:Int)=some noRt):=hid (by
                obtain ⟨M',hM'⟩:=HCM.out
                rw [← HSt.out.by h4 HV.out hlt2 hM' HNx.out,HVe.out]
                unfold byVia openB
                simp)
               have HRn:Hid (rs m=noRt):=hid (HSt.out.rest m hlt2 HDm1.out)
               clear h0
               go_wp2
               go_roundw
               case rel =>
                refine ⟨m+1,by omega,by go_num,put D m,putR rs m noRt,HSt.out.put hlt2 HVal.out HNx.out,fun j m' hj hm' hc'=>?_,fun j hj hcj=>?_,laid_same (laid_keep HL.out (Below.heap_setCell _ _ _ _ hMN)) (fun i hi=>?_),(HRo.out.set m _).congr (fun j hj=>?_),HSet.out _ _ _ HBq.out⟩
                · unfold put
                  split
                  · rfl
                  · exact HDn.out j m' hj hm' hc'
                · unfold put
                  split
                  · rfl
                  · exact HDm.out j (by omega) hcj
                · unfold putR
                  split
                  · next e1=>subst e1;exact HRn.out
                  · rfl
                · unfold put
                  split <;> rfl
               case measure=>simp [intOf];omega
             · have hv2 : -2≤v:=by omega
               have hv0:v<0:=by omega
               clear h0
               have d3:((v:Int) == -3)=false:=by first|(simp;done)|(simp;omega)
               have HV2:Hid (-2≤(v:Int)∧(v:Int)<(l 0:Int)):=hid ⟨by omega,by omega⟩
               go_wp2_with fail
               obtain ⟨W1,hW1⟩:∃ W1,wr.setCell ⟨M,m,none⟩ (.bool true)=W1:=⟨_,rfl⟩
               have HR1:Hid (W1.rowIs M 4 (l 0) (fun i=>.bool (put D m i))):=hid (by rw [← hW1];exact (HRo.out.set m _).congr (fun j hj=>by unfold put;split <;> rfl))
               have HL1:Hid (RtLaid W1 N cap (l 0) rs):=hid (by rw [← hW1];exact laid_keep HL.out (Below.heap_setCell _ _ _ _ hMN))
               have HBq1:Hid (Below w1.heap.size w1 W1):=hid (by rw [← hW1];exact HSet.out _ _ _ HBq.out)
               obtain ⟨-,hBw1⟩:=HK.out _ HBq1.out
               have hz1N:N<W1.heap.size:=by obtain ⟨ff,hff,-⟩:=HL1.out.row;exact hff.lt
               have hz1M:M<W1.heap.size:=HR1.out.lt
               rw [hW1]
               refine (HCa.out W1 rs m N cap hBw1 (laid_row HL1.out HCap.out.1 (by unfold maxLen;omega)) (fun i hi=>(HBd.out i hi).1.2) (fun i hi=>by have:=HBd.out i hi;omega)).mono ?_
               rintro e' w3 ⟨vl,rfl,hol,hb3⟩
               have HPk:Hid (pick (v) (candL g (l 1) o e x (l 4) env ds rs (l 0) (m:Int))=val g (l 1) o e x (l 4) env ds vs (l 0) (m:Int)):=hid (by
                obtain ⟨M',hM'⟩:=HCM.out
                rw [← HSt.out.by h4 HV.out hlt2 hM' HNx.out,HVe.out]
                exact pick_cand h4 (fun i hi=>(HBd.out i hi).1.2) HEn.out HV2.out.1 HV2.out.2)
               obtain ⟨zs,hzs⟩:∃ zs,candL g (l 1) o e x (l 4) env ds rs (l 0) (m:Int)=zs:=⟨_,rfl⟩
               rw [hzs] at hol HPk
               obtain ⟨av,cv,rfl,hzr⟩:=rts_form hol
               have hzm:=hzr.most
               unfold maxLen at hzm
               have HL3:=hid (HL1.out.below hb3)
               have HR3:=hid (HR1.out.of_block (hb3.block _ hz1M))
               have HBq3:=hid (HBq1.out.trans (hb3.mono HBq1.out.size))
               have HO3:=hid hol
               have HRn:Hid (rs m=noRt):=hid (HSt.out.rest m hlt2 HDm1.out)
               clear hW1 hBw1 hol hb3 hzs hzr HL HRo HBq HBw HL1 HR1 HBq1 cm zm q0 q1 q2 q3 q4 q5
               go_wp2
               go_loopw [18,16] (fun i y w4=>∃ t:Nat,t≤zs.length∧i=.int .i64 t∧y=.bool (pick (v) (zs.take t)).isSome∧RtLaid w4 N cap (l 0) (putR rs m ((pick (v) (zs.take t)).getD noRt))∧w4.rowIs M 4 (l 0) (fun i=>.bool (put D m i))∧OwnRts W1.heap.size w4 (.slice av zs.length cv) zs∧Below w1.heap.size w1 w4) (fun i _ _=>zs.length - (intOf i).toNat)
               case atStart =>
                refine ⟨0,Nat.zero_le _,rfl,rfl,laid_same HL3.out (fun i hi=>?_),HR3.out,HO3.out,HBq3.out⟩
                unfold putR
                split
                · next e1=>subst e1;exact HRn.out
                · rfl
               case round =>
                clear HL3 HR3 HBq3 HO3
                obtain ⟨t,ht,rfl,rfl,hl4,hr4,ho4,hb4⟩:=hrel
                have HL4:=hid hl4
                have HR4:=hid hr4
                have HO4:=hid ho4
                have HB4:=hid hb4
                clear hl4 hr4 ho4 hb4
                by_cases hlt3:t<zs.length
                · obtain ⟨lb,lo,hav,c0,c1,c2,c3⟩:=(rts_row HO4.out).at4 hlt3
                  have HPt:=hid (pick_take (v) zs t hlt3)
                  have hlbN:¬ lb=N∧¬ lb=M:=by
                   have:=rts_lt HO4.out (show Value.ownBlock _=some lb by rw [hav];rfl)
                   omega
                  have HLb:=hid hlbN
                  have HNe:Hid (∀ g,Value.ownBlock (.slice av zs.length cv)=some g→some g≠some N):=hid (fun g hg e=>by injection e with e;have:=rts_lt HO4.out hg;omega)
                  subst hav
                  obtain ⟨⟨r0,r1,r2,r3⟩,hrr⟩:∃ r,rF zs t=r:=⟨_,rfl⟩
                  rw [hrr] at c0 c1 c2 c3 HPt
                  dsimp only at c0 c1 c2 c3
                  clear hrr hlbN
                  by_cases heq:r0=(v)
                  · have HPe:Hid (pick (v) (zs.take (t+1))=some ⟨r0,r1,r2,r3⟩):=hid (by rw [HPt.out,if_pos heq])
                    have de:(r0 == (v:Int))=true:=by simp [heq]
                    obtain ⟨ff,hff,-⟩:=HL4.out.row
                    have g0:=hff.cell (i:=m*4) (by omega)
                    have z0:=hff.frozen (m*4)
                    have g1:=hff.cell (i:=m*4+1) (by omega)
                    have z1:=hff.frozen (m*4+1)
                    have g2:=hff.cell (i:=m*4+2) (by omega)
                    have z2:=hff.frozen (m*4+2)
                    have g3:=hff.cell (i:=m*4+3) (by omega)
                    have z3:=hff.frozen (m*4+3)
                    have HLs:=hid (laid_put (k:=m) HL4.out ⟨r0,r1,r2,r3⟩)
                    clear hff heq HPt
                    go_wp2
                    all_goals
                     go_roundw
                     case rel =>
                      refine ⟨t+1,by omega,by go_num,by rw [HPe.out];rfl,laid_same HLs.out (fun i hi=>?_),((((HR4.out.of_block (Below.heap_setCell _ ⟨N,m*4,none⟩ _ _ (Ne.symm hMN))).of_block (Below.heap_setCell _ ⟨N,m*4+1,none⟩ _ _ (Ne.symm hMN))).of_block (Below.heap_setCell _ ⟨N,m*4+2,none⟩ _ _ (Ne.symm hMN))).of_block (Below.heap_setCell _ ⟨N,m*4+3,none⟩ _ _ (Ne.symm hMN))),rts_keeps HO4.out (grown_set (grown_set (grown_set (grown_set (grown_refl _ _))))) HNe.out,HSetN.out _ _ _ (HSetN.out _ _ _ (HSetN.out _ _ _ (HSetN.out _ _ _ HB4.out)))⟩
                      rw [HPe.out]
                      unfold putR
                      split <;> rfl
                     case measure=>simp [intOf];omega
                  · have HPe:Hid (pick (v) (zs.take (t+1))=pick (v) (zs.take t)):=hid (by rw [HPt.out,if_neg heq])
                    have de:(r0 == (v:Int))=false:=by simp [heq]
                    clear heq HPt
                    go_wp2
                    go_roundw
                    case rel=>exact ⟨t+1,by omega,by go_num,by rw [HPe.out],by rw [HPe.out];exact HL4.out,HR4.out,HO4.out,HB4.out⟩
                    case measure=>simp [intOf];omega
                · have e1:t=zs.length:=by omega
                  subst e1
                  rw [List.take_length] at HL4 ⊢
                  rw [HPk.out] at HL4 ⊢
                  clear hlt3
                  cases hvl:val g (l 1) o e x (l 4) env ds vs (l 0) (m:Int) with
                  | none =>
                   have eOK:OK=false:=by rw [← HOK.out];exact ok_none hlt2 hvl
                   subst eOK
                   obtain ⟨-,hBw⟩:=HK.out _ HB4.out
                   have HBw:=hid hBw
                   rw [hvl] at HL4
                   clear hBw hvl
                   simp only [Option.isSome_none]
                   go_wp2
                   go_ret2
                   first
                    | exact ⟨⟨_,rfl⟩,HBw.out⟩
                    | exact ⟨_,rfl,fun h=>(by cases h),HBw.out⟩
                  | some rr =>
                   have HS4:=hid (HSt.out.put hlt2 hvl HNx.out)
                   rw [hvl] at HL4
                   clear hvl
                   simp only [Option.isSome_some]
                   go_wp2
                   go_roundw
                   case rel =>
                    refine ⟨m+1,by omega,by go_num,put D m,putR rs m rr,HS4.out,fun j m' hj hm' hc'=>?_,fun j hj hcj=>?_,HL4.out,HR4.out,HB4.out⟩
                    · unfold put
                      split
                      · rfl
                      · exact HDn.out j m' hj hm' hc'
                    · unfold put
                      split
                      · rfl
                      · exact HDm.out j (by omega) hcj
                   case measure=>simp [intOf];omega
        · have e1:m=l 0:=by omega
          subst e1
          clear hlt2 q0 q1 q2 q3 q4 q5
          go_wp2
          go_roundw
          case rel =>
           refine ⟨r+1,by have:=HRl.out;omega,by go_num,D,rs,HSt.out,fun j m hj hm hc'=>?_,HL.out,HRo.out,HBq.out⟩
           by_cases e1:m=r+1
           · subst e1;exact HDm.out j hj hc'
           · exact HDn.out j m hj (by omega) hc'
          case measure=>have:=HRl.out;simp [intOf];omega
     · have dr:decide ((r:Int)≤(l 0:Int))=false:=decide_eq_false (by omega)
       have e1:r=l 0+1:=by omega
       have HDa:Hid (∀ j m,j<l 0→m≤l 0→cnt vs m (j:Int)=true→D j=true):=hid (fun j m hj hm hc'=>HDn.out j m hj (by omega) hc')
       have dr':decide (r≤l 0)=false:=decide_eq_false hlt
       have hnr:l 0<r:=by omega
       clear hlt e1 hr HDn
       go_wp2
       go_loopw [19] (fun i wq=>∃ m:Nat,m≤l 0∧i=.int .i64 m∧wq=wr∧∀ j,j<m→D j=true) (fun i _=>l 0 - (intOf i).toNat)
       case atStart=>exact ⟨0,Nat.zero_le _,rfl,rfl,fun j hj=>absurd hj (Nat.not_lt_zero _)⟩
       case round =>
        obtain ⟨m,hm,rfl,hwq,hall⟩:=hrel
        have hwq:=hwq.symm
        subst hwq
        have HAl:=hid hall
        clear hall
        by_cases hlt2:m<l 0
        · have cm:=HRo.out.cell (i:=m) hlt2
          cases hDm:D m with
          | true =>
           rw [hDm] at cm
           have HDm:=hid hDm
           clear hDm
           go_wp2
           go_roundw
           case rel =>
            refine ⟨m+1,by omega,by go_num,by first|trivial|rfl,fun j hj=>?_⟩
            by_cases e1:j=m
            · subst e1;exact HDm.out
            · exact HAl.out j (by omega)
           case measure=>simp [intOf];omega
          | false =>
           rw [hDm] at cm
           have eOK:OK=false:=by
            rw [← HOK.out]
            refine ok_none hlt2 (val_none (fun m' hm'=>?_) (by omega))
            cases hc':cnt vs m' (m:Int) with
            | false=>rfl
            | true =>
             have:=HDa.out m m' hlt2 hm' hc'
             rw [hDm] at this
             cases this
           subst eOK
           clear hDm
           obtain ⟨-,hBw⟩:=HK.out _ HBq.out
           have HBw:=hid hBw
           clear hBw
           go_wp2
           go_ret2
           first
            | exact ⟨⟨_,rfl⟩,HBw.out⟩
            | exact ⟨_,rfl,fun h=>(by cases h),HBw.out⟩
        · have e1:m=l 0:=by omega
          subst e1
          obtain ⟨hok,hrs⟩:=ok_all HSt.out HAl.out
          have eOK:OK=true:=by rw [← HOK.out];exact hok
          have HLn:Hid (RtLaid wr N cap (l 0) VR):=hid (laid_same HL.out (fun i hi=>by rw [hrs i hi,HVR.out]))
          subst eOK
          obtain ⟨-,hBw⟩:=HK.out _ HBq.out
          have HBw:=hid hBw
          clear hBw hok hrs hlt2
          go_wp2
          go_ret2
          first
           | exact ⟨own_laid HLn.out HCap.out.1 HCap.out.2 (by omega),HBw.out⟩
           | exact ⟨_,rfl,own_laid HLn.out HCap.out.1 HCap.out.2 (by omega),HBw.out⟩
           | exact ⟨_,rfl,fun _=>own_laid HLn.out HCap.out.1 HCap.out.2 (by omega),HBw.out⟩
end Go.Proofs.YthompjbplddkgaaGreatDoor.rofSpec
