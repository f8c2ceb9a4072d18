import Derived.Test.YtcfnohiboknfoaaGreatPart19
import Derived.Test.YtcfnohiboknfoaaGreatPart20
import Derived.BigRegion
set_option linter.unusedVariables false
namespace Go.Proofs.YtcfnohiboknfoaaGreat.bestAll
open Go.RowKit Go.Deep Go base netSem routeRow nbSem candSem candImp hopSem intsOwn hopMake hopBetween sceneSem sceneOpen sceneBy candSpec sceneCand noRts rtsRow bestFace
theorem noRoutes_impl (n:Nat) (hn:n=1∨n=2∨n=3∨n=4) (w:World) :
  Calls Tryz.prog 65 #[.int .i64 (n:Int)] w fun e w'=>∃ N,e=.returned (.slice (some ⟨N,0,none⟩) n n)∧w.heap.size≤N∧RtLaid w' N n n noRs∧Below w.heap.size w w' := by
 have HN:=hid hn
 clear hn
 go_enter Tryz.func65,Tryz.ntmps65
 go_wp2_with fail
 refine (routesImpl.none_impl _).mono ?_
 rintro e w1 ⟨rfl,hb1⟩
 have HB1:=hid hb1
 clear hb1
 go_wp2_with fail
 refine (repeat_impl n HN.out w1.heap.size _ (fun j hj=>?_)).mono ?_
 · match j,hj with
   | 0,_=>simp [go_sem,rc,noRt]
   | 1,_=>simp [go_sem,rc,noRt]
   | 2,_=>simp [go_sem,rc,noRt]
   | 3,_=>simp [go_sem,rc,noRt]
   | j+4,hj=>exact absurd hj (by omega)
 rintro e w2 ⟨N,rfl,hN,hl,hb2⟩
 have HB2:=hid (HB1.out.trans (((show Below w1.heap.size w1 _ from Bl).trans (hb2.mono (by simp))).mono HB1.out.size))
 have hN':w.heap.size≤N:=by have:=HB1.out.size;simp at hN;omega
 have HL:=hid hl
 clear hb2 hl hN
 go_wp2
 go_ret
 exact ⟨N,rfl,hN',HL.out,HB2.out⟩
variable {sb b B : Nat} {F : Nat→Value} {p : Nat→Option Addr} {l c : Nat→Nat} {g : R} {o e : List Int} {x : R} {ea da : Option Addr} {el ec dl dc : Nat} {env : List Int} {ds : List Bool} {w W W2 : World}
theorem laid_end {N m:Nat} {f:Nat→Value} (h0:Sc sb b B F p l c g o e x ea da el ec dl dc env ds w) (hbw:b<w.heap.size) (h:Sc sb b B F p l c g o e x ea da el ec dl dc env ds W) (hg:w.grownBy W (some b))
  (hN:w.heap.size≤N) (hx:W.rowIs N 106 m f) (h2:W.grownBy W2 (some N)):Sc sb b B F p l c g o e x ea da el ec dl dc env ds W2∧w.grownBy W2 (some b):=by
 have hz:=hg.size
 have hg2:w.grownBy W2 (some b):=⟨h2.os.trans hg.os,h2.tape.trans hg.tape,h2.output.trans hg.output,Nat.le_trans hg.size h2.size,fun j hj hne=>(h2.block j (by omega) (fun e=>by injection e with e;omega)).trans (hg.block j hj hne)⟩
 have hkb:W2.heap[b]? = W.heap[b]?:=h2.block b (by omega) (fun e=>by injection e with e;omega)
 refine ⟨h0.step hg2 ?_,hg2⟩
 rcases h.ready with ⟨h1,h2,h3,h4⟩|⟨V,F',hm⟩
 · exact .inl ⟨h1.of_block hkb,h2,h3,h4⟩
 refine .inr ⟨V,F',hm.row.of_block hkb,hm.net,hm.done,hm.hops,fun p q hp hq=>own_keep (hm.own p q hp hq) fun k hk=>h2.block k (World.ownsRow.lt (hm.own p q hp hq) k hk).2 fun ek=>?_⟩
 rcases (hm.own p q hp hq).2 with ⟨e1,_⟩|⟨k',cap,cur,e1,_,hh,_⟩
 · rw [e1] at hk
   simp [Value.ownBlock] at hk
 rw [e1] at hk
 simp [Value.ownBlock] at hk
 injection ek with ek
 obtain ⟨cur2,hh2,_⟩:=hx
 rw [hk,ek,hh2] at hh
 injection hh with hh
 injection hh with _ hh3 _
 exact absurd hh3 (by decide)
def chosen (bs : Rs) (k : Nat) : Rs := fun i=>if i<k then bs i else noRt
def bests (g : R) (nl : Nat) (o e : List Int) (x : R) (nx : Nat) (env : List Int) (ds : List Bool) (rs : Rs) (n : Nat) : Rs := fun r=>bst (lst g nl o e x nx env ds rs n (r : Int) (n+2))
theorem gtrans {w w1 w2:World} {row:Option Nat} (h:w.grownBy w1 row) (h':w1.grownBy w2 row):w.grownBy w2 row :=
 ⟨h'.os.trans h.os,h'.tape.trans h.tape,h'.output.trans h.output,Nat.le_trans h.size h'.size,fun j hj hne=>(h'.block j (Nat.lt_of_lt_of_le hj h.size) hne).trans (h.block j hj hne)⟩
theorem laid_congr {w:World} {N len k:Nat} {g g':Rs} (h:RtLaid w N len k g) (he:∀ i,i<k→g i=g' i):RtLaid w N len k g' := by
 obtain ⟨f,hf,hc⟩:=h.row
 exact ⟨f,hf,fun i hi j hj=>by rw [← he i hi];exact hc i hi j hj⟩
theorem laid_block {w w':World} {N len k:Nat} {g:Rs} (h:RtLaid w N len k g) (hb:w'.heap[N]? = w.heap[N]?):RtLaid w' N len k g:=by
 obtain ⟨f,hf,hc⟩:=h.row
 exact ⟨f,hf.of_block hb,hc⟩
theorem laid_set {w:World} {N n k:Nat} {g:Rs} (h:RtLaid w N n n g) (r:Rt) :
  RtLaid ((((w.setCell ⟨N,k*4,none⟩ (.int .i64 r.via)).setCell ⟨N,k*4+1,none⟩ (.int .i64 r.pref)).setCell ⟨N,k*4+2,none⟩ (.int .i64 r.len)).setCell ⟨N,k*4+3,none⟩ (.bool r.mark)) N n n (fun i=>if i=k then r else g i):=by
 obtain ⟨f,hf,hc⟩:=h.row
 refine ⟨_,((((hf.set (k*4) _).set (k*4+1) _).set (k*4+2) _).set (k*4+3) _),fun i hi j hj=>?_⟩
 by_cases e:i=k
 · subst e
   rw [if_pos rfl]
   match j,hj with
   | 0,_=>rw [if_neg (by omega),if_neg (by omega),if_neg (by omega),if_pos (by omega)];rfl
   | 1,_=>rw [if_neg (by omega),if_neg (by omega),if_pos rfl];rfl
   | 2,_=>rw [if_neg (by omega),if_pos rfl];rfl
   | 3,_=>rw [if_pos rfl];rfl
   | j+4,hj=>exact absurd hj (by omega)
 rw [if_neg (by omega),if_neg (by omega),if_neg (by omega),if_neg (by omega),if_neg e]
 exact hc i hi j hj
set_option maxHeartbeats 6400000 in
set_option maxRecDepth 8000 in
theorem best_all (ra:Option Addr) (n cr:Nat) (rs:Rs) (h:Sc sb b B F p l c g o e x ea da el ec dl dc env ds w) (hgd:sceneBy.Good n l g x rs) (hrt:RtRow w ra n rs) (hna:∀ a o,ra=some ⟨a,o,none⟩→a≠b) (hn1:1≤n) :
  Calls Tryz.prog 70 #[.pointer (some ⟨sb,0,none⟩),.slice ra n cr] w fun e' w'=>∃ N,e' = .returned (.slice (some ⟨N,0,none⟩) n n)∧w.heap.size≤N∧RtLaid w' N n n (bests g (l 1) o e x (l 4) env ds rs n)∧Sc sb b B F p l c g o e x ea da el ec dl dc env ds w'∧w.grownBy w' (some b):=by
 have HS:=hid h
 have HGd:=hid hgd
 have HT:=hid hrt
 have HNa:=hid hna
 have hn4:=hgd.few
 have hbw:b<w.heap.size:=by rcases h.ready with ⟨h1,_⟩|⟨V,F',hm⟩;exact h1.lt;exact hm.row.lt
 have HRt:Hid (∀ W:World,w.grownBy W (some b)→RtRow W ra n rs):=hid (fun W hg=>⟨HT.out.most,fun i hi=>by
  obtain ⟨q,off,e,hc⟩:=HT.out.cell i hi
  exact ⟨q,off,e,fun j hj=>grown_cell hg q _ _ (HNa.out q off e) (hc j hj)⟩⟩)
 clear h hgd hrt hna
 obtain ⟨bs,hbs⟩:∃ bs,bests g (l 1) o e x (l 4) env ds rs n=bs:=⟨_,rfl⟩
 rw [hbs]
 have HBs:Hid (∀ r:Nat,bst (lst g (l 1) o e x (l 4) env ds rs n (r:Int) (n+2))=bs r):=fun r=>by rw [← hbs];rfl
 clear hbs
 go_enter Tryz.func70,Tryz.ntmps70
 go_wp2_with fail
 refine (noRoutes_impl n (by omega) _).mono ?_
 rintro e' w1 ⟨N,rfl,hN,hl1,hb1⟩
 have HL1:=hid hl1
 have HB1:=hid hb1
 clear hl1 hb1
 have hNb:N≠b:=by omega
 go_wp2_with fail
 go_loopw [13] (fun i wr=>∃ k:Nat,k≤n∧i=.int .i64 k∧RtLaid wr N n n (chosen bs k)∧Sc sb b B F p l c g o e x ea da el ec dl dc env ds wr∧w.grownBy wr (some b)∧N<wr.heap.size) (fun i _=>n - (intOf i).toNat)
 case atStart =>
  exact ⟨0,Nat.zero_le _,rfl,laid_congr HL1.out (fun i hi=>by simp [chosen,noRs]),HS.out.below HB1.out,grown_of_below HB1.out _,by obtain ⟨f,hf,-⟩:=HL1.out.row;exact hf.lt⟩
 clear HL1 HB1
 obtain ⟨k,hk,rfl,hl,hs,hg,hNw⟩:=hrel
 have HL:=hid hl
 have HSr:=hid hs
 have HG:=hid hg
 clear hl hs hg
 by_cases hlt:k<n
 · go_wp2_with fail
   refine (cand_impl sb b B F p l c g o e x ea da el ec dl dc env ds ra n cr rs k wr HSr.out HGd.out (HRt.out wr HG.out) HNa.out hlt).mono ?_
   rintro e' w2 ⟨v,rfl,ho,hs2,hg2⟩
   have HB2:=hid (HBs.out k)
   obtain ⟨zs,hzs⟩:∃ zs,lst g (l 1) o e x (l 4) env ds rs n (k:Int) (n+2)=zs:=⟨_,rfl⟩
   rw [hzs] at ho HB2
   obtain ⟨av,cv,rfl,hrow⟩:=rts_form ho
   have HRow:=hid hrow
   have hlen:=hrow.most
   unfold maxLen at hlen
   have HS2:=hid hs2
   have HG2:=hid (gtrans HG.out hg2)
   have HL2:=hid (laid_block HL.out (hg2.block N hNw (fun e=>by injection e with e;exact hNb e)))
   have hN2:N<w2.heap.size:=Nat.lt_of_lt_of_le hNw hg2.size
   clear ho hrow hs2 hg2 hzs
   by_cases hz:zs.length=0
   · have HLn : Hid (RtLaid w2 N n n (chosen bs (k + 1))) := laid_congr HL2.out (fun i hi => by
      unfold chosen
      by_cases e1:i<k
      · rw [if_pos e1,if_pos (by omega)]
      rw [if_neg e1]
      by_cases e2:i=k
      · subst e2
        rw [if_pos (by omega),← HB2.out,bst_nil hz]
      rw [if_neg (by omega)])
     have dz:decide ((0:Int)<(zs.length:Int))=false:=decide_eq_false (by omega)
     have dz':decide (0<zs.length)=false:=decide_eq_false (by omega)
     go_wp2
     go_roundw
     case rel=>exact ⟨k+1,by omega,by go_num,HLn.out,HS2.out,HG2.out,hN2⟩
     case measure=>simp [intOf];omega
   have hz':0<zs.length:=by omega
   have HB3:Hid (bestTo (rF zs) (zs.length - 1)=bs k):=by show _=_;rw [← HB2.out,bst_some hz']
   go_wp2_with fail
   refine (min_impl av zs.length cv (rF zs) _ HRow.out hz').mono ?_
   rintro e' w3 ⟨rfl,hb3⟩
   rw [HB3.out]
   have HS3:=hid (HS2.out.below hb3)
   have HG3:=hid (gtrans HG2.out (grown_of_below hb3 _))
   have HL3:=hid (HL2.out.below hb3)
   have hN3:N<w3.heap.size:=Nat.lt_of_lt_of_le hN2 hb3.size
   obtain ⟨f,hf,-⟩:=HL3.out.row
   have HF:=hid hf
   have g0:=hf.cell (i:=k*4) (by omega)
   have z0:=hf.frozen (k*4)
   have g1:=hf.cell (i:=k*4+1) (by omega)
   have z1:=hf.frozen (k*4+1)
   have g2:=hf.cell (i:=k*4+2) (by omega)
   have z2:=hf.frozen (k*4+2)
   have g3:=hf.cell (i:=k*4+3) (by omega)
   have z3:=hf.frozen (k*4+3)
   have HLs:=hid (laid_set (k:=k) HL3.out (bs k))
   clear hf hb3 HS2 HL2 HG2
   unfold rtV
   obtain ⟨r,hr⟩:∃ r,bs k=r:=⟨_,rfl⟩
   have HR:=hid hr
   rw [hr] at HLs ⊢
   clear hr
   go_wp2
   all_goals
    go_roundw
    case rel =>
     obtain ⟨h5,h6⟩:=laid_end HS.out hbw HS3.out HG3.out hN HF.out (grown_set (k:=k*4+3) (v:=.bool r.mark) (grown_set (k:=k*4+2) (v:=.int .i64 r.len) (grown_set (k:=k*4+1) (v:=.int .i64 r.pref) (grown_set (k:=k*4) (v:=.int .i64 r.via) (grown_refl w3 (some N))))))
     exact ⟨k+1,by omega,by go_num,laid_congr HLs.out (fun i hi=>by
      unfold chosen
      by_cases e1:i=k
      · subst e1
        rw [if_pos rfl,if_pos (by omega),HR.out]
      rw [if_neg e1]
      by_cases e2:i<k
      · rw [if_pos e2,if_pos (by omega)]
      rw [if_neg e2,if_neg (by omega)]),h5,h6,by simpa using hN3⟩
    case measure=>simp [intOf];omega
 have e1:k=n:=by omega
 subst e1
 have HLn:Hid (RtLaid wr N k k bs):=laid_congr HL.out (fun i hi=>by unfold chosen;rw [if_pos hi])
 go_wp2
 go_ret
 exact ⟨N,rfl,hN,HLn.out,HSr.out,HG.out⟩
end Go.Proofs.YtcfnohiboknfoaaGreat.bestAll
namespace Go.Proofs.YtcfnohiboknfoaaGreat.stabImpl
open Go.RowKit Go.Deep Go base netSem routeRow nbSem candSem candImp hopSem intsOwn hopMake hopBetween sceneSem sceneOpen sceneBy candSpec sceneCand noRts rtsRow bestFace bestAll
def eqR (a b : Rt) : Bool := a.via == b.via && a.pref == b.pref && a.len == b.len && a.mark == b.mark
theorem eqR_iff {a b : Rt} : eqR a b=true ↔ a=b := by
 cases a;cases b
 simp [eqR,and_assoc]
theorem eqR_no {a b:Rt} (h:a≠b):eqR a b=false:=by
 cases e:eqR a b with
 | false=>rfl
 | true=>exact absurd (eqR_iff.1 e) h
def sameTo (g g' : Rs) (n : Nat) : Bool := allN (fun i=>eqR (g i) (g' i)) n
theorem same_yes {g g':Rs} {n:Nat} (h:∀ i,i<n→g i=g' i):sameTo g g' n=true:=allN_iff.2 fun i hi=>eqR_iff.2 (h i hi)
theorem same_no {g g':Rs} {n k:Nat} (hk:k<n) (h:g k≠g' k):sameTo g g' n=false:=allN_false hk (eqR_no h)
set_option maxHeartbeats 1600000 in
set_option maxRecDepth 8000 in
theorem equal_rts (a a':Option Addr) (n c c':Nat) (g g':Rs) (w:World) (hr:RtRow w a n g) (hr':RtRow w a' n g') :
  Calls Tryz.prog 69 #[.slice a n c,.slice a' n c'] w fun e w'=>e=.returned (.bool (sameTo g g' n))∧Below w.heap.size w w' := by
 have HR:=hid hr
 have HR' := hid hr'
 have hm:=hr.most
 unfold maxLen at hm
 clear hr hr'
 have hnn:((n:Int) != (n:Int))=false:=by simp
 go_enter Tryz.func69,Tryz.ntmps69
 go_wp2
 go_loopw [13] (fun i wr=>∃ k:Nat,k≤n∧i=.int .i64 k∧(∀ j,j<k→g j=g' j)∧Below w.heap.size w wr) (fun i _=>n - (intOf i).toNat)
 case atStart=>exact ⟨0,Nat.zero_le _,rfl,fun j hj=>absurd hj (Nat.not_lt_zero _),Bl⟩
 obtain ⟨k,hk,rfl,ha,hbel⟩:=hrel
 have HA:=hid ha
 have HB:=hid hbel
 clear ha
 by_cases hlt:k<n
 · obtain ⟨b,off,rfl,c0,c1,c2,c3⟩:=(HR.out.below hbel).at4 hlt
   obtain ⟨b',off',rfl,d0,d1,d2,d3⟩:=(HR'.out.below hbel).at4 hlt
   clear hbel
   have HQ:Hid ((g k).via=(g' k).via→(g k).pref=(g' k).pref→(g k).len=(g' k).len→(g k).mark=(g' k).mark→g k=g' k):=fun h1 h2 h3 h4=>by
    revert h1 h2 h3 h4
    cases g k;cases g' k
    simp
    intros
    simp_all
   have HN:Hid (∀ r r',g k=r→g' k=r'→r≠r'→sameTo g g' n=false):=fun r r' e1 e2 h=>same_no hlt (by rw [e1,e2];exact h)
   obtain ⟨x,hx⟩:∃ r,g k=r:=⟨_,rfl⟩
   obtain ⟨y,hy⟩:∃ r,g' k=r:=⟨_,rfl⟩
   have HX:=hid hx
   have HY:=hid hy
   rw [hx] at c0 c1 c2 c3
   rw [hy] at d0 d1 d2 d3
   clear hx hy HQ
   obtain ⟨x0,x1,x2,x3⟩:=x
   obtain ⟨y0,y1,y2,y3⟩:=y
   dsimp only at c0 c1 c2 c3 d0 d1 d2 d3
   by_cases e0:x0=y0
   · subst e0
     by_cases e1:x1=y1
     · subst e1
       by_cases e2:x2=y2
       · subst e2
         by_cases e3:x3=y3
         · subst e3
           go_wp2
           go_region
           all_goals
            go_wp2
            go_roundw
            case rel =>
             refine ⟨k+1,by omega,by go_num,fun j hj=>?_,HB.out.drew⟩
             by_cases e:j=k
             · subst e;rw [HX.out,HY.out]
             exact HA.out j (by omega)
            case measure=>simp [intOf];omega
         have f:(x3 == y3)=false:=by simp [e3]
         have HF:Hid (sameTo g g' n=false):=HN.out _ _ HX.out HY.out (fun h=>e3 (by injection h))
         clear e3
         go_wp2
         go_region
         all_goals
          go_wp2
          go_ret
          exact ⟨ret_bool HF.out.symm,HB.out.drew⟩
       have f:(x2 == y2)=false:=by simp [e2]
       have HF:Hid (sameTo g g' n=false):=HN.out _ _ HX.out HY.out (fun h=>e2 (by injection h))
       clear e2
       go_wp2
       go_region
       all_goals
        go_wp2
        go_ret
        exact ⟨ret_bool HF.out.symm,HB.out.drew⟩
     have f:(x1 == y1)=false:=by simp [e1]
     have HF:Hid (sameTo g g' n=false):=HN.out _ _ HX.out HY.out (fun h=>e1 (by injection h))
     clear e1
     go_wp2
     go_region
     all_goals
      go_wp2
      go_ret
      exact ⟨ret_bool HF.out.symm,HB.out.drew⟩
   have f:(x0 == y0)=false:=by simp [e0]
   have HF:Hid (sameTo g g' n=false):=HN.out _ _ HX.out HY.out (fun h=>e0 (by injection h))
   clear e0
   go_wp2
   go_region
   all_goals
    go_wp2
    go_ret
    exact ⟨ret_bool HF.out.symm,HB.out.drew⟩
 have e:k=n:=by omega
 subst e
 clear hbel
 go_wp2
 go_ret
 exact ⟨ret_bool (same_yes HA.out).symm,HB.out⟩
set_option maxHeartbeats 1600000 in
theorem stable_impl {sb b B:Nat} {F:Nat→Value} {p:Nat→Option Addr} {l c:Nat→Nat} {g:R} {o e:List Int} {x:R} {ea da:Option Addr} {el ec dl dc:Nat} {env:List Int} {ds:List Bool} {w:World} (ra:Option Addr) (n cr:Nat) (rs:Rs) (h:Sc sb b B F p l c g o e x ea da el ec dl dc env ds w) (hgd:sceneBy.Good n l g x rs) (hrt:RtRow w ra n rs) (hna:∀ a o,ra=some ⟨a,o,none⟩→a≠b) (hn1:1≤n) :
  Calls Tryz.prog 34 #[.pointer (some ⟨sb,0,none⟩),.slice ra n cr] w fun e' w'=>e' = .returned (.bool (sameTo (bests g (l 1) o e x (l 4) env ds rs n) rs n))∧Sc sb b B F p l c g o e x ea da el ec dl dc env ds w'∧w.grownBy w' (some b):=by
 have HBest:=hid (best_all ra n cr rs h hgd hrt hna hn1)
 have HT:=hid hrt
 have HNa:=hid hna
 have hm:=hrt.most
 have HM:=hid hm
 have HRt:Hid (∀ W:World,w.grownBy W (some b)→RtRow W ra n rs):=hid (fun W hg=>⟨HT.out.most,fun i hi=>by
  obtain ⟨q,off,e,hc⟩:=HT.out.cell i hi
  exact ⟨q,off,e,fun j hj=>grown_cell hg q _ _ (HNa.out q off e) (hc j hj)⟩⟩)
 clear h hgd hrt hna hm HT
 generalize bests g (l 1) o e x (l 4) env ds rs n=bs at *
 go_enter Tryz.func34,Tryz.ntmps34
 go_wp2_with fail
 refine HBest.out.mono ?_
 rintro e' w1 ⟨N,rfl,hN,hl,hs,hg⟩
 have HL:=hid hl
 have HS:=hid hs
 have HG:=hid hg
 clear hl hs hg
 go_wp2_with fail
 refine (equal_rts _ ra n n cr bs rs _ (HL.out.is HM.out) (HRt.out _ HG.out)).mono ?_
 rintro e' w2 ⟨rfl,hb2⟩
 have HS2:=hid (HS.out.below hb2)
 have HG2:=hid (gtrans HG.out (grown_of_below hb2 _))
 clear hb2
 go_wp2
 go_ret
 exact ⟨rfl,HS2.out,HG2.out⟩
end Go.Proofs.YtcfnohiboknfoaaGreat.stabImpl
namespace Go.Proofs.YtcfnohiboknfoaaGreat.stabFace
open Go.RowKit Go.Deep Go base names netSem routeRow nbSem candSem candImp hopSem intsOwn hopMake hopBetween sceneSem sceneOpen sceneBy candSpec sceneCand sceneList sceneFault sceneNew sceneFace walkSem routesB netImpl noRts rtsRow bestFace bestAll stabImpl
def stabB (g : R) (nl : Nat) (o e : List Int) (x : R) (nx : Nat) (env : List Int) (ds : List Bool) (rs : Rs) (n : Nat) : Bool := sameTo (fun r : Nat=>bst (candL g nl o e x nx env ds rs n (r : Int))) rs n
theorem bests_cand {g:R} {nl:Nat} {o e:List Int} {x:R} {nx:Nat} {env:List Int} {ds:List Bool} {rs:Rs} {n:Nat} (hn:n≤4) (hv:∀ i,i<n→(rs i).via<n) (he:∀ i,0≤zAt env i):bests g nl o e x nx env ds rs n=fun r:Nat=>bst (candL g nl o e x nx env ds rs n (r:Int)):=by
 funext r
 unfold bests
 rw [lst_cand _ _ _ _ _ _ _ _ _ _ _ hn hv he]
end Go.Proofs.YtcfnohiboknfoaaGreat.stabFace
namespace Go.Proofs.YtcfnohiboknfoaaGreat.lawNets
open Go.ChangeShapes Go.WideShapes Go.ChangeAt Go.RowKit Go.Deep Go.Joins Go base args netSem netMath routeRow rtsRow candEnv stabImpl source
theorem bytes_below {w w1:World} {a:Option Addr} {len:Nat} (h:Bytes w a len) (hb:Below w.heap.size w w1):Bytes w1 a len:=fun i hi=>by
 obtain ⟨b,o,e,x,hx,hc⟩:=h i hi
 exact ⟨b,o,e,x,hx,keep hb hc⟩
theorem bytes_of_trod {H:Type} {enc:TypeId × Value→H} {P:Program} {w:World} {base:Nat} {held:Bool} {t e:TypeId} {fuel:Nat} {v:Value} {x:DataW H × List MemPlace} (ht:P.underlying t=some (.slice e)) (he:P.underlying e=some (.int .u8)) (ce:P.cellsOf e=1)
  (h:DataW.trod enc P w base (fun _=>true) held fuel t [v]=some x):∃ a len cap,v=.slice a len cap∧Bytes w a len∧len≤maxLen:=by
 rcases open_ints ht he ce h with ⟨hcs,_⟩|⟨x,l,c,zs,hcs,_,hl,hm,hz,_,hcell,hwz⟩
 · exact ⟨none,0,0,by simpa using hcs,fun i hi=>absurd hi (Nat.not_lt_zero _),Nat.zero_le _⟩
 simp only [if_true] at hz
 refine ⟨some x,l,c,by simpa using hcs,fun i hi=>?_,Nat.le_trans hl hm⟩
 obtain ⟨e1,e2⟩:=at_none (hcell 0 (by omega)) (hcell i (by omega))
 have hi':i<zs.length:=by omega
 have hw:=hwz zs[i] (List.getElem_mem hi')
 have hr:0≤zs[i]∧zs[i]<256:=by
  simp [Lit.wf,IntKind.min,IntKind.max,IntKind.bits,IntKind.signed] at hw
  omega
 obtain ⟨y,hy⟩:=Int.eq_ofNat_of_zero_le hr.1
 refine ⟨x.block,x.off,by rw [← e1],y,by omega,?_⟩
 rw [e2,List.getD_eq_getElem?_getD,List.getElem?_eq_getElem hi',Option.getD_some,hy]
def OwnBools (B : Nat) (w : World) (v : Value) (zs : List Bool) : Prop := w.ownsRow B 4 1 v zs.length (zs.map Value.bool)
theorem OwnBools.form {B:Nat} {w:World} {v:Value} {zs:List Bool} (h:OwnBools B w v zs):∃ a cap,v=.slice a zs.length cap∧BoolRow w a zs.length zs:=by
 obtain ⟨h1,h2⟩:=h
 rcases h2 with ⟨rfl,hn⟩|⟨g,cap,cur,rfl,hb,hh,hn,hm,hs,ht⟩
 · exact ⟨none,0,by rw [hn],⟨rfl,by rw [hn];exact Nat.zero_le _,fun i hi=>by omega⟩⟩
 refine ⟨some ⟨g,0,none⟩,cap,rfl,⟨rfl,Nat.le_trans hn hm,fun i hi=>⟨g,0,rfl,?_⟩⟩⟩
 have h3:cur[i]? = some (.bool (zs[i]?.getD false)):=by
  have:(cur.toList.take (zs.length*1))[i]? = (zs.map Value.bool)[i]?:=by rw [ht]
  rw [List.getElem?_take,if_pos (by omega)] at this
  rw [← Array.getElem?_toList,this,List.getElem?_map,List.getElem?_eq_getElem hi]
  rfl
 simp [World.cell?,hh,h3]
theorem net_small {l:Nat→Nat} {s:Ss} {g x f:R} {o e:List Int} (h:netB l s g o e x f=true):(1≤l 0∧l 0≤4)∧l 1≤6∧l 3≤2∧(∀ i,i<l 1→1≤g i 2):=by
 unfold netB routersB linksB inB at h
 simp only [Bool.and_eq_true,decide_eq_true_eq,allN_iff] at h
 obtain ⟨⟨⟨⟨⟨⟨⟨h1,_⟩,⟨h2,h3⟩⟩,_⟩,_⟩,h4⟩,_⟩,_⟩:=h
 refine ⟨by omega,h2,h4,fun i hi=>?_⟩
 have:=h3 i hi
 unfold linkB inB at this
 simp only [Bool.and_eq_true,decide_eq_true_eq] at this
 omega
end Go.Proofs.YtcfnohiboknfoaaGreat.lawNets
namespace Go.Proofs.YtcfnohiboknfoaaGreat.propSem
open Go.RowKit Go.Deep base names netSem
def propB (nb : Bool) (r : Nat) (k fr po wy : Int) : Bool := nb && inB k 1 4 && inB fr 0 (r - 1) && inB po (-1) 15 && (if k=3 then inB wy 0 (r - 1) else decide (wy=0))
theorem netB_in {l:Nat→Nat} {s:Ss} {g x f:R} {o e:List Int} (h:netB l s g o e x f=true):1≤l 0∧l 0≤4:=by
 unfold netB routersB inB at h
 simp only [Bool.and_eq_true,decide_eq_true_eq] at h
 obtain ⟨⟨⟨⟨⟨⟨⟨h1,_⟩,_⟩,_⟩,_⟩,_⟩,_⟩,_⟩:=h
 omega
theorem prop_eq {r:Nat} {k fr po wy:Int} {b1 b2 b3 b4 b5 b6 b7:Bool} (hr:1≤r) (e1:inB k 1 4=b1) (e2:inB fr 0 (r - 1)=b2) (e3:(po == -1)=b3) (e4:inB po 0 15=b4) (e5:(wy == 0)=b5) (e6:(k == 3)=b6) (e7:inB wy 0 (r - 1)=b7) :
  propB true r k fr po wy=(b1 && b2 && (b3 || b4) && (b5 || b6 && b7)):=by
 subst e1 e2 e3 e4 e5 e6 e7
 have h3:inB po (-1) 15=(po == -1 || inB po 0 15):=by
  rw [Bool.eq_iff_iff];simp [inB];omega
 have h5:(if k=3 then inB wy 0 (r - 1) else decide (wy=0))=(wy == 0 || k == 3 && inB wy 0 (r - 1)):=by
  by_cases hk:k=3
  · rw [if_pos hk,Bool.eq_iff_iff];simp [inB,hk];omega
  rw [if_neg hk,Bool.eq_iff_iff];simp [hk]
 unfold propB
 rw [h3,h5,Bool.true_and]
theorem prop_eq' {nb:Bool} {r:Nat} {k fr po wy:Int} {b1 b2 b3 b4 b5 b6:Bool} (e1:inB k 1 4=b1) (e2:inB fr 0 (r - 1)=b2) (e3:inB po (-1) 15=b3) (e4:(k == 3)=b4) (e5:inB wy 0 (r - 1)=b5) (e6:(wy == 0)=b6) :
  propB nb r k fr po wy=(nb && b1 && b2 && b3 && (if b4 then b5 else b6)):=by
 subst e1 e2 e3 e4 e5 e6
 unfold propB
 by_cases hk:k=3
 · simp [hk]
 simp [hk]
 intros
 rw [Bool.eq_iff_iff];simp
end Go.Proofs.YtcfnohiboknfoaaGreat.propSem
