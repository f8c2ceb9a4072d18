import Derived.Test.YtcnoemjeijjnjaaGreatPart16
import Derived.Laws.CopyOwn
import Derived.BigRegion
import Derived.Lib.SlicesCompact
set_option linter.unusedVariables false
namespace Go.Proofs.YtcnoemjeijjnjaaGreat.sceneFault
open Go.RowKit Go.Deep Go base copy names netSem netImpl netParts netFace netOKImpl routeRow routesB routesImpl candEnv
theorem env_cl (v:Int) (w:World) :
  Calls Tryz.prog 102 #[.int .i64 v] w fun e w'=>e=.returned (.bool (inB v 0 2))∧w' = w:=by
 go_enter Tryz.func102,Tryz.ntmps102;go_wp2_with (go_at_call 19;refine(within_impl _ _ _ _).mono ?_;rintro e w' ⟨rfl,rfl⟩);go_ret;exact⟨rfl,rfl⟩
set_option maxHeartbeats 800000 in
theorem all_env (a:Option Addr) (n c:Nat) (z:List Int) (w:World) (hx:IntRow w a n z) :
  Calls Tryz.prog 101 #[.slice a n c,.func (.func 102) #[] #[]] w fun e w'=>e=.returned (.bool (allN (fun i=>inB (zAt z i) 0 2) n))∧w' = w:=by
 have hmost:=hx.most;unfold maxLen at hmost;have HX:=hid hx;clear hx;go_enter Tryz.func101,Tryz.ntmps101;go_wp2;go_loop [9] (fun i=>∃k:Nat,k≤n∧i=.int .i64 k∧∀j,j<k→inB (zAt z j) 0 2=true) (fun i=>n - (intOf i).toNat)
 case atStart=>exact⟨0,Nat.zero_le _,rfl,fun j hj=>absurd hj (Nat.not_lt_zero _)⟩
 obtain⟨k,hk,rfl,ha⟩:=hrel;have HA:=hid ha;clear ha;by_cases hlt:k<n
 · obtain⟨b,off,rfl,hc⟩:=HX.out.cell k hlt;have HQ:Hid (zAt z k=z[k]?.getD 0):=hid rfl;generalize z[k]?.getD 0=y at *;obtain⟨D,hD⟩:∃D,inB y 0 2=D:=⟨_,rfl⟩;have HD:=hid hD;have HE:Hid (inB (zAt z k) 0 2=D):=hid (by rw[HQ.out];exact hD);clear hD;go_wp2_with fail;refine(env_cl y _).mono ?_;rintro e' w1 ⟨rfl,hw⟩;have hw:=hw.symm;subst hw;rw[HD.out]
   cases D with
   | true =>
    go_wp2;go_round
    case rel =>
     refine⟨k+1,by omega,by go_num,fun j hj=>?_⟩;by_cases e:j=k
     · subst e;exact HE.out
     exact HA.out j Om
    case measure=>simp[intOf];omega
   | false =>
    go_wp2;go_ret;exact⟨ret_bool (allN_false (p:=fun i=>inB (zAt z i) 0 2) hlt HE.out).symm,rfl⟩
 have e:k=n:=by omega
 subst e;go_wp2;go_ret;exact⟨ret_bool (allN_of (p:=fun i=>inB (zAt z i) 0 2) HA.out).symm,rfl⟩
def arC (ok : Bool) (el dl l3 l1 : Nat) (env : List Int) : Int := if ok=false then 1 else if el≠l3∨dl≠l1 then 5 else if allN (fun i=>inB (zAt env i) 0 2) el=true then 0 else 5
set_option maxHeartbeats 3200000 in
theorem around_impl (p:Nat→Option Addr) (l c:Nat→Nat) (s:Ss) (g:R) (o e:List Int) (x f:R) (ea da:Option Addr) (el ec dl dc:Nat) (env:List Int) (w:World) (h:NetIs w p l s g o e x f) (hc0:l 0≤c 0) (hc1:l 1≤c 1) (he:IntRow w ea el env) (hdl:dl≤maxLen) :
  Calls Tryz.prog 62 #[netV p l c,.slice ea el ec,.slice da dl dc] w fun e' w'=>e' = .returned (.int .i64 (arC (netB l s g o e x f) el dl (l 3) (l 1) env))∧Below w.heap.size w w' := by
 have HN:=hid h;have HE:=hid he;have K0:=hid hc0;have K1:=hid hc1;have m1:=h.links.most;have m3:=h.externals.most;have me:=he.most;unfold maxLen at m1 m3 me hdl;clear h he hc0 hc1
 have C1:∀w8:World,Below ((w.alloc (.cells #[.slice (p 0) (l 0) (c 0),.slice (p 1) (l 1) (c 1),.slice (p 2) (l 2) (c 2),.slice (p 3) (l 3) (c 3),.slice (p 4) (l 4) (c 4),.slice (p 5) (l 5) (c 5)] 29))).heap.size (w.alloc (.cells #[.slice (p 0) (l 0) (c 0),.slice (p 1) (l 1) (c 1),.slice (p 2) (l 2) (c 2),.slice (p 3) (l 3) (c 3),.slice (p 4) (l 4) (c 4),.slice (p 5) (l 5) (c 5)] 29)) w8→(w8.cell? ⟨w.heap.size,1,none⟩=some (.slice (p 1) (l 1) (c 1))∧w8.cell? ⟨w.heap.size,3,none⟩=some (.slice (p 3) (l 3) (c 3)))∧IntRow w8 ea el env∧Below w.heap.size w w8 :=
  fun w8 hb=>⟨⟨keep hb (by simp[go_sem]),keep hb (by simp[go_sem])⟩,(HE.out.below Bl).below hb,(show Below w.heap.size w _ from Bl).trans (hb.mono (by simp))⟩
 have HC1:=hid C1;clear C1;obtain⟨ok,hok⟩:∃b,netB l s g o e x f=b:=⟨_,rfl⟩;have HOK:=hid hok;rw[hok];clear hok;obtain⟨C,hC⟩:∃C,arC ok el dl (l 3) (l 1) env=C:=⟨_,rfl⟩;have HC:=hid hC;rw[hC];clear hC;unfold arC at HC;have hmf:=mkfunc;unfold netV;go_enter Tryz.func62,Tryz.ntmps62;go_wp2_with fail;refine(netOK_impl p l c s g o e x f _ (HN.out.below Bl) K0.out K1.out).mono ?_;rintro e' w1 ⟨rfl,hb1⟩;rw[HOK.out];obtain⟨⟨q1,q3⟩,hE1,hB⟩:=HC1.out _ hb1;have E1:=hid hE1;have B1:=hid hB;clear hb1 hE1 hB
 cases ok with
 | false =>
  have e2:C=1:=by rw[←HC.out,if_pos rfl]
  subst e2;go_wp2;go_ret;exact⟨rfl,B1.out⟩
 | true =>
 rw[if_neg (by decide)]at HC;by_cases h3:el=l 3
 · have d3:((el:Int) != (l 3:Int))=false:=by simp[h3]
   by_cases h4:dl=l 1
   · have d4:((dl:Int) != (l 1:Int))=false:=by simp[h4]
     rw[if_neg (by simp[h3,h4])]at HC;clear h3 h4;go_wp2_with fail;refine(all_env ea el ec env _ E1.out).mono ?_;rintro e' w2 ⟨rfl,hw⟩;have hw:=hw.symm;subst hw;obtain⟨A,hA⟩:∃A,allN (fun i=>inB (zAt env i) 0 2) el=A:=⟨_,rfl⟩;rw[hA]at HC ⊢;clear hA
     cases A with
     | true =>
      have e2:C=0:=by rw[←HC.out,if_pos rfl]
      subst e2;go_wp2;go_ret;exact⟨rfl,B1.out⟩
     | false =>
      have e2:C=5:=by rw[←HC.out,if_neg (by decide)]
      subst e2;go_wp2;go_ret;exact⟨rfl,B1.out⟩
   have d4:((dl:Int) != (l 1:Int))=true:=by simp;omega
   have e2:C=5:=by rw[←HC.out,if_pos (.inr h4)]
   subst e2;clear h4 h3;go_wp2;go_ret;exact⟨rfl,B1.out⟩
 have d3:((el:Int) != (l 3:Int))=true:=by simp;omega
 have e2:C=5:=by rw[←HC.out,if_pos (.inl h3)]
 subst e2;clear h3;go_wp2;go_ret;exact⟨rfl,B1.out⟩
def rtC (ok rb : Bool) (el dl rl l3 l1 : Nat) (env : List Int) : Int := if 4096<el∨4096<dl∨4096<rl then 2 else if arC ok el dl l3 l1 env=0 then (if rb=true then 0 else 1) else arC ok el dl l3 l1 env
end Go.Proofs.YtcnoemjeijjnjaaGreat.sceneFault
namespace Go.Proofs.YtcnoemjeijjnjaaGreat.sceneNew
open Go.RowKit Go.Deep Go base netSem routeRow nbSem candSem candImp hopSem intsOwn hopMake hopBetween sceneSem
def newCells (p : Nat→Option Addr) (l c : Nat→Nat) : Array Value := #[.slice (p 0) (l 0) (c 0),.slice (p 1) (l 1) (c 1),.slice (p 2) (l 2) (c 2),.slice (p 3) (l 3) (c 3),.slice (p 4) (l 4) (c 4),.slice (p 5) (l 5) (c 5),.int .u32 0,.int .i32 0,.int .u32 0,.int .i64 0,.int .i64 0,.slice none 0 0,.int .i64 0,.int .i64 0,.slice none 0 0,.int .i64 0,.int .i64 0,.slice none 0 0,.int .i64 0,.int .i64 0,.slice none 0 0,.int .i64 0,.int .i64 0,.slice none 0 0,.int .i64 0,.int .i64 0,.slice none 0 0,.int .i64 0,.int .i64 0,.slice none 0 0,.int .i64 0,.int .i64 0,.slice none 0 0,.int .i64 0,.int .i64 0,.slice none 0 0,.int .i64 0,.int .i64 0,.slice none 0 0,.int .i64 0,.int .i64 0,.slice none 0 0,.int .i64 0,.int .i64 0,.slice none 0 0,.int .i64 0,.int .i64 0,.slice none 0 0,.int .i64 0,.int .i64 0,.slice none 0 0,.int .i64 0,.int .i64 0,.slice none 0 0,.int .i64 0,.int .i64 0,.slice none 0 0]
def newF (p : Nat→Option Addr) (l c : Nat→Nat) : Nat→Value := fun i=>(newCells p l c)[i]?.getD (.bool false)
theorem new_row (p:Nat→Option Addr) (l c:Nat→Nat) (w:World):(w.alloc (.cells (newCells p l c) 79)).rowIs w.heap.size 79 57 (newF p l c) :=
 ⟨newCells p l c,(show (w.heap.push (.cells (newCells p l c) 79))[w.heap.size]? = _ from Array.getElem?_push_size),rfl,fun i hi=>by
  unfold newF;rw[Array.getElem?_eq_getElem (show i<(newCells p l c).size from hi)]
  rfl⟩
theorem new_hf (p:Nat→Option Addr) (l c:Nat→Nat):Hf (newF p l c) (fun _ _=>0) (fun _ _=>0) (fun _ _=>.slice none 0 0):=by
 intro i j hi hj
 match i,hi with
 | 0,_=>match j,hj with
  | 0,_=>exact⟨rfl,rfl,rfl⟩
  | 1,_=>exact⟨rfl,rfl,rfl⟩
  | 2,_=>exact⟨rfl,rfl,rfl⟩
  | 3,_=>exact⟨rfl,rfl,rfl⟩
 | 1,_=>match j,hj with
  | 0,_=>exact⟨rfl,rfl,rfl⟩
  | 1,_=>exact⟨rfl,rfl,rfl⟩
  | 2,_=>exact⟨rfl,rfl,rfl⟩
  | 3,_=>exact⟨rfl,rfl,rfl⟩
 | 2,_=>match j,hj with
  | 0,_=>exact⟨rfl,rfl,rfl⟩
  | 1,_=>exact⟨rfl,rfl,rfl⟩
  | 2,_=>exact⟨rfl,rfl,rfl⟩
  | 3,_=>exact⟨rfl,rfl,rfl⟩
 | 3,_=>match j,hj with
  | 0,_=>exact⟨rfl,rfl,rfl⟩
  | 1,_=>exact⟨rfl,rfl,rfl⟩
  | 2,_=>exact⟨rfl,rfl,rfl⟩
  | 3,_=>exact⟨rfl,rfl,rfl⟩
theorem row_lt {m n:Nat} {w:World} {a:Option Addr} {g:R} (hm:0<m) (h:Row m w a n g):∀q o,0<n→a=some ⟨q,o,none⟩→q<w.heap.size:=fun q o hn e=>by
 obtain⟨q',o',e',hc⟩:=h.cell 0 hn;rw[e]at e';injection e' with e';injection e' with e1 e2;subst e1;exact World.block_lt_of_cell? _ _ (hc 0 hm)
theorem int_lt {n:Nat} {w:World} {a:Option Addr} {z:List Int} (h:IntRow w a n z):∀q o,0<n→a=some ⟨q,o,none⟩→q<w.heap.size:=fun q o hn e=>by
 obtain⟨q',o',e',hc⟩:=h.cell 0 hn;rw[e]at e';injection e' with e';injection e' with e1 e2;subst e1;exact World.block_lt_of_cell? _ _ hc
theorem bool_lt {n:Nat} {w:World} {a:Option Addr} {z:List Bool} (h:BoolRow w a n z):∀q o,0<n→a=some ⟨q,o,none⟩→q<w.heap.size:=fun q o hn e=>by
 obtain⟨q',o',e',hc⟩:=h.cell 0 hn;rw[e]at e';injection e' with e';injection e' with e1 e2;subst e1;exact World.block_lt_of_cell? _ _ hc
set_option maxHeartbeats 3200000 in
set_option maxRecDepth 8000 in
theorem new_impl0 (p:Nat→Option Addr) (l c:Nat→Nat) (s:Ss) (g:R) (o e:List Int) (x f:R) (ea da:Option Addr) (el ec dl dc:Nat) (env:List Int) (ds:List Bool) (w:World) (h:NetIs w p l s g o e x f) (he:IntRow w ea el env) (hd:BoolRow w da dl ds) (hle:el=l 3) (hld:dl=l 1)
  (gi:∀i,i<l 1→0≤g i 0∧g i 0<4∧0≤g i 1∧g i 1<4∧g i 0≠g i 1) (xi:∀i,i<l 4→0≤x i 0∧x i 0<4∧0≤x i 1∧x i 1<4) (few:l 4≤12) :
  Calls Tryz.prog 31 #[netV p l c,.slice ea el ec,.slice da dl dc] w fun e' w'=>∃(sb b:Nat) (F:Nat→Value),e' = .returned (.pointer (some ⟨sb,0,none⟩))∧F 0=.slice (p 0) (l 0) (c 0)∧w.heap.size≤b∧Sc sb b w.heap.size F p l c g o e x ea da el ec dl dc env ds w'∧Below w.heap.size w w' := by
 have HW:Hid (∀W:World,W=(((w.alloc (.cells #[.slice (p 0) (l 0) (c 0),.slice (p 1) (l 1) (c 1),.slice (p 2) (l 2) (c 2),.slice (p 3) (l 3) (c 3),.slice (p 4) (l 4) (c 4),.slice (p 5) (l 5) (c 5)] 29)).alloc (.cells (newCells p l c) 79)).alloc (.cells #[.pointer (some ⟨w.heap.size+1,0,none⟩),.slice ea el ec,.slice da dl dc] 130))→Sc (w.heap.size+1+1) (w.heap.size+1) w.heap.size (newF p l c) p l c g o e x ea da el ec dl dc env ds W∧Below w.heap.size w W):=hid (fun W hW=>by
  have hb:Below w.heap.size w W:=by rw[hW];exact Bl
  have h1:(w.alloc (.cells #[.slice (p 0) (l 0) (c 0),.slice (p 1) (l 1) (c 1),.slice (p 2) (l 2) (c 2),.slice (p 3) (l 3) (c 3),.slice (p 4) (l 4) (c 4),.slice (p 5) (l 5) (c 5)] 29)).heap.size=w.heap.size+1:=by simp
  have hrow:=new_row p l c (w.alloc (.cells #[.slice (p 0) (l 0) (c 0),.slice (p 1) (l 1) (c 1),.slice (p 2) (l 2) (c 2),.slice (p 3) (l 3) (c 3),.slice (p 4) (l 4) (c 4),.slice (p 5) (l 5) (c 5)] 29));rw[h1]at hrow
  have hrow2:W.rowIs (w.heap.size+1) 79 57 (newF p l c):=by
   rw[hW];exact hrow.of_block ((show Below _ _ _ from (Bz.alloc (Nat.le_refl _) _)).block _ hrow.lt)
  refine⟨⟨?_,?_,?_,.inl ⟨hrow2,new_hf p l c,rfl,rfl⟩,⟨rfl,rfl,h.links.below hb,h.imports.below hb,gi,xi,few,fun a o h0 e=>?_,fun a o h0 e=>?_⟩,rfl,rfl,h.origins.below hb,h.externals.below hb,he.below hb,hd.below hb,by omega,fun a o h0 e=>?_,fun a o h0 e=>?_,fun a o h0 e=>?_,fun a o h0 e=>?_,hb.size,hle,hld⟩,hb⟩
  · rw[hW];simp[go_sem]
  · rw[hW];simp[go_sem]
  · rw[hW];simp[go_sem]
  · have:=row_lt (by decide) h.links a o h0 e;omega
  · have:=row_lt (by decide) h.imports a o h0 e;omega
  · have:=int_lt h.origins a o h0 e;omega
  · have:=int_lt h.externals a o h0 e;omega
  · have:=int_lt he a o h0 e;omega
  have:=bool_lt hd a o h0 e;omega)
 clear h he hd hle hld gi xi few;unfold netV;go_enter Tryz.func31,Tryz.ntmps31;go_wp2;go_ret;obtain⟨h1,h2⟩:=HW.out _ rfl;exact⟨_,_,_,rfl,rfl,by omega,h1,h2⟩
theorem new_impl (p:Nat→Option Addr) (l c:Nat→Nat) (s:Ss) (g:R) (o e:List Int) (x f:R) (ea da:Option Addr) (el ec dl dc:Nat) (env:List Int) (ds:List Bool) (w:World) (h:NetIs w p l s g o e x f) (he:IntRow w ea el env) (hd:BoolRow w da dl ds) (hle:el=l 3) (hld:dl=l 1)
  (gi:∀i,i<l 1→0≤g i 0∧g i 0<4∧0≤g i 1∧g i 1<4∧g i 0≠g i 1) (xi:∀i,i<l 4→0≤x i 0∧x i 0<4∧0≤x i 1∧x i 1<4) (few:l 4≤12) :
  Calls Tryz.prog 31 #[netV p l c,.slice ea el ec,.slice da dl dc] w fun e' w'=>∃(sb b:Nat) (F:Nat→Value),e' = .returned (.pointer (some ⟨sb,0,none⟩))∧w.heap.size≤b∧Sc sb b w.heap.size F p l c g o e x ea da el ec dl dc env ds w'∧Below w.heap.size w w' :=
 (new_impl0 p l c s g o e x f ea da el ec dl dc env ds w h he hd hle hld gi xi few).mono fun _ _ ⟨sb,b,F,h1,_,h2⟩=>⟨sb,b,F,h1,h2⟩
end Go.Proofs.YtcnoemjeijjnjaaGreat.sceneNew
namespace Go.Proofs.YtcnoemjeijjnjaaGreat.sceneFace
open Go.RowKit Go.Deep Go base netSem netImpl routeRow routesB nbSem candSem candImp hopSem intsOwn hopMake hopBetween sceneSem sceneFault sceneList sceneNew
theorem net_links {l:Nat→Nat} {s:Ss} {g x f:R} {o e:List Int} (h:netB l s g o e x f=true):l 0≤4∧l 4≤12∧(∀i,i<l 1→linkB g (l 0) i=true)∧∀i,i<l 4→importB g (l 1) x i=true:=by
 unfold netB routersB linksB importsB at h;simp only[Bool.and_eq_true,decide_eq_true_eq,allN_iff]at h;obtain⟨⟨⟨⟨⟨⟨⟨h1,_⟩,⟨_,h2⟩⟩,_⟩,_⟩,_⟩,⟨h3,h4⟩⟩,_⟩:=h;unfold inB at h1;simp only[decide_eq_true_eq]at h1;exact⟨by omega,h3,h2,h4⟩
theorem link_facts {g:R} {r i:Nat} (h:linkB g r i=true) (hr:r≤4):(0≤g i 0∧g i 0<4∧0≤g i 1∧g i 1<4∧g i 0≠g i 1)∧linkAt g i (g i 0) (g i 1)<0∧0≤g i 2∧g i 2≤100:=by
 unfold linkB inB at h;simp only[Bool.and_eq_true,decide_eq_true_eq]at h;obtain⟨⟨⟨⟨⟨h1,h2⟩,h3,h4⟩,h5⟩,h6,h7⟩,h8⟩:=h;exact⟨⟨by omega,by omega,by omega,by omega,h5⟩,h8,by omega,by omega⟩
theorem import_facts {g x:R} {nl i:Nat} (h:importB g nl x i=true) (hg:∀j,j<nl→0≤g j 0∧g j 0<4∧0≤g j 1∧g j 1<4∧g j 0≠g j 1):(0≤x i 0∧x i 0<4∧0≤x i 1∧x i 1<4)∧1≤x i 3∧x i 3≤4:=by
 unfold importB deedB inB at h;simp only[Bool.and_eq_true,decide_eq_true_eq]at h;obtain⟨h1,⟨_,h2,h3⟩,_⟩:=h;obtain⟨j,hj,hh⟩:=firstAt_spec.1 h1;unfold hit at hh;simp only[decide_eq_true_eq]at hh;have:=hg j hj;refine⟨?_,h2,h3⟩;rcases hh with ⟨e1,e2⟩|⟨e1,e2⟩<;>omega
theorem rt_zero {ok rb:Bool} {el dl rl l3 l1:Nat} {env:List Int} (h:rtC ok rb el dl rl l3 l1 env=0):ok=true∧rb=true∧el=l3∧dl=l1∧∀i,i<el→0≤zAt env i:=by
 unfold rtC at h;by_cases h1:4096<el∨4096<dl∨4096<rl
 · rw[if_pos h1]at h;cases h
 rw[if_neg h1]at h;by_cases h2:arC ok el dl l3 l1 env=0
 case neg=>rw[if_neg h2]at h;exact absurd h h2
 rw[if_pos h2]at h;unfold arC at h2
 cases rb with
 | false=>cases h
 | true =>
 cases ok with
 | false=>cases h2
 | true =>
 rw[if_neg (by decide)]at h2;by_cases h3:el≠l3∨dl≠l1
 · rw[if_pos h3]at h2;cases h2
 rw[if_neg h3]at h2;by_cases h4:allN (fun i=>inB (zAt env i) 0 2) el=true
 · refine⟨rfl,rfl,by omega,by omega,fun i hi=>?_⟩;have h5:=allN_iff.1 h4 i hi;unfold inB at h5;simp only[decide_eq_true_eq]at h5;exact h5.1
 rw[if_neg h4]at h2;cases h2
end Go.Proofs.YtcnoemjeijjnjaaGreat.sceneFace
namespace Go.Proofs.YtcnoemjeijjnjaaGreat.rtsHeld
open Go.RowKit Go.Deep Go base routeRow intsOwn candSem
end Go.Proofs.YtcnoemjeijjnjaaGreat.rtsHeld
namespace Go.Proofs.YtcnoemjeijjnjaaGreat.noRts
open Go.RowKit Go.Deep Go base routeRow intsOwn candSem rtsHeld
def noRs : Rs := fun _=>noRt
def noCs (m : Nat) : List Value := (List.range (m*4)).map fun j=>rc noRt (j % 4)
theorem noCs_len (m:Nat):(noCs m).length=m*4:=by simp[noCs]
theorem noCs_at {m j:Nat} (h:j<m*4):(noCs m)[j]? = some (rc noRt (j % 4)):=by simp[noCs,h]
theorem add0 (X j:Nat):(⟨X,0,none⟩:Addr).add j=⟨X,j,none⟩:=by
 simp only[Addr.add]
 split
 · rename_i h;rw[h]
 simp
theorem rc_one (r:Rt) (j:Nat) (h:j<4):(rc r j).oneCell' = true:=by
 match j,h with
 | 0,_=>rfl
 | 1,_=>rfl
 | 2,_=>rfl
 | 3,_=>rfl
 | j+4,h=>omega
theorem run_copy4 {P:Program} (w:World) (dT sT ty elem:TypeId) (g o dLen dCap:Nat) (a:Addr) (sLen sCap:Nat) (cur:Array Value) (t:TypeId) (cs:List Value)
  (hu:P.underlying dT=some (.slice elem)) (hs:(P.info? elem).map (·.size)=some 4)
  (hg:w.heap[g]? = some (.cells cur t (0,0))) (hn:cs.length=Nat.min sLen dLen*4)
  (hsrc:∀j v,cs[j]? = some v→w.cell? (a.add j)=some v) (hfit:o+cs.length≤cur.size) (h1:∀v∈cs,v.oneCell' = true) :
  (Builtin.copy_ #[dT,sT] ty #[.slice (some ⟨g,o,none⟩) dLen dCap,.slice (some a) sLen sCap]).run P w =
   .ok (goInt (Nat.min sLen dLen)) (w.setRow g (cur.toList.take o++cs++cur.toList.drop (o+cs.length)).toArray):=by
 have hl:=run_loadCells_list (P:=P) w a cs hsrc;have hst:=run_storeCells_at P g o t cs 0 cur w hg (by simpa using hfit) h1
 cases hq:P.info? elem with
 | none=>simp[hq]at hs
 | some i =>
  have hi:i.size=4:=by simpa[hq] using hs
  simp[Builtin.copy_,run_underlying hu,Builtin.lenOf,Builtin.firstCells,sizeOf,typeInfo,hq,hi,←hn,hl,hst]
theorem laid_copied {w:World} {N len k m:Nat} {cur:Array Value} (h:RtLaid w N len k noRs) (hg:w.heap[N]? = some (.cells cur 106 (0,0))) (hk:k+m≤len) :
  RtLaid (w.setRow N (cur.toList.take (k*4)++noCs m++cur.toList.drop (k*4+(noCs m).length)).toArray) N len (k+m) noRs:=by
 obtain⟨f,⟨cur',h1,h2,h3⟩,hc⟩:=h.row;rw[hg]at h1;injection h1 with h1;injection h1 with h1;subst h1;have hl:=noCs_len m;refine⟨fun i=>(cur.toList.take (k*4)++noCs m++cur.toList.drop (k*4+(noCs m).length))[i]?.getD undef,⟨_,setRow_heap w N cur _ _ _ hg,by simp[hl];omega,fun i hi=>?_⟩,fun i hi j hj=>?_⟩
 · have h9:i<(cur.toList.take (k*4)++noCs m++cur.toList.drop (k*4+(noCs m).length)).length:=by simp[hl];omega
   simp only[List.getElem?_toArray];rw[List.getElem?_eq_getElem h9,Option.getD_some]
 show (cur.toList.take (k*4)++noCs m++cur.toList.drop (k*4+(noCs m).length))[i*4+j]?.getD undef=_
 by_cases hik:i<k
 · rw[List.append_assoc,List.getElem?_append_left (by simp;omega),List.getElem?_take_of_lt Om,Array.getElem?_toList,h3 (i*4+j) Om];exact hc i hik j hj
 rw[List.getElem?_append_left (by simp[hl];omega),List.getElem?_append_right (by simp;omega)];rw[show i*4+j - (cur.toList.take (k*4)).length=(i - k)*4+j by simp;omega,noCs_at Om];simp only[Option.getD_some,noRs];rw[show ((i - k)*4+j) % 4=j by omega]
open Go.RowKit in
theorem wpList_copy_laid {P:Program} {w:World} {ops:Array Oper} {rest:List Oper} {o:Oper} {a:Act} {Q:Exit→Act→World→Prop} (hgd:o.guard=none) (d s:Operand) (dT sT:TypeId)
  (ho:o.op=.call { callee:=.builtin .copy,args:=#[d,s],argTypes:=#[dT,sT] }) (elem:TypeId) (hu:P.underlying dT=some (.slice elem)) (hsz:(P.info? elem).map (·.size)=some 4)
  (N len k m dLen dCap:Nat) (ad:Addr) (sLen sCap:Nat) (hd:a.eval d=.slice (some ⟨N,k*4,none⟩) dLen dCap) (hs:a.eval s=.slice (some ad) sLen sCap)
  (hl:RtLaid w N len k noRs) (hm:m=Nat.min sLen dLen) (hk:k+m≤len) (hsrc:∀j,j<m*4→w.cell? (ad.add j)=some (rc noRt (j % 4)))
  (B:Nat) (w0:World) (hb:Below B w0 w) (hBg:B≤N)
  (h:∀w',Hid (RtLaid w' N len (k+m) noRs)→Hid (Below B w0 w')→wpList P ops Q rest (a.put o.dst (goInt m)) w') :
  wpList P ops Q (o::rest) a w:=by
 obtain⟨f,⟨cur,h1,h2,h3⟩,hc⟩:=hl.row
 have hrun:=run_copy4 (P:=P) w dT sT o.type elem N (k*4) dLen dCap ad sLen sCap cur _ (noCs m) hu hsz h1 (by rw[noCs_len,hm]) (fun j v hv=>by
  by_cases hj:j<m*4
  · rw[noCs_at hj]at hv;injection hv with hv;rw[←hv];exact hsrc j hj
  · rw[List.getElem?_eq_none (by rw[noCs_len];omega)]at hv
    cases hv) (by rw[noCs_len,h2];omega) (fun v hv=>by
  obtain⟨j,_,rfl⟩:=List.mem_map.1 hv
  exact rc_one _ _ (Nat.mod_lt _ (by decide)))
 refine wpList_plain hgd fun K hK=>?_;unfold Oper.wp;simp[execOp,ho,resolve,invoke,builtin,hd,hs,hrun,Result.andThen];rw[←hm];exact hK _ _ (h _ (show RtLaid _ _ _ _ _ by simpa using laid_copied hl h1 hk) (below_setRow hb hBg _))
open Go.RowKit in
theorem run_copy_laid {P:Program} {w:World} (dT sT ty elem:TypeId) (hu:P.underlying dT=some (.slice elem)) (hsz:(P.info? elem).map (·.size)=some 4)
  (N len k m dLen dCap:Nat) (ad:Addr) (sLen sCap:Nat) (hl:RtLaid w N len k noRs) (hm:m=Nat.min sLen dLen) (hk:k+m≤len) (hsrc:∀j,j<m*4→w.cell? (ad.add j)=some (rc noRt (j % 4)))
  (B:Nat) (w0:World) (hb:Below B w0 w) (hBg:B≤N) :
  ∃w',(Builtin.copy_ #[dT,sT] ty #[.slice (some ⟨N,k*4,none⟩) dLen dCap,.slice (some ad) sLen sCap]).run P w=.ok (.int .i64 (m:Int)) w'∧RtLaid w' N len (k+m) noRs∧Below B w0 w' := by
 obtain⟨f,⟨cur,h1,h2,h3⟩,hc⟩:=hl.row
 have hrun:=run_copy4 (P:=P) w dT sT ty elem N (k*4) dLen dCap ad sLen sCap cur _ (noCs m) hu hsz h1 (by rw[noCs_len,hm]) (fun j v hv=>by
  by_cases hj:j<m*4
  · rw[noCs_at hj]at hv;injection hv with hv;rw[←hv];exact hsrc j hj
  · rw[List.getElem?_eq_none (by rw[noCs_len];omega)]at hv
    cases hv) (by rw[noCs_len,h2];omega) (fun v hv=>by
  obtain⟨j,_,rfl⟩:=List.mem_map.1 hv
  exact rc_one _ _ (Nat.mod_lt _ (by decide)))
 rw[←hm]at hrun;exact⟨_,hrun,laid_copied hl h1 hk,below_setRow hb hBg _⟩
theorem size4 : (Tryz.prog.info? 106).map (·.size)=some 4:=by kernel_rfl
theorem mul64_impl (n:Int) (hn:n=1∨n=2∨n=3∨n=4) (w:World) :
  Calls Tryz.prog 153 #[.int .u64 1,.int .u64 n] w fun e w'=>e=.returned (.tuple #[.int .u64 0,.int .u64 n])∧w' = w:=by
 rcases hn with rfl|rfl|rfl|rfl
 all_goals
  go_enter Tryz.func153,Tryz.ntmps153;go_wp2;go_ret2;exact⟨rfl,rfl⟩
theorem mul_impl (n:Int) (hn:n=1∨n=2∨n=3∨n=4) (w:World) :
  Calls Tryz.prog 133 #[.int .u64 1,.int .u64 n] w fun e w'=>e=.returned (.tuple #[.int .u64 0,.int .u64 n])∧w' = w:=by
 have HM:=hid (mul64_impl n hn);rcases hn with rfl|rfl|rfl|rfl
 all_goals
  go_enter Tryz.func133,Tryz.ntmps133;go_wp2_with (go_at_call 153;refine(HM.out _).mono ?_;rintro e w' ⟨rfl,rfl⟩);go_ret2;exact⟨rfl,rfl⟩
set_option maxHeartbeats 1600000 in
set_option maxRecDepth 8000 in
theorem repeat_impl (n:Nat) (hn:n=1∨n=2∨n=3∨n=4) (X:Nat) (w:World) (hX:∀j,j<4→w.cell? ⟨X,j,none⟩=some (rc noRt j)) :
  Calls Tryz.prog 104 #[.slice (some ⟨X,0,none⟩) 1 1,.int .i64 (n:Int)] w fun e w'=>∃N,e=.returned (.slice (some ⟨N,0,none⟩) n n)∧w.heap.size≤N∧RtLaid w' N n n noRs∧Below w.heap.size w w' := by
 have hmk:=run_make_Route n Om;have HM:=hid (mul_impl n Om);have hn4:n≤4:=by omega
 have hn1:1≤n:=by omega
 have HX:=hid hX;clear hX hn;go_enter Tryz.func104,Tryz.ntmps104
 have HL0:Hid (RtLaid (w.alloc (.cells (madeCells #[.int .i64 0,.int .i64 0,.int .i64 0,.bool false] (n*4)) 106)) w.heap.size n 0 noRs):=by
  refine⟨fun i=>(madeCells #[.int .i64 0,.int .i64 0,.int .i64 0,.bool false] (n*4))[i]?.getD undef,?_,fun i hi=>absurd hi (Nat.not_lt_zero _)⟩;have:=World.rowIs_alloc w (madeCells #[.int .i64 0,.int .i64 0,.int .i64 0,.bool false] (n*4)) 106 (fun i=>(madeCells #[.int .i64 0,.int .i64 0,.int .i64 0,.bool false] (n*4))[i]?.getD undef) (fun i hi=>by rw[Array.getElem?_eq_getElem hi];rfl)
  rwa [size_madeCells]at this
 have HX1:Hid (∀j,j<1*4→(w.alloc (.cells (madeCells #[.int .i64 0,.int .i64 0,.int .i64 0,.bool false] (n*4)) 106)).cell? ((⟨X,0,none⟩:Addr).add j)=some (rc noRt (j % 4))):=fun j hj=>by
  have h1:=keep (show Below w.heap.size w (w.alloc (.cells (madeCells #[.int .i64 0,.int .i64 0,.int .i64 0,.bool false] (n*4)) 106)) from Bl) (HX.out j Om);rw[show j % 4=j by omega,add0];exact h1
 have HBA:Hid (Below w.heap.size w (w.alloc (.cells (madeCells #[.int .i64 0,.int .i64 0,.int .i64 0,.bool false] (n*4)) 106))):=Bl;have hmin:(1:Nat)=Nat.min 1 n:=by have:Nat.min 1 n=min 1 n:=rfl;omega
 have HMin:=hid hmin;clear hmin;go_wp2_with fail;refine(HM.out _).mono ?_;rintro e w' ⟨rfl,hw'⟩;have hw' := hw'.symm;subst hw';go_wp2_with (refine wpList_copy_laid rfl _ _ _ _ rfl 106 Tryz.underlying52 size4 w.heap.size n 0 1 n n ⟨X,0,none⟩ 1 1 rfl rfl HL0.out HMin.out Om HX1.out w.heap.size w HBA.out (Nat.le_refl _) ?_;intro w1 hl1 hb1);clear HL0 HX1 HBA HMin HX hmk HM;go_loopw [8] (fun i wr=>∃k:Nat,1≤k∧k≤n∧i=.int .i64 k∧RtLaid wr w.heap.size n k noRs∧Below w.heap.size w wr) (fun i _=>n - (intOf i).toNat)
 case atStart=>exact⟨1,Nat.le_refl _,hn1,rfl,hl1.out,hb1.out⟩
 obtain⟨k,hk1,hk,rfl,hl,hb⟩:=hrel;have HL:=hid hl;have HB:=hid hb;clear hl hb;by_cases hlt:k<n
 · have hsrc : Hid (∀ m, m ≤ k → ∀ j, j < m * 4 → wr.cell? ((⟨w.heap.size, 0, none⟩ : Addr).add j) = some (rc noRt (j % 4))) := fun m hm j hj => by
    obtain⟨f,hf,hc⟩:=HL.out.row;have h1:=hf.cell (i:=j) Om;have h2:=hc (j / 4) Om (j % 4) Om;rw[show j / 4*4+j % 4=j by omega]at h2;rw[h2]at h1;rw[add0];exact h1
   obtain⟨m,hm⟩:∃m,Nat.min k (n - k)=m:=⟨_,rfl⟩;have hm':m=Nat.min k (n - k):=hm.symm;have hmm:m≤k∧k+m≤n∧1≤m:=by have:Nat.min k (n - k)=min k (n - k):=rfl;omega
   have HMm:=hid hm';have HS2:=hid (hsrc.out m hmm.1);clear hm hm' hsrc;obtain⟨w2,hcp,hl2,hb2⟩:=run_copy_laid (P:=Tryz.prog) (w:=wr.drew) 52 52 3 106 Tryz.underlying52 size4 w.heap.size n k m (n - k) (n - k) ⟨w.heap.size,0,none⟩ k n (HL.out.below (Below.refl _ wr).drew) HMm.out hmm.2.1 (fun j hj=>by have:=HS2.out j hj;rw[add0]at this ⊢;exact keep (Below.refl _ wr).drew this) w.heap.size w HB.out.drew (Nat.le_refl _);have HL2:=hid hl2;have HB2:=hid hb2;clear hl2 hb2 HS2 HMm;obtain⟨m1,m2,m3⟩:=hmm;go_wp2;go_region
   all_goals
    go_wp2;go_roundw
    case rel=>exact⟨k+m,by omega,m2,by go_num,HL2.out,HB2.out⟩
    case measure=>simp[intOf];omega
 have e:k=n:=by omega
 subst e;go_wp2;go_ret;exact⟨w.heap.size,rfl,Nat.le_refl _,HL.out,HB.out⟩
end Go.Proofs.YtcnoemjeijjnjaaGreat.noRts
namespace Go.Proofs.YtcnoemjeijjnjaaGreat.rtsRow
open Go.RowKit Go.Deep Go base netSem nbSem intsOwn routeRow candSem
def rF (zs : List Rt) (i : Nat) : Rt := zs[i]?.getD noRt
theorem flat_at (zs:List Rt) (i j:Nat) (hi:i<zs.length) (hj:j<4):(zs.flatMap rcs)[i*4+j]? = some (rc (rF zs i) j):=by
 induction zs generalizing i with
 | nil=>exact absurd hi (Nat.not_lt_zero _)
 | cons a zs ih =>
  simp only[List.flatMap_cons]
  match i with
  | 0 =>
   rw[List.getElem?_append_left (by simp[rcs];omega)]
   match j,hj with
   | 0,_=>simp[rcs,rc,rF]
   | 1,_=>simp[rcs,rc,rF]
   | 2,_=>simp[rcs,rc,rF]
   | 3,_=>simp[rcs,rc,rF]
   | j+4,hj=>exact absurd hj Om
  | i+1 =>
   rw[List.getElem?_append_right (by simp[rcs];omega),show (i+1)*4+j - (rcs a).length=i*4+j by simp[rcs];omega];rw[ih i (by simp only[List.length_cons]at hi;omega)];simp[rF]
theorem rts_form {B:Nat} {w:World} {v:Value} {zs:List Rt} (h:OwnRts B w v zs):∃a c,v=.slice a zs.length c∧RtRow w a zs.length (rF zs):=by
 obtain⟨h1,h2⟩:=h;rcases h2 with ⟨rfl,h0⟩|⟨g,cap,cur,rfl,hb,hh,hc,hm,hs,ht⟩
 · rw[h0];exact⟨none,0,rfl,by unfold maxLen;omega,fun i hi=>absurd hi (Nat.not_lt_zero _)⟩
 refine⟨some ⟨g,0,none⟩,cap,rfl,Nat.le_trans hc hm,fun i hi=>⟨g,0,rfl,fun j hj=>?_⟩⟩;have h7:=flat_at zs i j hi hj;rw[←ht,List.getElem?_take_of_lt Om]at h7;rw[Nat.zero_add];simp only[World.cell?,hh];simpa using h7
theorem rts_row {B:Nat} {w:World} {a:Option Addr} {n c:Nat} {zs:List Rt} (h:OwnRts B w (.slice a n c) zs):RtRow w a n (rF zs):=by
 obtain⟨a',c',e,hr⟩:=rts_form h;have e1:a=a' := by injection e
 have e2:n=zs.length:=by injection e
 subst e1 e2;exact hr
theorem rts_blocks {B:Nat} {w w1:World} {v:Value} {zs:List Rt} (h:OwnRts B w v zs) (hb:∀g,v.ownBlock=some g→g<w.heap.size→w1.heap[g]? = w.heap[g]?):OwnRts B w1 v zs:=by
 obtain⟨h1,h2⟩:=h;refine⟨h1,?_⟩;rcases h2 with h2|⟨g,cap,cur,rfl,hgB,hh,hn⟩
 · exact .inl h2
 exact .inr ⟨g,cap,cur,rfl,hgB,(hb g rfl (Array.getElem?_eq_some_iff.1 hh).1).trans hh,hn⟩
theorem rts_keeps {B:Nat} {w w1:World} {v:Value} {zs:List Rt} {row:Option Nat} (h:OwnRts B w v zs) (hg:w.grownBy w1 row) (hne:∀g,v.ownBlock=some g→some g≠row):OwnRts B w1 v zs:=rts_blocks h fun g e hgl=>hg.block g hgl (hne g e)
theorem rts_lt {B g:Nat} {w:World} {v:Value} {zs:List Rt} (h:OwnRts B w v zs) (hg:v.ownBlock=some g):B≤g∧g<w.heap.size:=World.ownsRow.lt h g hg
def bst (zs : List Rt) : Rt := if zs.length=0 then noRt else bestTo (rF zs) (zs.length - 1)
theorem bst_nil {zs:List Rt} (h:zs.length=0):bst zs=noRt:=by unfold bst;rw[if_pos h]
theorem bst_some {zs:List Rt} (h:0<zs.length):bst zs=bestTo (rF zs) (zs.length - 1):=by unfold bst;rw[if_neg Om]
end Go.Proofs.YtcnoemjeijjnjaaGreat.rtsRow
namespace Go.Proofs.YtcnoemjeijjnjaaGreat.order
open Go.Lib
def rk (l : Int) : Int := if l<0 then -2*l+1 else 2*l
def SS (r : List Int) : Prop := r.Pairwise (fun x y=>rk x<rk y)
theorem SS.uniq : ∀ {a b:List Int},SS a→SS b→(∀x,x∈a ↔ x∈b)→a=b
 | [],[],_,_,_=>rfl
 | [],y::b,_,_,h=>absurd ((h y).2 (List.mem_cons_self ..)) (by simp)
 | x::a,[],_,_,h=>absurd ((h x).1 (List.mem_cons_self ..)) (by simp)
 | x::a,y::b,ha,hb,h=>by
  have ha' := List.pairwise_cons.1 ha;have hb' := List.pairwise_cons.1 hb
  have e:x=y:=by
   rcases List.mem_cons.1 ((h x).1 (List.mem_cons_self ..)) with e|hx
   · exact e
   rcases List.mem_cons.1 ((h y).2 (List.mem_cons_self ..)) with e|hy
   · exact e.symm
   have h1:=hb'.1 x hx;have h2:=ha'.1 y hy;omega
  subst e
  have ht:a=b:=SS.uniq ha'.2 hb'.2 (fun z=>by
   have hz:=h z;simp only[List.mem_cons]at hz
   constructor
   · intro hm;rcases hz.1 (.inr hm) with rfl|h2
     · have:=ha'.1 z hm;omega
     exact h2
   intro hm;rcases hz.2 (.inr hm) with rfl|h2
   · have:=hb'.1 z hm;omega
   exact h2)
  rw[ht]
end Go.Proofs.YtcnoemjeijjnjaaGreat.order
namespace Go.Proofs.YtcnoemjeijjnjaaGreat.compare
open Go.RowKit Go.Deep base order
def sgn (x y : Int) : Int := if x<y then -1 else if y<x then 1 else 0
set_option maxHeartbeats 400000 in
theorem cmp_int (x y:Int) (w:World) :
  Calls Tryz.prog 137 #[.int .i64 x,.int .i64 y] w fun e w'=>e=.returned (.int .i64 (sgn x y))∧w' = w:=by
 rcases Int.lt_trichotomy x y with h|h|h
 · have e:sgn x y = -1:=by unfold sgn;rw[if_pos h]
   rw[e];clear e;go_enter Tryz.func137,Tryz.ntmps137;go_wp2;go_ret;exact⟨rfl,rfl⟩
 · subst h;have e:sgn x x=0:=by unfold sgn;rw[if_neg Om,if_neg Om]
   rw[e];clear e;go_enter Tryz.func137,Tryz.ntmps137;go_wp2;go_ret;exact⟨rfl,rfl⟩
 have e:sgn x y=1:=by unfold sgn;rw[if_neg Om,if_pos h]
 rw[e];clear e;go_enter Tryz.func137,Tryz.ntmps137;go_wp2;go_ret;exact⟨rfl,rfl⟩
end Go.Proofs.YtcnoemjeijjnjaaGreat.compare
