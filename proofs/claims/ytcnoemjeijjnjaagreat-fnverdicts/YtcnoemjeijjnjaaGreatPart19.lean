import Derived.Test.YtcnoemjeijjnjaaGreatPart18
import Derived.Deep.RegionHeld3
import Derived.Laws.ResultCell
set_option linter.unusedVariables false
namespace Go.Proofs.YtcnoemjeijjnjaaGreat.stabFace
open Go.RowKit Go.Deep Go base names netSem routeRow nbSem candSem candImp hopSem intsOwn hopMake hopBetween sceneSem sceneOpen sceneBy candSpec sceneCand sceneList sceneFault sceneNew sceneFace walkSem routesB netImpl noRts rtsRow bestFace bestAll stabImpl
def stabB (g : R) (nl : Nat) (o e : List Int) (x : R) (nx : Nat) (env : List Int) (ds : List Bool) (rs : Rs) (n : Nat) : Bool := sameTo (fun r : Nat=>bst (candL g nl o e x nx env ds rs n (r : Int))) rs n
theorem bests_cand {g:R} {nl:Nat} {o e:List Int} {x:R} {nx:Nat} {env:List Int} {ds:List Bool} {rs:Rs} {n:Nat} (hn:n≤4) (hv:∀i,i<n→(rs i).via<n) (he:∀i,0≤zAt env i):bests g nl o e x nx env ds rs n=fun r:Nat=>bst (candL g nl o e x nx env ds rs n (r:Int)):=by
 funext r
 unfold bests;rw[lst_cand _ _ _ _ _ _ _ _ _ _ _ hn hv he]
theorem one_router {l:Nat→Nat} {s:Ss} {g x f:R} {o e:List Int} (h:netB l s g o e x f=true):1≤l 0:=by
 unfold netB routersB inB at h;simp only[Bool.and_eq_true,decide_eq_true_eq]at h;obtain⟨⟨⟨⟨⟨⟨⟨h1,_⟩,_⟩,_⟩,_⟩,_⟩,_⟩,_⟩:=h;omega
end Go.Proofs.YtcnoemjeijjnjaaGreat.stabFace
namespace Go.Proofs.YtcnoemjeijjnjaaGreat.lawNets
open Go.ChangeShapes Go.WideShapes Go.ChangeAt Go.RowKit Go.Deep Go.Joins Go base args netSem netMath routeRow rtsRow candEnv stabImpl source
theorem bytes_below {w w1:World} {a:Option Addr} {len:Nat} (h:Bytes w a len) (hb:Below w.heap.size w w1):Bytes w1 a len:=fun i hi=>by
 obtain⟨b,o,e,x,hx,hc⟩:=h i hi;exact⟨b,o,e,x,hx,keep hb hc⟩
theorem bytes_of_trod {H:Type} {enc:TypeId × Value→H} {P:Program} {w:World} {base:Nat} {held:Bool} {t e:TypeId} {fuel:Nat} {v:Value} {x:DataW H × List MemPlace} (ht:P.underlying t=some (.slice e)) (he:P.underlying e=some (.int .u8)) (ce:P.cellsOf e=1)
  (h:DataW.trod enc P w base (fun _=>true) held fuel t [v]=some x):∃a len cap,v=.slice a len cap∧Bytes w a len∧len≤maxLen:=by
 rcases open_ints ht he ce h with ⟨hcs,_⟩|⟨x,l,c,zs,hcs,_,hl,hm,hz,_,hcell,hwz⟩
 · exact⟨none,0,0,by simpa using hcs,fun i hi=>absurd hi (Nat.not_lt_zero _),Nat.zero_le _⟩
 simp only[if_true]at hz;refine⟨some x,l,c,by simpa using hcs,fun i hi=>?_,Nat.le_trans hl hm⟩;obtain⟨e1,e2⟩:=at_none (hcell 0 Om) (hcell i Om);have hi':i<zs.length:=by omega
 have hw:=hwz zs[i] (List.getElem_mem hi')
 have hr:0≤zs[i]∧zs[i]<256:=by
  simp[Lit.wf,IntKind.min,IntKind.max,IntKind.bits,IntKind.signed]at hw;omega
 obtain⟨y,hy⟩:=Int.eq_ofNat_of_zero_le hr.1;refine⟨x.block,x.off,by rw[←e1],y,by omega,?_⟩;rw[e2,List.getD_eq_getElem?_getD,List.getElem?_eq_getElem hi',Option.getD_some,hy]
def OwnBools (B : Nat) (w : World) (v : Value) (zs : List Bool) : Prop := w.ownsRow B 4 1 v zs.length (zs.map Value.bool)
theorem OwnBools.form {B:Nat} {w:World} {v:Value} {zs:List Bool} (h:OwnBools B w v zs):∃a cap,v=.slice a zs.length cap∧BoolRow w a zs.length zs:=by
 obtain⟨h1,h2⟩:=h;rcases h2 with ⟨rfl,hn⟩|⟨g,cap,cur,rfl,hb,hh,hn,hm,hs,ht⟩
 · exact⟨none,0,by rw[hn],⟨rfl,by rw[hn];exact Nat.zero_le _,fun i hi=>by omega⟩⟩
 refine⟨some ⟨g,0,none⟩,cap,rfl,⟨rfl,Nat.le_trans hn hm,fun i hi=>⟨g,0,rfl,?_⟩⟩⟩
 have h3:cur[i]? = some (.bool (zs[i]?.getD false)):=by
  have:(cur.toList.take (zs.length*1))[i]? = (zs.map Value.bool)[i]?:=by rw[ht]
  rw[List.getElem?_take,if_pos Om]at this;rw[←Array.getElem?_toList,this,List.getElem?_map,List.getElem?_eq_getElem hi];rfl
 simp[World.cell?,hh,h3]
theorem net_small {l:Nat→Nat} {s:Ss} {g x f:R} {o e:List Int} (h:netB l s g o e x f=true):(1≤l 0∧l 0≤4)∧l 1≤6∧l 3≤2∧(∀i,i<l 1→1≤g i 2):=by
 unfold netB routersB linksB inB at h;simp only[Bool.and_eq_true,decide_eq_true_eq,allN_iff]at h;obtain⟨⟨⟨⟨⟨⟨⟨h1,_⟩,⟨h2,h3⟩⟩,_⟩,_⟩,h4⟩,_⟩,_⟩:=h;refine⟨by omega,h2,h4,fun i hi=>?_⟩;have:=h3 i hi;unfold linkB inB at this;simp only[Bool.and_eq_true,decide_eq_true_eq]at this;omega
theorem env_good {zs:List Int} {dl:Nat} (h:∀z∈zs,0≤z∧z<3) (hz:zs.length≤4096) (hd:dl≤4096):envC true zs.length dl zs.length dl zs=0:=by
 unfold envC;rw[if_neg Om,if_neg (by decide),if_neg (by simp),if_pos ?_];refine allN_of fun i hi=>?_;unfold inB zAt;rw[List.getElem?_eq_getElem hi];have:=h _ (List.getElem_mem hi);exact decide_eq_true (by simp only[Option.getD_some];omega)
theorem env_pos {zs:List Int} (h:∀z∈zs,0≤z∧z<3) (i:Nat):0≤zAt zs i:=by
 unfold zAt;by_cases hi:i<zs.length
 · rw[List.getElem?_eq_getElem hi];exact(h _ (List.getElem_mem hi)).1
 rw[List.getElem?_eq_none Om];exact Int.le_refl _
theorem first_at {p:Nat→Bool} {n:Nat} (h:0≤firstAt p n):p (firstAt p n).toNat=true:=by
 unfold firstAt at h ⊢
 cases e:(List.range n).find? p with
 | none=>rw[e]at h;exact absurd h (by decide)
 | some i =>
  have:=List.find?_some e;simpa using this
end Go.Proofs.YtcnoemjeijjnjaaGreat.lawNets
namespace Go.Proofs.YtcnoemjeijjnjaaGreat.propSem
open Go.RowKit Go.Deep base names netSem
def propB (nb : Bool) (r : Nat) (k fr po wy : Int) : Bool := nb&&inB k 1 4&&inB fr 0 (r - 1)&&inB po (-1) 15&&(if k=3 then inB wy 0 (r - 1) else decide (wy=0))
theorem netB_in {l:Nat→Nat} {s:Ss} {g x f:R} {o e:List Int} (h:netB l s g o e x f=true):1≤l 0∧l 0≤4:=by
 unfold netB routersB inB at h;simp only[Bool.and_eq_true,decide_eq_true_eq]at h;obtain⟨⟨⟨⟨⟨⟨⟨h1,_⟩,_⟩,_⟩,_⟩,_⟩,_⟩,_⟩:=h;omega
theorem prop_eq {r:Nat} {k fr po wy:Int} {b1 b2 b3 b4 b5 b6 b7:Bool} (hr:1≤r) (e1:inB k 1 4=b1) (e2:inB fr 0 (r - 1)=b2) (e3:(po==-1)=b3) (e4:inB po 0 15=b4) (e5:(wy==0)=b5) (e6:(k==3)=b6) (e7:inB wy 0 (r - 1)=b7) :
  propB true r k fr po wy=(b1&&b2&&(b3||b4)&&(b5||b6&&b7)):=by
 subst e1 e2 e3 e4 e5 e6 e7
 have h3:inB po (-1) 15=(po==-1||inB po 0 15):=by
  rw[Bool.eq_iff_iff];simp[inB];omega
 have h5:(if k=3 then inB wy 0 (r - 1) else decide (wy=0))=(wy==0||k==3&&inB wy 0 (r - 1)):=by
  by_cases hk:k=3
  · rw[if_pos hk,Bool.eq_iff_iff];simp[inB,hk];omega
  rw[if_neg hk,Bool.eq_iff_iff];simp[hk]
 unfold propB;rw[h3,h5,Bool.true_and]
theorem prop_eq' {nb:Bool} {r:Nat} {k fr po wy:Int} {b1 b2 b3 b4 b5 b6:Bool} (e1:inB k 1 4=b1) (e2:inB fr 0 (r - 1)=b2) (e3:inB po (-1) 15=b3) (e4:(k==3)=b4) (e5:inB wy 0 (r - 1)=b5) (e6:(wy==0)=b6) :
  propB nb r k fr po wy=(nb&&b1&&b2&&b3&&(if b4 then b5 else b6)):=by
 subst e1 e2 e3 e4 e5 e6;unfold propB;by_cases hk:k=3
 · simp[hk]
 simp[hk]
 intros
 rw[Bool.eq_iff_iff];simp
end Go.Proofs.YtcnoemjeijjnjaaGreat.propSem
namespace Go.Proofs.YtcnoemjeijjnjaaGreat.propDraw
open Go.RowKit Go.Deep Go base copy netSem netSpec source intsOwn drawnLin drawnSrc propSem
open drawn (slots_inj)
def PropIn (kind fr pp way : Int) (n : Nat) : Prop := (1≤kind∧kind≤4)∧(0≤fr∧fr<n)∧(-1≤pp∧pp≤15)∧(if kind=3 then 0≤way∧way<n else way=0)
theorem prop_in {kind fr pp way:Int} {n:Nat} (h:PropIn kind fr pp way n):propB true n kind fr pp way=true:=by
 obtain⟨h1,h2,h3,h4⟩:=h;unfold propB inB;simp only[Bool.true_and,Bool.and_eq_true,decide_eq_true_eq];refine⟨⟨⟨by omega,by omega⟩,by omega⟩,?_⟩;by_cases e:kind=3
 · rw[if_pos e]at h4 ⊢;simp only[decide_eq_true_eq];omega
 rw[if_neg e]at h4 ⊢;simp[h4]
theorem grown_end {w w':World} {b:Nat} (hc:Chg (fun j=>j=b∨w.heap.size≤j) w w'):w.grownBy w' (some b):=⟨hc.os,hc.tape,hc.output,hc.size,fun q hq hne=>hc.block q hq (by rintro (h9|h9);exact hne (by rw[h9]);omega)⟩
theorem src_chg {wr w2:World} {b len cap k:Nat} {a:Option Addr} {X:Nat→Prop} (h:Src wr b a len cap k) (hc:Chg X wr w2) (hX:∀j,j≤b→¬X j):Src w2 b a len cap k:=by
 obtain⟨h1,⟨n,s,p1,p2,p3,p4,hr⟩,h3⟩:=h;refine⟨h1,⟨n,s,p1,p2,p3,p4,hr.of_block (hc.block b hr.lt (hX b (Nat.le_refl _)))⟩,fun i hi=>?_⟩;obtain⟨bb,off,e,hlt,x,hx,hcc⟩:=h3 i hi;exact⟨bb,off,e,hlt,x,hx,hc.cell (hX bb Om) hcc⟩
set_option maxHeartbeats 3200000 in
set_option maxRecDepth 16000 in
theorem property_src (b:Nat) (a:Option Addr) (len cap k:Nat) (p:Nat→Option Addr) (l c:Nat→Nat) (w:World) (h:Src w b a len cap k) (hk:k≤100000) (hbw:b<w.heap.size) (h1:1≤l 0) (h4:l 0≤200) :
  Calls Tryz.prog 18 #[.pointer (some ⟨b,0,none⟩),netV p l c] w fun e' w'=>(∃kind fr pp way:Int,e' = .returned (.agg #[.int .i64 kind,.int .i64 fr,.int .i64 pp,.int .i64 way])∧PropIn kind fr pp way (l 0))∧w.grownBy w' (some b):=by
 obtain⟨W1,hW1⟩:∃W1,((w.alloc (.cells #[.slice (p 0) (l 0) (c 0),.slice (p 1) (l 1) (c 1),.slice (p 2) (l 2) (c 2),.slice (p 3) (l 3) (c 3),.slice (p 4) (l 4) (c 4),.slice (p 5) (l 5) (c 5)] 29)).alloc (.cells #[.int .i64 0,.int .i64 0,.int .i64 0,.int .i64 0] 32))=W1:=⟨_,rfl⟩;have HB1:Hid (Below w.heap.size w W1):=hid (by rw[←hW1];exact Bl);have HZ1:W1.heap.size=w.heap.size+2:=by rw[←hW1];simp
 have HC:Hid (∀w8:World,w8.heap[w.heap.size]? = W1.heap[w.heap.size]?→(w8.cell? ⟨w.heap.size,0,none⟩=some (.slice (p 0) (l 0) (c 0))∧w8.cell? ⟨w.heap.size,1,none⟩=some (.slice (p 1) (l 1) (c 1))∧w8.cell? ⟨w.heap.size,2,none⟩=some (.slice (p 2) (l 2) (c 2))∧w8.cell? ⟨w.heap.size,3,none⟩=some (.slice (p 3) (l 3) (c 3))∧w8.cell? ⟨w.heap.size,4,none⟩=some (.slice (p 4) (l 4) (c 4))∧w8.cell? ⟨w.heap.size,5,none⟩=some (.slice (p 5) (l 5) (c 5)))):=hid (fun w8 hb=>by
  have h:∀o,w8.cell? ⟨w.heap.size,o,none⟩=W1.cell? ⟨w.heap.size,o,none⟩:=fun o=>World.cell?_of_block hb;rw[h,h,h,h,h,h,←hW1]
  exact⟨by simp[go_sem],by simp[go_sem],by simp[go_sem],by simp[go_sem],by simp[go_sem],by simp[go_sem]⟩)
 have HR:Hid (∀w8:World,w8.heap[w.heap.size+1]? = W1.heap[w.heap.size+1]?→(w8.cell? ⟨w.heap.size+1,0,none⟩=some (.int .i64 0)∧w8.cell? ⟨w.heap.size+1,1,none⟩=some (.int .i64 0)∧w8.cell? ⟨w.heap.size+1,2,none⟩=some (.int .i64 0)∧w8.cell? ⟨w.heap.size+1,3,none⟩=some (.int .i64 0))∧∀i,w8.frozen? ⟨w.heap.size+1,i,none⟩=false):=hid (fun w8 hb=>by
  have h:∀o,w8.cell? ⟨w.heap.size+1,o,none⟩=W1.cell? ⟨w.heap.size+1,o,none⟩:=fun o=>World.cell?_of_block hb;have h':∀o,w8.frozen? ⟨w.heap.size+1,o,none⟩=W1.frozen? ⟨w.heap.size+1,o,none⟩:=fun o=>World.frozen?_of_block hb;rw[h,h,h,h,←hW1];refine⟨⟨by simp[go_sem],by simp[go_sem],by simp[go_sem],by simp[go_sem]⟩,fun i=>?_⟩;rw[h',←hW1]
  simp[go_sem])
 have HS:=hid (h.below (show Below w.heap.size w W1 from HB1.out));have HW1:=hid hW1;clear h hW1;unfold netV;go_enter Tryz.func18,Tryz.ntmps18;go_wp2_with fail;rw[HW1.out];refine region_src (fun uu=>⟨#[.pointer (some ⟨b,0,none⟩),.agg #[.slice (p 0) (l 0) (c 0),.slice (p 1) (l 1) (c 1),.slice (p 2) (l 2) (c 2),.slice (p 3) (l 3) (c 3),.slice (p 4) (l 4) (c 4),.slice (p 5) (l 5) (c 5)],undef,.pointer (some ⟨w.heap.size,0,none⟩),.pointer (some ⟨w.heap.size+1,0,none⟩),uu 5,uu 6,uu 7,uu 8,uu 9,uu 10,uu 11,uu 12,uu 13,uu 14,uu 15,uu 16,uu 17,undef,undef,undef,undef,undef,undef,undef,undef,undef,undef,undef,undef,undef,undef],[]⟩) (fun i=>[6,7,8,9,10,11,12,13,14,15,16,17,5].getD i 0) (fun i v w8=>match i with|0=>v=.pointer (some ⟨b,0,none⟩)|1=>∃r:Int,v=.int .i64 r∧0≤r∧r<4|2=>∃r:Int,v=.int .i64 r∧1≤r∧r≤4|3=>v=.pointer (some ⟨b,0,none⟩)|4=>v=.pointer (some ⟨w.heap.size,0,none⟩)|5=>v=.slice (p 0) (l 0) (c 0)|6=>v=.int .i64 (l 0:Int)|7=>∃r:Int,v=.int .i64 r∧0≤r∧r<(l 0:Int)|8=>v=.pointer (some ⟨b,0,none⟩)|9=>∃r:Int,v=.int .i64 r∧0≤r∧r<18|10=>∃r:Int,v=.int .i64 r∧-1≤r∧r≤16|11=>∃x y z:Int,v=.agg #[.int .i64 x,.int .i64 y,.int .i64 z,.int .i64 0]∧(1≤x∧x≤4)∧(0≤y∧y<(l 0:Int))∧(-1≤z∧z≤16)|12=>∃N:Nat,v=.pointer (some ⟨N,0,none⟩)∧W1.heap.size≤N∧w8.rowIs N 32 4 (fun _=>.int .i64 0)|_=>True) (fun _=>True) (fun _=>False) W1 13 99 b a len cap (k) (fun k=>match k with|6=>undef|7=>undef|8=>undef|9=>undef|10=>undef|11=>undef|12=>undef|13=>undef|14=>undef|15=>undef|16=>undef|17=>undef|5=>undef|_=>undef) (by rfl) Kr (by rfl) ⟨by kernel_rfl,by kernel_rfl,by kernel_rfl,by decide⟩ Kr (Chg.refl _ _) HS.out trivial ?hput ?hinj ?stable ?stable0 ?step ?last
 case hput =>
  intro i hi uu v
  iterate 13 (rcases i with _|i;rfl)
  exact absurd hi Om
 case hinj =>
  intro i j hi hj h;exact slots_inj [6,7,8,9,10,11,12,13,14,15,16,17,5] (by decide) hi hj h
 case stable =>
  intro i v w8 w9 hb h
  iterate 13 (rcases i with _|i;(first|exact h|(obtain⟨N,e9,hN,hrw⟩:=h;exact⟨N,e9,hN,hrw.of_block (hb.block N hrw.lt (by rintro (h9|h9);omega;exact h9.2))⟩)))
  trivial
 case stable0 =>
  intro w8 w9 hb h;exact trivial
 case step =>
  intro i hi uu w8 k8 S8 Sr hk8 hq hdep
  match i,hi,hq,hdep with
  | 0,_,hq,hdep =>
   clear hdep;refine⟨_,rfl,fun K' hK=>?_⟩;go_simp;exact hK.out _ _ (Chg.refl _ _) (Sr.mono Om) (rfl)
  | 1,_,hq,hdep =>
   have h0:(uu 6)=.pointer (some ⟨b,0,none⟩):=hdep 0 Kr;clear hdep;refine⟨_,rfl,fun K' hK=>?_⟩;simp only[h0]at hK ⊢;go_simp;refine(next_src b a len cap k8 (4) _ Sr Om Om Om).mono ?_;rintro e9 w9 ⟨r9,rfl,h90,h91,hs9,hg9⟩;exact hK.out _ _ (Chg.of_grown hg9 (fun k e=>by first|exact .inl (by injection e with e;exact e.symm)|(injection e with e;exact e.symm))) hs9 ⟨r9,rfl,h90,h91⟩
  | 2,_,hq,hdep =>
   have h1:∃r:Int,(uu 7)=.int .i64 r∧0≤r∧r<4:=hdep 1 Kr;clear hdep;refine⟨_,rfl,fun K' hK=>?_⟩;obtain⟨r,e9,h90,h91⟩:=h1;simp only[e9]at hK ⊢;go_simp;exact hK.out _ _ (Chg.refl _ _) (Sr.mono Om) ⟨1+r,by rw[IntKind.wrap_i64];congr 1;omega,by omega,by omega⟩
  | 3,_,hq,hdep =>
   clear hdep;refine⟨_,rfl,fun K' hK=>?_⟩;go_simp;exact hK.out _ _ (Chg.refl _ _) (Sr.mono Om) (rfl)
  | 4,_,hq,hdep =>
   clear hdep;refine⟨_,rfl,fun K' hK=>?_⟩;go_simp;exact hK.out _ _ (Chg.refl _ _) (Sr.mono Om) (rfl)
  | 5,_,hq,hdep =>
   have h4:(uu 10)=.pointer (some ⟨w.heap.size,0,none⟩):=hdep 4 Kr;clear hdep;refine⟨_,rfl,fun K' hK=>?_⟩;obtain⟨c0,c1,c2,c3,c4,c5⟩:=HC.out w8 (S8.block _ Om (by rintro (h9|h9);omega;exact h9));simp only[h4]at hK ⊢;go_simp;exact hK.out _ _ (Chg.refl _ _) (Sr.mono Om) (rfl)
  | 6,_,hq,hdep =>
   have h5:(uu 11)=.slice (p 0) (l 0) (c 0):=hdep 5 Kr;clear hdep;refine⟨_,rfl,fun K' hK=>?_⟩;simp only[h5]at hK ⊢;go_simp;exact hK.out _ _ (Chg.refl _ _) (Sr.mono Om) (rfl)
  | 7,_,hq,hdep =>
   have h3:(uu 9)=.pointer (some ⟨b,0,none⟩):=hdep 3 Kr;have h6:(uu 12)=.int .i64 (l 0:Int):=hdep 6 Kr;clear hdep;refine⟨_,rfl,fun K' hK=>?_⟩;simp only[h3,h6]at hK ⊢;go_simp;refine(next_src b a len cap k8 ((l 0:Int)) _ Sr Om Om Om).mono ?_;rintro e9 w9 ⟨r9,rfl,h90,h91,hs9,hg9⟩;exact hK.out _ _ (Chg.of_grown hg9 (fun k e=>by first|exact .inl (by injection e with e;exact e.symm)|(injection e with e;exact e.symm))) hs9 ⟨r9,rfl,h90,h91⟩
  | 8,_,hq,hdep =>
   clear hdep;refine⟨_,rfl,fun K' hK=>?_⟩;go_simp;exact hK.out _ _ (Chg.refl _ _) (Sr.mono Om) (rfl)
  | 9,_,hq,hdep =>
   have h8:(uu 14)=.pointer (some ⟨b,0,none⟩):=hdep 8 Kr;clear hdep;refine⟨_,rfl,fun K' hK=>?_⟩;simp only[h8]at hK ⊢;go_simp;refine(next_src b a len cap k8 (18) _ Sr Om Om Om).mono ?_;rintro e9 w9 ⟨r9,rfl,h90,h91,hs9,hg9⟩;exact hK.out _ _ (Chg.of_grown hg9 (fun k e=>by first|exact .inl (by injection e with e;exact e.symm)|(injection e with e;exact e.symm))) hs9 ⟨r9,rfl,h90,h91⟩
  | 10,_,hq,hdep =>
   have h9:∃r:Int,(uu 15)=.int .i64 r∧0≤r∧r<18:=hdep 9 Kr;clear hdep;refine⟨_,rfl,fun K' hK=>?_⟩;obtain⟨r,e9,h90,h91⟩:=h9;simp only[e9]at hK ⊢;go_simp;exact hK.out _ _ (Chg.refl _ _) (Sr.mono Om) ⟨r - 1,by rw[IntKind.wrap_i64];congr 1;omega,by omega,by omega⟩
  | 11,_,hq,hdep =>
   have h2:∃r:Int,(uu 8)=.int .i64 r∧1≤r∧r≤4:=hdep 2 Kr;have h7:∃r:Int,(uu 13)=.int .i64 r∧0≤r∧r<(l 0:Int):=hdep 7 Kr;have h10:∃r:Int,(uu 16)=.int .i64 r∧-1≤r∧r≤16:=hdep 10 Kr;clear hdep;refine⟨_,rfl,fun K' hK=>?_⟩;obtain⟨x,e2,x1,x2⟩:=h2;obtain⟨y,e7,y1,y2⟩:=h7;obtain⟨z,e10,z1,z2⟩:=h10;simp only[e2,e7,e10]at hK ⊢;go_simp;exact hK.out _ _ (Chg.refl _ _) (Sr.mono Om) ⟨x,y,z,rfl,⟨x1,x2⟩,⟨y1,y2⟩,z1,z2⟩
  | 12,_,hq,hdep =>
   clear hdep;refine⟨_,rfl,fun K' hK=>?_⟩;go_simp
   exact hK.out _ _ (Chg.of_below Bl) ((Sr.below Bl).mono Om) ⟨w8.heap.size,rfl,S8.size,World.rowIs_alloc w8 #[.int .i64 0,.int .i64 0,.int .i64 0,.int .i64 0] _ _ (fun i hi=>by
    have h3:i<4:=hi
    rcases (show i=0∨i=1∨i=2∨i=3 by omega) with rfl|rfl|rfl|rfl<;>rfl)⟩
  | i+13,hi,_,_=>exact absurd hi Om
 intro uu w8 S8 Sr hall;have h11:∃x y z:Int,(uu 17)=.agg #[.int .i64 x,.int .i64 y,.int .i64 z,.int .i64 0]∧(1≤x∧x≤4)∧(0≤y∧y<(l 0:Int))∧(-1≤z∧z≤16):=hall 11 (by decide);have h12:∃N:Nat,(uu 5)=.pointer (some ⟨N,0,none⟩)∧W1.heap.size≤N∧w8.rowIs N 32 4 (fun _=>.int .i64 0):=hall 12 (by decide);clear hall;refine⟨_,rfl,fun K' hK=>?_⟩;obtain⟨x,y,z,e8,hx,hy,hz⟩:=h11;obtain⟨N,e9,hN,hrw⟩:=h12;simp only[e8,e9]at hK ⊢;have n0:w8.cell? ⟨N,0,none⟩=some (.int .i64 0):=hrw.cell (i:=0) Om;have n1:w8.cell? ⟨N,1,none⟩=some (.int .i64 0):=hrw.cell (i:=1) Om;have n2:w8.cell? ⟨N,2,none⟩=some (.int .i64 0):=hrw.cell (i:=2) Om;have n3:w8.cell? ⟨N,3,none⟩=some (.int .i64 0):=hrw.cell (i:=3) Om;have z0:=hrw.frozen 0;have z1:=hrw.frozen 1;have z2:=hrw.frozen 2;have z3:=hrw.frozen 3
 have HRw:Hid (World.rowIs ((((w8.setCell ⟨N,0,none⟩ (.int .i64 x)).setCell ⟨N,1,none⟩ (.int .i64 y)).setCell ⟨N,2,none⟩ (.int .i64 z)).setCell ⟨N,3,none⟩ (.int .i64 0)) N 32 4 (fun i=>.int .i64 (if i=0 then x else if i=1 then y else if i=2 then z else 0))):=hid (((((hrw.set 0 _).set 1 _).set 2 _).set 3 _).congr (fun i hi=>by
  rcases (show i=0∨i=1∨i=2∨i=3 by omega) with rfl|rfl|rfl|rfl<;>rfl))
 have hcN:Chg (fun j=>j=N) w8 ((((w8.setCell ⟨N,0,none⟩ (.int .i64 x)).setCell ⟨N,1,none⟩ (.int .i64 y)).setCell ⟨N,2,none⟩ (.int .i64 z)).setCell ⟨N,3,none⟩ (.int .i64 0)):=((((Chg.refl (fun j=>j=N) w8).set (.inl rfl) _).set (.inl rfl) _).set (.inl rfl) _).set (.inl rfl) _;have HcA:Hid (Chg (fun j=>j=b∨j=N) W1 ((((w8.setCell ⟨N,0,none⟩ (.int .i64 x)).setCell ⟨N,1,none⟩ (.int .i64 y)).setCell ⟨N,2,none⟩ (.int .i64 z)).setCell ⟨N,3,none⟩ (.int .i64 0))):=hid (Chg.trans (S8.mono fun j hj=>by rcases hj with hj|hj;exact .inl hj;exact hj.elim) (hcN.mono fun j hj=>.inr hj));have HsA:Hid (Src ((((w8.setCell ⟨N,0,none⟩ (.int .i64 x)).setCell ⟨N,1,none⟩ (.int .i64 y)).setCell ⟨N,2,none⟩ (.int .i64 z)).setCell ⟨N,3,none⟩ (.int .i64 0)) b a len cap (k+13)):=hid (src_chg Sr hcN (fun j hj hx=>by have h3:j=N:=hx;omega));clear hcN;go_simp;refine hK.out _ _ ?_;clear hK K' n0 n1 n2 n3 z0 z1 z2 z3 hrw e8 e9 S8 Sr
 (try simp only[Exit.then])
 obtain⟨wA,hwA⟩:∃wA,((((w8.setCell ⟨N,0,none⟩ (.int .i64 x)).setCell ⟨N,1,none⟩ (.int .i64 y)).setCell ⟨N,2,none⟩ (.int .i64 z)).setCell ⟨N,3,none⟩ (.int .i64 0))=wA:=⟨_,rfl⟩;rw[hwA]at HRw HcA HsA ⊢;clear hwA;have hNw:N<wA.heap.size:=HRw.out.lt;have m0:wA.cell? ⟨N,0,none⟩=some (.int .i64 x):=HRw.out.cell (i:=0) Om;have m1:wA.cell? ⟨N,1,none⟩=some (.int .i64 y):=HRw.out.cell (i:=1) Om;have m2:wA.cell? ⟨N,2,none⟩=some (.int .i64 z):=HRw.out.cell (i:=2) Om;have m3:wA.cell? ⟨N,3,none⟩=some (.int .i64 0):=HRw.out.cell (i:=3) Om;have z0:=HRw.out.frozen 0;have z1:=HRw.out.frozen 1;have z2:=HRw.out.frozen 2;have z3:=HRw.out.frozen 3;obtain⟨⟨r0,r1,r2,r3⟩,hfz⟩:=HR.out wA (HcA.out.block _ Om (by rintro (h9|h9)<;>omega));have t0:=hfz 0;have t1:=hfz 1;have t2:=hfz 2;have t3:=hfz 3;have hne:N≠w.heap.size+1:=by omega
 have hne':w.heap.size+1≠N:=by omega
 obtain⟨c0,c1,c2,c3,c4,c5⟩:=HC.out wA (HcA.out.block _ Om (by rintro (h9|h9)<;>omega));have hne2:N≠w.heap.size:=by omega
 have hne3:w.heap.size≠N:=by omega
 have HG:Hid (Chg (fun j=>j=b∨w.heap.size≤j) w wA):=hid (Chg.trans (Chg.of_below HB1.out) (HcA.out.mono fun j hj=>by rcases hj with hj|hj;exact .inl hj;exact .inr Om));clear hfz HcA HRw HR HC HB1 HW1 HS;by_cases hgt:z > 15
 · by_cases h3:x=3
   · go_wp2_with fail;have HsQ:Hid (Src (wA.setCell ⟨N,2,none⟩ (.int .i64 (-1))) b a len cap (k+13)):=hid (src_chg HsA.out (X:=fun j=>j=N) ((Chg.refl (fun j=>j=N) wA).set (.inl rfl) _) (fun j hj hx=>by have h9:j=N:=hx;omega));refine(next_src b a len cap (k+13) (l 0:Int) _ HsQ.out Om Om Om).mono ?_;rintro e9 w9 ⟨r9,rfl,hr0,hr1,-,hg9⟩;have HG9:Hid (Chg (fun j=>j=b∨w.heap.size≤j) w w9):=hid (Chg.trans ((HG.out).set (q:=N) (o:=2) (.inr Om) _) (Chg.of_grown hg9 (fun k e=>by injection e with e;exact .inl e.symm)));have K9:∀q,q≠b→q<(wA.setCell ⟨N,2,none⟩ (.int .i64 (-1))).heap.size→w9.heap[q]? = (wA.setCell ⟨N,2,none⟩ (.int .i64 (-1))).heap[q]?:=fun q hq hl=>hg9.block q hl (by intro h;injection h with h;exact hq h);have KC:∀q o v,q≠b→(wA.setCell ⟨N,2,none⟩ (.int .i64 (-1))).cell? ⟨q,o,none⟩=some v→w9.cell? ⟨q,o,none⟩=some v:=fun q o v hq hc=>(World.cell?_of_block (a:=⟨q,o,none⟩) (K9 q hq (World.block_lt_of_cell? _ _ hc))).trans hc;have KF:∀q o,q≠b→q<(wA.setCell ⟨N,2,none⟩ (.int .i64 (-1))).heap.size→(wA.setCell ⟨N,2,none⟩ (.int .i64 (-1))).frozen? ⟨q,o,none⟩=false→w9.frozen? ⟨q,o,none⟩=false:=fun q o hq hl hc=>(World.frozen?_of_block (a:=⟨q,o,none⟩) (K9 q hq hl)).trans hc;have hSz:(wA.setCell ⟨N,2,none⟩ (.int .i64 (-1))).heap.size=wA.heap.size:=by simp
     have a0:=KC N 0 (.int .i64 x) Om (by simp[go_sem,m0]);have a1:=KC N 1 (.int .i64 y) Om (by simp[go_sem,m1]);have a2:=KC N 2 (.int .i64 (-1)) Om (by simp[go_sem,m2]);have a3:=KC N 3 (.int .i64 0) Om (by simp[go_sem,m3]);have b0:=KC (w.heap.size+1) 0 (.int .i64 0) Om (by simp[go_sem,r0]);have b1:=KC (w.heap.size+1) 1 (.int .i64 0) Om (by simp[go_sem,r1]);have b2:=KC (w.heap.size+1) 2 (.int .i64 0) Om (by simp[go_sem,r2]);have b3:=KC (w.heap.size+1) 3 (.int .i64 0) Om (by simp[go_sem,r3]);have f0:=KF N 3 Om Om (by simp[go_sem,z3]);have g0:=KF (w.heap.size+1) 0 Om (by have:=World.block_lt_of_cell? _ _ r0;omega) (by simp[go_sem,t0]);have g1:=KF (w.heap.size+1) 1 Om (by have:=World.block_lt_of_cell? _ _ r0;omega) (by simp[go_sem,t1]);have g2:=KF (w.heap.size+1) 2 Om (by have:=World.block_lt_of_cell? _ _ r0;omega) (by simp[go_sem,t2]);have g3:=KF (w.heap.size+1) 3 Om (by have:=World.block_lt_of_cell? _ _ r0;omega) (by simp[go_sem,t3]);clear K9 KC KF hg9 HsQ HG HsA m0 m1 m2 m3 r0 r1 r2 r3 z0 z1 z2 z3 t0 t1 t2 t3;go_wp2;refine bodyPost_ret (v:=.agg #[.int .i64 x,.int .i64 y,.int .i64 (-1),.int .i64 r9]) (by simp[results,Tryz.results18,go_sem,h3,b0,b1,b2,b3]) rfl ?_;refine⟨⟨x,y,(-1),r9,rfl,hx,hy,by omega,by first|(rw[if_pos h3];exact⟨hr0,hr1⟩)|(rw[if_neg h3])⟩,?_⟩;exact grown_end (((((HG9.out.set (q:=N) (o:=3) (.inr Om) _).set (q:=w.heap.size+1) (o:=0) (.inr Om) _).set (q:=w.heap.size+1) (o:=1) (.inr Om) _).set (q:=w.heap.size+1) (o:=2) (.inr Om) _).set (q:=w.heap.size+1) (o:=3) (.inr Om) _)
   go_wp2;refine bodyPost_ret (v:=.agg #[.int .i64 x,.int .i64 y,.int .i64 (-1),.int .i64 0]) (by simp[results,Tryz.results18,go_sem,r0,r1,r2,r3]) rfl ?_;refine⟨⟨x,y,(-1),0,rfl,hx,hy,by omega,by first|(rw[if_pos h3];exact⟨hr0,hr1⟩)|(rw[if_neg h3])⟩,?_⟩;exact grown_end ((((((HG.out).set (q:=N) (o:=2) (.inr Om) _).set (q:=w.heap.size+1) (o:=0) (.inr Om) _).set (q:=w.heap.size+1) (o:=1) (.inr Om) _).set (q:=w.heap.size+1) (o:=2) (.inr Om) _).set (q:=w.heap.size+1) (o:=3) (.inr Om) _)
 by_cases h3:x=3
 · go_wp2_with fail;have HsQ:Hid (Src wA b a len cap (k+13)):=hid HsA.out;refine(next_src b a len cap (k+13) (l 0:Int) _ HsQ.out Om Om Om).mono ?_;rintro e9 w9 ⟨r9,rfl,hr0,hr1,-,hg9⟩;have HG9:Hid (Chg (fun j=>j=b∨w.heap.size≤j) w w9):=hid (Chg.trans HG.out (Chg.of_grown hg9 (fun k e=>by injection e with e;exact .inl e.symm)));have K9:∀q,q≠b→q<wA.heap.size→w9.heap[q]? = wA.heap[q]?:=fun q hq hl=>hg9.block q hl (by intro h;injection h with h;exact hq h);have KC:∀q o v,q≠b→wA.cell? ⟨q,o,none⟩=some v→w9.cell? ⟨q,o,none⟩=some v:=fun q o v hq hc=>(World.cell?_of_block (a:=⟨q,o,none⟩) (K9 q hq (World.block_lt_of_cell? _ _ hc))).trans hc;have KF:∀q o,q≠b→q<wA.heap.size→wA.frozen? ⟨q,o,none⟩=false→w9.frozen? ⟨q,o,none⟩=false:=fun q o hq hl hc=>(World.frozen?_of_block (a:=⟨q,o,none⟩) (K9 q hq hl)).trans hc;have hSz:wA.heap.size=wA.heap.size:=by simp
   have a0:=KC N 0 (.int .i64 x) Om (by simp[go_sem,m0]);have a1:=KC N 1 (.int .i64 y) Om (by simp[go_sem,m1]);have a2:=KC N 2 (.int .i64 z) Om (by simp[go_sem,m2]);have a3:=KC N 3 (.int .i64 0) Om (by simp[go_sem,m3]);have b0:=KC (w.heap.size+1) 0 (.int .i64 0) Om (by simp[go_sem,r0]);have b1:=KC (w.heap.size+1) 1 (.int .i64 0) Om (by simp[go_sem,r1]);have b2:=KC (w.heap.size+1) 2 (.int .i64 0) Om (by simp[go_sem,r2]);have b3:=KC (w.heap.size+1) 3 (.int .i64 0) Om (by simp[go_sem,r3]);have f0:=KF N 3 Om Om (by simp[go_sem,z3]);have g0:=KF (w.heap.size+1) 0 Om (by have:=World.block_lt_of_cell? _ _ r0;omega) (by simp[go_sem,t0]);have g1:=KF (w.heap.size+1) 1 Om (by have:=World.block_lt_of_cell? _ _ r0;omega) (by simp[go_sem,t1]);have g2:=KF (w.heap.size+1) 2 Om (by have:=World.block_lt_of_cell? _ _ r0;omega) (by simp[go_sem,t2]);have g3:=KF (w.heap.size+1) 3 Om (by have:=World.block_lt_of_cell? _ _ r0;omega) (by simp[go_sem,t3]);clear K9 KC KF hg9 HsQ HG HsA m0 m1 m2 m3 r0 r1 r2 r3 z0 z1 z2 z3 t0 t1 t2 t3;go_wp2;refine bodyPost_ret (v:=.agg #[.int .i64 x,.int .i64 y,.int .i64 z,.int .i64 r9]) (by simp[results,Tryz.results18,go_sem,h3,b0,b1,b2,b3]) rfl ?_;refine⟨⟨x,y,z,r9,rfl,hx,hy,by omega,by first|(rw[if_pos h3];exact⟨hr0,hr1⟩)|(rw[if_neg h3])⟩,?_⟩;exact grown_end (((((HG9.out.set (q:=N) (o:=3) (.inr Om) _).set (q:=w.heap.size+1) (o:=0) (.inr Om) _).set (q:=w.heap.size+1) (o:=1) (.inr Om) _).set (q:=w.heap.size+1) (o:=2) (.inr Om) _).set (q:=w.heap.size+1) (o:=3) (.inr Om) _)
 go_wp2;refine bodyPost_ret (v:=.agg #[.int .i64 x,.int .i64 y,.int .i64 z,.int .i64 0]) (by simp[results,Tryz.results18,go_sem,r0,r1,r2,r3]) rfl ?_;refine⟨⟨x,y,z,0,rfl,hx,hy,by omega,by first|(rw[if_pos h3];exact⟨hr0,hr1⟩)|(rw[if_neg h3])⟩,?_⟩;exact grown_end ((((HG.out.set (q:=w.heap.size+1) (o:=0) (.inr Om) _).set (q:=w.heap.size+1) (o:=1) (.inr Om) _).set (q:=w.heap.size+1) (o:=2) (.inr Om) _).set (q:=w.heap.size+1) (o:=3) (.inr Om) _)
end Go.Proofs.YtcnoemjeijjnjaaGreat.propDraw
namespace Go.Proofs.YtcnoemjeijjnjaaGreat.propOf
open Go.RowKit Go.Deep Go base copy netSem netSpec source intsOwn propDraw propSem drawnLin
set_option maxHeartbeats 1600000 in
set_option maxRecDepth 8000 in
theorem propertyOf_spec (a:Option Addr) (len cap:Nat) (p:Nat→Option Addr) (l c:Nat→Nat) (w:World) (h:Bytes w a len) (hlen:len≤1048576) (h1:1≤l 0) (h4:l 0≤200) :
  Calls Tryz.prog 5 #[.slice a len cap,netV p l c] w fun e' w'=>(∃kind fr pp way:Int,e' = .returned (.agg #[.int .i64 kind,.int .i64 fr,.int .i64 pp,.int .i64 way])∧PropIn kind fr pp way (l 0))∧Below w.heap.size w w' := by
 have HS:Hid (∀W:World,Below w.heap.size w W→Calls Tryz.prog 16 #[.slice a len cap] W fun e w'=>∃b,e=.returned (.pointer (some ⟨b,0,none⟩))∧b=W.heap.size∧b<w'.heap.size∧Src w' b a len cap 0∧Below W.heap.size W w'):=hid (fun W hb=>source_spec a len cap W (fun i hi=>by obtain⟨bb,off,e,x,hx,hc⟩:=h i hi;exact⟨bb,off,e,x,hx,keep hb hc⟩) hlen);have HE:Hid (∀(W:World) (b:Nat),Src W b a len cap 0→b<W.heap.size→Calls Tryz.prog 18 #[.pointer (some ⟨b,0,none⟩),netV p l c] W fun e' w'=>(∃kind fr pp way:Int,e' = .returned (.agg #[.int .i64 kind,.int .i64 fr,.int .i64 pp,.int .i64 way])∧PropIn kind fr pp way (l 0))∧W.grownBy w' (some b)):=hid (fun W b hs hb=>property_src b a len cap 0 p l c W hs Om hb h1 h4);clear h;obtain⟨W1,hW1⟩:∃W1,((w.alloc (.cells #[.slice (p 0) (l 0) (c 0),.slice (p 1) (l 1) (c 1),.slice (p 2) (l 2) (c 2),.slice (p 3) (l 3) (c 3),.slice (p 4) (l 4) (c 4),.slice (p 5) (l 5) (c 5)] 29)).alloc (.cells #[.int .i64 0,.int .i64 0,.int .i64 0,.int .i64 0] 32))=W1:=⟨_,rfl⟩;have HBx:Hid (Below w.heap.size w W1):=hid (by rw[←hW1];exact Bl);have HSz:Hid (W1.heap.size=w.heap.size+2):=hid (by rw[←hW1];simp)
 have HKc:Hid (∀w8:World,w8.heap[w.heap.size]? = W1.heap[w.heap.size]?→(w8.cell? ⟨w.heap.size,0,none⟩=some (.slice (p 0) (l 0) (c 0))∧w8.cell? ⟨w.heap.size,1,none⟩=some (.slice (p 1) (l 1) (c 1))∧w8.cell? ⟨w.heap.size,2,none⟩=some (.slice (p 2) (l 2) (c 2))∧w8.cell? ⟨w.heap.size,3,none⟩=some (.slice (p 3) (l 3) (c 3))∧w8.cell? ⟨w.heap.size,4,none⟩=some (.slice (p 4) (l 4) (c 4))∧w8.cell? ⟨w.heap.size,5,none⟩=some (.slice (p 5) (l 5) (c 5)))):=hid (fun w8 hb=>by
  have h:∀o,w8.cell? ⟨w.heap.size,o,none⟩=W1.cell? ⟨w.heap.size,o,none⟩:=fun o=>World.cell?_of_block hb;rw[h,h,h,h,h,h,←hW1]
  exact⟨by simp[go_sem],by simp[go_sem],by simp[go_sem],by simp[go_sem],by simp[go_sem],by simp[go_sem]⟩)
 have HR:Hid (∀w8:World,w8.heap[w.heap.size+1]? = W1.heap[w.heap.size+1]?→(w8.cell? ⟨w.heap.size+1,0,none⟩=some (.int .i64 0)∧w8.cell? ⟨w.heap.size+1,1,none⟩=some (.int .i64 0)∧w8.cell? ⟨w.heap.size+1,2,none⟩=some (.int .i64 0)∧w8.cell? ⟨w.heap.size+1,3,none⟩=some (.int .i64 0))∧∀i,w8.frozen? ⟨w.heap.size+1,i,none⟩=false):=hid (fun w8 hb=>by
  have h:∀o,w8.cell? ⟨w.heap.size+1,o,none⟩=W1.cell? ⟨w.heap.size+1,o,none⟩:=fun o=>World.cell?_of_block hb;have h':∀o,w8.frozen? ⟨w.heap.size+1,o,none⟩=W1.frozen? ⟨w.heap.size+1,o,none⟩:=fun o=>World.frozen?_of_block hb;rw[h,h,h,h,←hW1];refine⟨⟨by simp[go_sem],by simp[go_sem],by simp[go_sem],by simp[go_sem]⟩,fun i=>?_⟩;rw[h',←hW1]
  simp[go_sem])
 have HW1:=hid hW1;clear hW1;unfold netV at HE ⊢;go_enter Tryz.func5,Tryz.ntmps5;go_wp2_with fail;rw[HW1.out];obtain⟨q0,q1,q2,q3,q4,q5⟩:=HKc.out W1 rfl
 go_region_with (first
   | (go_at_call 16;refine(HS.out _ HBx.out.drew).mono ?_;rintro e' w2 ⟨b,rfl,hbe,hbl,hsrc,hb1⟩;have HBe:=hid hbe;clear hbe;have hk1:w2.heap[w.heap.size]? = W1.heap[w.heap.size]?:=hb1.block _ (by have:=HSz.out;show _<W1.heap.size;omega);obtain⟨x0,x1,x2,x3,x4,x5⟩:=HKc.out w2 hk1)
   | (go_at_call 18;refine(HE.out _ b hsrc hbl).mono ?_;rintro e' w3 ⟨⟨kind,fr,pp,way,rfl,hp⟩,hg⟩;have hk3:w3.heap[w.heap.size+1]? = W1.heap[w.heap.size+1]?:=(hg.block _ (by have:=HSz.out;have:=hb1.size;have e9:W1.drew.heap.size=W1.heap.size:=rfl;omega) (by intro h9;injection h9 with h9;have:=HBe.out;have:=HSz.out;have e9:W1.drew.heap.size=W1.heap.size:=rfl;omega)).trans (hb1.block _ (by have:=HSz.out;show _<W1.heap.size;omega));obtain⟨⟨r0,r1,r2,r3⟩,hfz⟩:=HR.out w3 hk3;have t0:=hfz 0;have t1:=hfz 1;have t2:=hfz 2;have t3:=hfz 3;clear hfz))
 all_goals
  have hb1':Below W1.heap.size W1 w2:=((Below.refl _ W1).drew).trans hb1;have hB1:Below w.heap.size w w2:=HBx.out.trans (hb1'.mono HBx.out.size);have HP:=hid hp;have HB2:Hid (Below w.heap.size w w3):=hid (hB1.grown hg hB1.size (fun k hk=>by injection hk with hk;have:=HBe.out;have:=HSz.out;have e9:W1.drew.heap.size=W1.heap.size:=rfl;omega));clear hp hg hb1 hb1' hsrc hk1 hk3 hB1;go_wp2;refine bodyPost_ret (v:=.agg #[.int .i64 kind,.int .i64 fr,.int .i64 pp,.int .i64 way]) (by simp[results,Tryz.results5,go_sem,r0,r1,r2,r3]) rfl ?_;exact⟨⟨kind,fr,pp,way,rfl,HP.out⟩,(((HB2.out.setCell (by simp) _).setCell (by simp) _).setCell (by simp) _).setCell (by simp) _⟩
end Go.Proofs.YtcnoemjeijjnjaaGreat.propOf
namespace Go.Proofs.YtcnoemjeijjnjaaGreat.same
open Go.RowKit Go.Deep base
set_option maxHeartbeats 400000 in
theorem sameInts (a a':Option Addr) (len cap cap':Nat) (zs:List Int) (w:World) (hr:IntRow w a len zs) (hr':IntRow w a' len zs) :
  Calls Tryz.prog 25 #[.slice a len cap,.slice a' len cap'] w fun e w'=>e=.returned (.bool true)∧Below w.heap.size w w' := by
 have hmost:=hr.most;unfold maxLen at hmost;have HC:=hid hr.cell;have HC' := hid hr'.cell;clear hr hr';have hb:((len:Int) != (len:Int))=false:=by simp
 go_enter Tryz.func25,Tryz.ntmps25;go_wp2;go_loopw [5] (fun i wr=>∃k:Nat,k≤len∧i=.int .i64 k∧∃n,wr=w.drewN n) (fun i _=>len - (intOf i).toNat)
 case atStart=>exact⟨0,Nat.zero_le _,rfl,0,rfl⟩
 obtain⟨k,hk,rfl,n,hw⟩:=hrel;by_cases hlt:k<len
 · obtain⟨b,off,rfl,hc0⟩:=HC.out k hlt;obtain⟨b',off',rfl,hc0'⟩:=HC'.out k hlt;have hc:wr.cell? ⟨b,off+k,none⟩=some (.int .i64 (zs[k]?.getD 0)):=by rw[hw];simpa using hc0
   have hc':wr.cell? ⟨b',off' + k,none⟩=some (.int .i64 (zs[k]?.getD 0)):=by rw[hw];simpa using hc0'
   have HW:=hid hw;clear hw hc0 hc0';generalize zs[k]?.getD 0=z at *;have hq:(z != z)=false:=by simp
   go_wp2;go_quiet (fail);go_wp2;go_roundw
   case rel=>exact⟨k+1,by omega,by go_num,n+nq,by rw[HW.out,World.drewN_drewN]⟩
   case measure=>simp[intOf];omega
 have e:k=len:=by omega
 subst e;have HW:=hid hw;clear hw;go_wp2;go_ret;exact⟨rfl,by rw[HW.out];exact below_drewN _ _⟩
set_option maxHeartbeats 400000 in
theorem sameBools (a a':Option Addr) (len cap cap':Nat) (zs:List Bool) (w:World) (hr:BoolRow w a len zs) (hr':BoolRow w a' len zs) :
  Calls Tryz.prog 24 #[.slice a len cap,.slice a' len cap'] w fun e w'=>e=.returned (.bool true)∧Below w.heap.size w w' := by
 have hmost:=hr.most;unfold maxLen at hmost;have HC:=hid hr.cell;have HC' := hid hr'.cell;clear hr hr';have hb:((len:Int) != (len:Int))=false:=by simp
 go_enter Tryz.func24,Tryz.ntmps24;go_wp2;go_loopw [5] (fun i wr=>∃k:Nat,k≤len∧i=.int .i64 k∧∃n,wr=w.drewN n) (fun i _=>len - (intOf i).toNat)
 case atStart=>exact⟨0,Nat.zero_le _,rfl,0,rfl⟩
 obtain⟨k,hk,rfl,n,hw⟩:=hrel;by_cases hlt:k<len
 · obtain⟨b,off,rfl,hc0⟩:=HC.out k hlt;obtain⟨b',off',rfl,hc0'⟩:=HC'.out k hlt;have hc:wr.cell? ⟨b,off+k,none⟩=some (.bool (zs[k]?.getD false)):=by rw[hw];simpa using hc0
   have hc':wr.cell? ⟨b',off' + k,none⟩=some (.bool (zs[k]?.getD false)):=by rw[hw];simpa using hc0'
   have HW:=hid hw;clear hw hc0 hc0';generalize zs[k]?.getD false=z at *;have hq:(z==z)=true:=by simp
   go_wp2;go_quiet (fail);go_wp2;go_roundw
   case rel=>exact⟨k+1,by omega,by go_num,n+nq,by rw[HW.out,World.drewN_drewN]⟩
   case measure=>simp[intOf];omega
 have e:k=len:=by omega
 subst e;have HW:=hid hw;clear hw;go_wp2;go_ret;exact⟨rfl,by rw[HW.out];exact below_drewN _ _⟩
end Go.Proofs.YtcnoemjeijjnjaaGreat.same
