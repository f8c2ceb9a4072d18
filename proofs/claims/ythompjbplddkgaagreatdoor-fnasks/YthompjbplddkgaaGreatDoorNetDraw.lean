import Derived.Test.YthompjbplddkgaaGreatDoorPart38
import Derived.Test.YthompjbplddkgaaGreatDoorNetMath
import Derived.Test.YthompjbplddkgaaGreatDoorInsSpec
import Derived.OwnWalk
import Derived.Deep.CutBlock
set_option linter.unusedVariables false
namespace Go.Proofs.YthompjbplddkgaaGreatDoor.netDraw
open Go.RowKit Go.Deep Go.Sort Go base copy names netSem netSpec intsOwn source heldStore drawn drawnLin drawnSrc stepAppend netMath insSpec
theorem info_link : (Tryz.prog.info? 68).map (fun i=>(i.zero,i.size,i.bytes))=some (some (.agg #[.int .i64 0,.int .i64 0,.int .i64 0]),3,24):=by kernel_rfl
theorem info_import : (Tryz.prog.info? 72).map (fun i=>(i.zero,i.size,i.bytes))=some (some (.agg #[.int .i64 0,.int .i64 0,.int .i64 0,.int .i64 0,.int .i64 0]),5,40):=by kernel_rfl
theorem info_filter : (Tryz.prog.info? 75).map (fun i=>(i.zero,i.size,i.bytes))=some (some (.agg #[.int .i64 0,.int .i64 0,.int .i64 0,.int .i64 0]),4,32):=by kernel_rfl
theorem info_is {P:Program} {t:TypeId} {z:Value} {s b:Nat} (h:(P.info? t).map (fun i=>(i.zero,i.size,i.bytes))=some (some z,s,b)):∃ i,P.info? t=some i∧i.zero=some z∧i.size=s∧i.bytes=b:=by
 obtain ⟨i,hi,h2⟩:=Option.map_eq_some_iff.1 h
 simp only [Prod.mk.injEq] at h2
 exact ⟨i,hi,h2.1,h2.2.1,h2.2.2⟩
def bx (v0 v1 v2 v3 v4 v5 : Value) : Nat→Value := fun i=>if i=0 then v0 else if i=1 then v1 else if i=2 then v2 else if i=3 then v3 else if i=4 then v4 else v5
abbrev nilV : Value := .slice none 0 0
structure Bs (w wr : World) (b : Nat) (a : Option Addr) (len cap k M : Nat) (F : Nat→Value) : Prop where
 src:Src wr b a len cap k
 grown:w.grownBy wr (some b)
 strs:∀ i,i<4→wr.cell? ⟨w.heap.size+1,i,none⟩=some (.string (sN i))
 res:wr.rowIs w.heap.size 29 6 (fun _=>nilV)
 box:wr.rowIs M 29 6 F
 low:w.heap.size+2≤M
variable {w wr w2 : World} {b : Nat} {a : Option Addr} {len cap k k2 M : Nat} {F F' : Nat→Value}
theorem Bs.chg (h:Bs w wr b a len cap k M F) (hb:b<w.heap.size) {Y:Nat→Prop} (hc:Chg (fun k=>k=b∨Y k) wr w2) (hY:∀ k,Y k→M<k) (hs:Src w2 b a len cap k2):Bs w w2 b a len cap k2 M F:=by
 have hl:=h.low
 have hg:=h.grown
 have hk:∀ q,q<wr.heap.size→q≠b→q≤M→w2.heap[q]? = wr.heap[q]?:=fun q h1 h2 h3=>hc.block q h1 (fun hx=>by
  rcases hx with hx|hx
  · exact h2 hx
  · have:=hY q hx;omega)
 have hM:=h.box.lt
 refine ⟨hs,⟨hc.os.trans hg.os,hc.tape.trans hg.tape,hc.output.trans hg.output,Nat.le_trans hg.size hc.size,fun j hj hne=>?_⟩,fun i hi=>?_,h.res.of_block (hk _ (by omega) (by omega) (by omega)),h.box.of_block (hk _ hM (by omega) (Nat.le_refl _)),hl⟩
 · exact (hk j (by have:=hg.size;omega) (fun e=>hne (by rw [e])) (by omega)).trans (hg.block j hj hne)
 · rw [World.cell?_of_block (a:=⟨w.heap.size+1,i,none⟩) (hk (w.heap.size+1) (by omega) (by omega) (by omega))]
   exact h.strs i hi
theorem Bs.set (h:Bs w wr b a len cap k M F) (hb:b<w.heap.size) (i:Nat) (v:Value) (hF:∀ j,j<6→(if j=i then v else F j)=F' j):Bs w (wr.setCell ⟨M,i,none⟩ v) b a len cap k M F' := by
 have hl:=h.low
 have hk:∀ q,q≠M→(wr.setCell ⟨M,i,none⟩ v).heap[q]? = wr.heap[q]?:=fun q hq=>Below.heap_setCell _ _ _ _ (by dsimp only;exact hq)
 have hM:=h.box.lt
 have hc:Chg (fun k=>k=M) wr (wr.setCell ⟨M,i,none⟩ v):=(Chg.refl (fun k=>k=M) wr).set (.inl rfl) v
 have hg:=h.grown
 obtain ⟨h1,⟨n,s,p1,p2,p3,p4,hr⟩,h3⟩:=h.src
 refine ⟨⟨h1,⟨n,s,p1,p2,p3,p4,hr.of_block (hk _ (by omega))⟩,fun i hi=>?_⟩,⟨hc.os.trans hg.os,hc.tape.trans hg.tape,hc.output.trans hg.output,Nat.le_trans hg.size hc.size,fun j hj hne=>(hk j (by omega)).trans (hg.block j hj hne)⟩,fun i hi=>?_,h.res.of_block (hk _ (by omega)),(h.box.set i v).congr hF,hl⟩
 · obtain ⟨bb,off,e,hlt,x,hx,hcc⟩:=h3 i hi
   exact ⟨bb,off,e,hlt,x,hx,(World.cell?_of_block (a:=⟨bb,off+i,none⟩) (hk bb (by omega))).trans hcc⟩
 · rw [World.cell?_of_block (a:=⟨w.heap.size+1,i,none⟩) (hk (w.heap.size+1) (by omega))]
   exact h.strs i hi
theorem Bs.cells {v0 v1 v2 v3 v4 v5:Value} (h:Bs w wr b a len cap k M (bx v0 v1 v2 v3 v4 v5)):(wr.cell? ⟨M,0,none⟩=some v0∧wr.cell? ⟨M,1,none⟩=some v1∧wr.cell? ⟨M,2,none⟩=some v2∧wr.cell? ⟨M,3,none⟩=some v3∧wr.cell? ⟨M,4,none⟩=some v4∧wr.cell? ⟨M,5,none⟩=some v5) :=
 ⟨h.box.cell (i:=0) (by omega),h.box.cell (i:=1) (by omega),h.box.cell (i:=2) (by omega),h.box.cell (i:=3) (by omega),h.box.cell (i:=4) (by omega),h.box.cell (i:=5) (by omega)⟩
theorem Bs.mono (h:Bs w wr b a len cap k M F) (hk:k≤k2):Bs w wr b a len cap k2 M F:=⟨h.src.mono hk,h.grown,h.strs,h.res,h.box,h.low⟩
theorem Bs.grow (h:Bs w wr b a len cap k M F) (hb:b<w.heap.size) (hg:wr.grownBy w2 (some b)) (hs:Src w2 b a len cap k2):Bs w w2 b a len cap k2 M F :=
 h.chg hb (Y:=fun _=>False) (Chg.of_grown hg (fun k e=>.inl (by injection e with e;exact e.symm))) (fun k hk=>hk.elim) hs
theorem own_chg {X:Nat→Prop} {B m n:Nat} {t:TypeId} {v:Value} {xs:List Value} (h:wr.ownsRow B t m v n xs) (hc:Chg X wr w2) (hX:∀ g,B≤g→v.ownBlock=some g→¬ X g):w2.ownsRow B t m v n xs:=by
 have hl:=World.ownsRow.lt h
 obtain ⟨h1,h2⟩:=h
 refine ⟨h1,?_⟩
 rcases h2 with h2|⟨g,cap,cur,rfl,hgB,hh,hn⟩
 · exact .inl h2
 · exact .inr ⟨g,cap,cur,rfl,hgB,(hc.block g (Array.getElem?_eq_some_iff.1 hh).1 (hX g hgB rfl)).trans hh,hn⟩
theorem src_chg {X:Nat→Prop} (h:Src wr b a len cap k) (hc:Chg X wr w2) (hX:∀ j,j≤b→¬ X j):Src w2 b a len cap k:=by
 obtain ⟨h1,⟨n,s,p1,p2,p3,p4,hr⟩,h3⟩:=h
 refine ⟨h1,⟨n,s,p1,p2,p3,p4,hr.of_block (hc.block b hr.lt (hX b (Nat.le_refl _)))⟩,fun i hi=>?_⟩
 obtain ⟨bb,off,e,hlt,x,hx,hcc⟩:=h3 i hi
 exact ⟨bb,off,e,hlt,x,hx,hc.cell (hX bb (by omega)) hcc⟩
theorem cells3 {g:Nat} {x y z:Value} (h0:w.cell? ⟨g,0,none⟩=some x) (h1:w.cell? ⟨g,1,none⟩=some y) (h2:w.cell? ⟨g,2,none⟩=some z):∀ (j:Nat) (v:Value),[x,y,z][j]? = some v→w.cell? ((⟨g,0,none⟩:Addr).add j)=some v:=by
 intro j v hj
 match j,hj with
 | 0,hj=>simp at hj;subst hj;simpa [Addr.add] using h0
 | 1,hj=>simp at hj;subst hj;simpa [Addr.add] using h1
 | 2,hj=>simp at hj;subst hj;simpa [Addr.add] using h2
 | j+3,hj=>simp at hj
theorem cells4 {g:Nat} {x y z u:Value} (h0:w.cell? ⟨g,0,none⟩=some x) (h1:w.cell? ⟨g,1,none⟩=some y) (h2:w.cell? ⟨g,2,none⟩=some z) (h3:w.cell? ⟨g,3,none⟩=some u):∀ (j:Nat) (v:Value),[x,y,z,u][j]? = some v→w.cell? ((⟨g,0,none⟩:Addr).add j)=some v:=by
 intro j v hj
 match j,hj with
 | 0,hj=>simp at hj;subst hj;simpa [Addr.add] using h0
 | 1,hj=>simp at hj;subst hj;simpa [Addr.add] using h1
 | 2,hj=>simp at hj;subst hj;simpa [Addr.add] using h2
 | 3,hj=>simp at hj;subst hj;simpa [Addr.add] using h3
 | j+4,hj=>simp at hj
theorem ins_ok {B r:Nat} {v0:Value} {zs:List Int} {n:Int} {e':Ending} (h:InsOut wr v0 zs n e' w2) (ho:OwnInts B wr v0 zs) (hB:B≤wr.heap.size) (hr:RisesL zs r) (hl:zs.length≤1) (hn:0≤n∧n<r):∃ (v:Value) (f:Bool) (zs':List Int),e' = .returned (.tuple #[v,.bool f])∧OwnInts B w2 v zs'∧RisesL zs' r∧zs'.length≤zs.length+1∧Below wr.heap.size wr w2:=by
 obtain ⟨v,f,k,e1,hk,h1,h2,hb⟩:=h
 rcases h2 with ⟨rfl,rfl,h3,h4⟩|⟨rfl,h3,h4⟩
 · exact ⟨_,false,zs,e1,own_chg ho (Chg.of_below (X:=fun _=>False) hb) (fun _ _ _ h=>h),hr,by omega,hb⟩
 · refine ⟨v,true,_,e1,h4.mono hB,rises_ins hr hl hn hk h1 h3,?_,hb⟩
   simp
   omega
structure Sx (t sz : Nat) (w wL wr : World) (b : Nat) (a : Option Addr) (len cap k M : Nat) (F : Nat→Value) (vx : Option Addr) (m cx : Nat) (x : R) : Prop where
 bs:Bs w wr b a len cap k M F
 chg:Chg (fun k=>k=b∨k=M) wL wr
 own:wr.ownsRow wL.heap.size t sz (.slice vx m cx) m (cellsR sz x m)
 low:M<wL.heap.size
theorem Sx.step {t sz:Nat} {wL:World} {vx:Option Addr} {m cx:Nat} {x:R} (h:Sx t sz w wL wr b a len cap k M F vx m cx x) (hb:b<w.heap.size) {Z:Nat→Prop} (hc:Chg (fun k=>k=b∨Z k) wr w2) (Wn:Nat) (hZ:∀ k,Z k→Wn≤k) (hW:wL.heap.size≤Wn) (hn:∀ j,(Value.slice vx m cx).ownBlock=some j→j<Wn) (hs:Src w2 b a len cap k2):Sx t sz w wL w2 b a len cap k2 M F vx m cx x:=by
 have hl:=h.low
 have hM:=h.bs.low
 refine ⟨h.bs.chg hb hc (fun k hk=>by have:=hZ k hk;omega) hs,⟨hc.os.trans h.chg.os,hc.tape.trans h.chg.tape,hc.output.trans h.chg.output,Nat.le_trans h.chg.size hc.size,fun j hj hne=>?_⟩,own_chg h.own hc (fun g1 hg1 hg2 hx=>?_),hl⟩
 · refine (hc.block j (by have:=h.chg.size;omega) (fun hx=>?_)).trans (h.chg.block j hj hne)
   rcases hx with hx|hx
   · exact hne (.inl hx)
   · have:=hZ j hx;omega
 · rcases hx with hx|hx
   · omega
   · have:=hZ g1 hx;have:=hn g1 hg2;omega
theorem Sx.mono {t sz:Nat} {wL:World} {vx:Option Addr} {m cx:Nat} {x:R} (h:Sx t sz w wL wr b a len cap k M F vx m cx x) (hk:k≤k2):Sx t sz w wL wr b a len cap k2 M F vx m cx x:=⟨h.bs.mono hk,h.chg,h.own,h.low⟩
theorem Sx.grow {t sz:Nat} {wL:World} {vx:Option Addr} {m cx:Nat} {x:R} (h:Sx t sz w wL wr b a len cap k M F vx m cx x) (hb:b<w.heap.size) (hg:wr.grownBy w2 (some b)) (hs:Src w2 b a len cap k2):Sx t sz w wL w2 b a len cap k2 M F vx m cx x :=
 h.step hb (Z:=fun _=>False) (Chg.of_grown hg (fun k e=>.inl (by injection e with e;exact e.symm))) wr.heap.size (fun _ h=>h.elim) h.chg.size (fun j hj=>(World.ownsRow.lt h.own j hj).2) hs
theorem Sx.keep {t sz:Nat} {wL:World} {vx:Option Addr} {m cx:Nat} {x:R} (h:Sx t sz w wL wr b a len cap k M F vx m cx x) (hb:b<w.heap.size) {t' sz' n':Nat} {v':Value} {xs':List Value} (ho:wL.ownsRow (M+1) t' sz' v' n' xs'):wr.ownsRow (M+1) t' sz' v' n' xs' :=
 own_chg ho h.chg (fun g1 hg1 _ hx=>by have:=h.bs.low;rcases hx with hx|hx <;> omega)
theorem row_chg {m n:Nat} {t:TypeId} {F:Nat→Value} {X:Nat→Prop} (h:wr.rowIs n t m F) (hc:Chg X wr w2) (hX:¬ X n):w2.rowIs n t m F:=h.of_block (hc.block n h.lt hX)
theorem Sx.append {t sz:Nat} {wL:World} {vx vx9:Option Addr} {m cx cx9:Nat} {x:R} (h:Sx t sz w wL wr b a len cap k M F vx m cx x) (hb:b<w.heap.size) (hc:Chg (fun j=>j=b∨(Value.slice vx m cx).ownBlock=some j) wr w2) (hs:Src w2 b a len cap k2) (f:Nat→Int) {news:List Value} (hn:news=(List.range sz).map fun j=>.int .i64 (f j)) (ho:w2.ownsRow wL.heap.size t sz (.slice vx9 (m+1) cx9) (m+1) (cellsR sz x m ++ news)) (fld:Nat) (hF:∀ j,j<6→(if j=fld then (.slice vx9 (m+1) cx9) else F j)=F' j) :
  Sx t sz w wL (w2.setCell ⟨M,fld,none⟩ (.slice vx9 (m+1) cx9)) b a len cap k2 M F' vx9 (m+1) cx9 (updR x m f):=by
 have hl:=h.low
 have hM:=h.bs.low
 have hY:=World.ownsRow.lt h.own
 have hb2:=h.bs.chg hb (Y:=fun j=>(Value.slice vx m cx).ownBlock=some j) hc (fun j hj=>by have:=hY j hj;omega) hs
 have hcS:Chg (fun j=>j=M) w2 (w2.setCell ⟨M,fld,none⟩ (.slice vx9 (m+1) cx9)):=(Chg.refl (fun j=>j=M) w2).set (.inl rfl) _
 refine ⟨hb2.set hb fld _ hF,⟨hcS.os.trans (hc.os.trans h.chg.os),hcS.tape.trans (hc.tape.trans h.chg.tape),hcS.output.trans (hc.output.trans h.chg.output),Nat.le_trans h.chg.size (Nat.le_trans hc.size hcS.size),fun j hj hne=>?_⟩,?_,hl⟩
 · have h1:=h.chg.size
   have h2:=hc.size
   refine (hcS.block j (by omega) (fun hx=>hne (.inr hx))).trans ((hc.block j (by omega) (fun hx=>?_)).trans (h.chg.block j hj hne))
   rcases hx with hx|hx
   · exact hne (.inl hx)
   · have:=hY j hx;omega
 · rw [cellsR_upd,← hn]
   exact own_chg ho hcS (fun g1 hg1 _ hx=>by have h3:g1=M:=hx;omega)
theorem Sx.boxed {t sz:Nat} {wL:World} {vx:Option Addr} {m cx:Nat} {x:R} (h:Sx t sz w wL wr b a len cap k M F vx m cx x) (hb:b<w.heap.size) (hc:Chg (fun j=>j=b∨(Value.slice vx m cx).ownBlock=some j) wr w2):w2.rowIs M 29 6 F :=
 row_chg h.bs.box hc (fun hx=>by
  have hl:=h.low
  have hM:=h.bs.low
  rcases hx with hx|hx
  · omega
  · have:=World.ownsRow.lt h.own M hx;omega)
theorem cells5 {g:Nat} {x y z u v:Value} (h0:w.cell? ⟨g,0,none⟩=some x) (h1:w.cell? ⟨g,1,none⟩=some y) (h2:w.cell? ⟨g,2,none⟩=some z) (h3:w.cell? ⟨g,3,none⟩=some u) (h4:w.cell? ⟨g,4,none⟩=some v):∀ (j:Nat) (q:Value),[x,y,z,u,v][j]? = some q→w.cell? ((⟨g,0,none⟩:Addr).add j)=some q:=by
 intro j q hj
 match j,hj with
 | 0,hj=>simp at hj;subst hj;simpa [Addr.add] using h0
 | 1,hj=>simp at hj;subst hj;simpa [Addr.add] using h1
 | 2,hj=>simp at hj;subst hj;simpa [Addr.add] using h2
 | 3,hj=>simp at hj;subst hj;simpa [Addr.add] using h3
 | 4,hj=>simp at hj;subst hj;simpa [Addr.add] using h4
 | j+5,hj=>simp at hj
theorem cell_new (w:World) (cs:Array Value) (t:TypeId) {i:Nat} {v:Value} (h:cs[i]? = some v):(w.alloc (.cells cs t)).cell? ⟨w.heap.size,i,none⟩=some v:=by simp [go_sem,h]
theorem own_mono {B B' m n:Nat} {t:TypeId} {v:Value} {xs:List Value} (h:wr.ownsRow B t m v n xs) (hB:B'≤B):wr.ownsRow B' t m v n xs:=by
 obtain ⟨h1,h2⟩:=h
 refine ⟨h1,?_⟩
 rcases h2 with h2|⟨g,cap,cur,rfl,hgB,hh⟩
 · exact .inl h2
 · exact .inr ⟨g,cap,cur,rfl,by omega,hh⟩
def sel6 {T : Type} (a0 a1 a2 a3 a4 a5 : T) : Nat→T := fun i=>if i=0 then a0 else if i=1 then a1 else if i=2 then a2 else if i=3 then a3 else if i=4 then a4 else a5
theorem own_blk {w3:World} {B m n:Nat} {t:TypeId} {v:Value} {xs:List Value} (h:wr.ownsRow B t m v n xs) (hk:∀ g,v.ownBlock=some g→w3.heap[g]? = wr.heap[g]?):w3.ownsRow B t m v n xs:=by
 obtain ⟨h1,h2⟩:=h
 refine ⟨h1,?_⟩
 rcases h2 with h2|⟨g,cap,cur,rfl,hgB,hh,hn⟩
 · exact .inl h2
 · exact .inr ⟨g,cap,cur,rfl,hgB,(hk g rfl).trans hh,hn⟩
theorem net_end {rn kl vc m cx mf cf c2 c3:Nat} {va a2 a3 vx vf:Option Addr} {g x f:R} {os es:List Int} (h:Bs w wr b a len cap k M F) (hb:b<w.heap.size) (hrn:rn≤3) (hl:linksB g kl (1+rn)=true) (hol:wr.ownsRow (M+1) 68 3 (.slice va kl vc) kl (cellsR 3 g kl)) (hoo:OwnInts (M+1) wr (.slice a2 os.length c2) os) (hro:RisesL os (1+rn)) (hoe:OwnInts (M+1) wr (.slice a3 es.length c3) es) (hre:RisesL es (1+rn)) (hel:es.length≤2)
  (hoi:wr.ownsRow (M+1) 72 5 (.slice vx m cx) m (cellsR 5 x m)) (hxb:importsB g kl x m=true) (hof:wr.ownsRow (M+1) 75 4 (.slice vf mf cf) mf (cellsR 4 f mf)) (hfb:filtersB g kl f mf=true) (hc:Chg (fun j=>j=w.heap.size) wr w2) :
  (∀ w3:World,(∀ q,w.heap.size<q→q<w2.heap.size→w3.heap[q]? = w2.heap[q]?)→NetIs w3 (sel6 (some ⟨w.heap.size+1,0,none⟩) va a2 a3 vx vf) (sel6 (1+rn) kl os.length es.length m mf) sN g os es x f)∧netB (sel6 (1+rn) kl os.length es.length m mf) sN g os es x f=true∧kl≤vc∧Src w2 b a len cap k∧w.grownBy w2 (some b):=by
 have hM:=h.low
 have hg:=h.grown
 refine ⟨fun w3 h3=>?_,right_of ⟨by show 1≤1+rn;omega,by show 1+rn≤4;omega⟩ hl hro rfl hre rfl hel hxb hfb,(row_of (by omega) hol).2,src_chg h.src hc (fun j hj hx=>by have h3:j=w.heap.size:=hx;omega),⟨hc.os.trans hg.os,hc.tape.trans hg.tape,hc.output.trans hg.output,Nat.le_trans hg.size hc.size,fun j hj hne=>(hc.block j (by have:=hg.size;omega) (fun hx=>by have h3:j=w.heap.size:=hx;omega)).trans (hg.block j hj hne)⟩⟩
 have hk:∀ q,w.heap.size<q→q<wr.heap.size→w3.heap[q]? = wr.heap[q]?:=fun q h1 h2=>(h3 q h1 (Nat.lt_of_lt_of_le h2 hc.size)).trans (hc.block q h2 (fun hx=>by have h4:q=w.heap.size:=hx;omega))
 have hw:∀ {t sz n:Nat} {v:Value} {xs:List Value},wr.ownsRow (M+1) t sz v n xs→w3.ownsRow (M+1) t sz v n xs:=fun ho=>own_blk ho (fun g1 hg1=>by
  obtain ⟨i1,i2⟩:=World.ownsRow.lt ho g1 hg1
  exact hk g1 (by omega) i2)
 refine ⟨⟨by show 1+rn≤maxLen;unfold maxLen;omega,fun i hi=>?_,fun i hi=>⟨w.heap.size+1,0,rfl,?_⟩⟩,(row_of (by omega) (hw hol)).1,row_of_own (hw (t:=3) hoo),row_of_own (hw (t:=3) hoe),(row_of (by omega) (hw hoi)).1,(row_of (by omega) (hw hof)).1⟩
 · show (sN i).size≤maxLen
   unfold sN maxLen
   split
   · show 1≤_;omega
   · split
     · show 1≤_;omega
     · split <;> (show 1≤_;omega)
 · have hi4:i<1+rn:=hi
   rw [Nat.zero_add]
   have hs:=h.strs i (by omega)
   exact (World.cell?_of_block (a:=⟨w.heap.size+1,i,none⟩) (hk (w.heap.size+1) (by omega) (World.block_lt_of_cell? _ _ hs))).trans hs
def imp5 (a0 a1 a2 a3 a4 : Int) : Nat→Int := fun i=>if i=0 then a0 else if i=1 then a1 else if i=2 then a2 else if i=3 then a3 else a4
theorem links_le {g:R} {k r:Nat} (h:linksB g k r=true):k≤6:=by
 unfold linksB at h
 rw [Bool.and_eq_true,decide_eq_true_eq] at h
 exact h.1
theorem own_shape {B m n:Nat} {t:TypeId} {v:Value} {xs:List Value} (h:w.ownsRow B t m v n xs):∃ a c,v=.slice a n c:=by
 obtain ⟨h1,h2⟩:=h
 rcases h2 with ⟨rfl,rfl⟩|⟨g,cap,cur,rfl,_⟩
 · exact ⟨none,0,rfl⟩
 · exact ⟨_,_,rfl⟩
set_option maxHeartbeats 12800000 in
set_option maxRecDepth 8000 in
theorem net_src (b:Nat) (a:Option Addr) (len cap:Nat) (w:World) (h:Src w b a len cap 0) :
  Calls Tryz.prog 13 #[.pointer (some ⟨b,0,none⟩)] w fun e' w'=>∃ (p:Nat→Option Addr) (l c:Nat→Nat) (g:R) (o e:List Int) (x f:R),e' = .returned (netV p l c)∧(∀ w3:World,(∀ q,w.heap.size<q→q<w'.heap.size→w3.heap[q]? = w'.heap[q]?)→NetIs w3 p l sN g o e x f)∧netB l sN g o e x f=true∧l 0≤c 0∧l 1≤c 1∧Src w' b a len cap 3000∧w.grownBy w' (some b):=by
 obtain ⟨i0,hi0,hz0,hz1,hz2⟩:=info_is info_link
 have HI:=hid hi0
 have HZ0:=hid hz0
 have HZ1:=hid hz1
 have HZ2:=hid hz2
 clear hi0 hz0 hz1 hz2
 obtain ⟨j0,hj0,hy0,hy1,hy2⟩:=info_is info_import
 have HJ:=hid hj0
 have HJ0:=hid hy0
 have HJ1:=hid hy1
 have HJ2:=hid hy2
 clear hj0 hy0 hy1 hy2
 obtain ⟨l0,hl0,hx0,hx1,hx2⟩:=info_is info_filter
 have HF:=hid hl0
 have HF0:=hid hx0
 have HF1:=hid hx1
 have HF2:=hid hx2
 clear hl0 hx0 hx1 hx2
 have HS:=hid h
 have hbw:b<w.heap.size:=by obtain ⟨n,s,-,-,-,-,hr⟩:=h.cells;exact hr.lt
 clear h
 obtain ⟨W0,hW0⟩:∃ W0,(w.alloc (.cells #[.slice none 0 0,.slice none 0 0,.slice none 0 0,.slice none 0 0,.slice none 0 0,.slice none 0 0] 29)).alloc (.cells #[.string ⟨#[97]⟩,.string ⟨#[98]⟩,.string ⟨#[99]⟩,.string ⟨#[100]⟩] 9)=W0:=⟨_,rfl⟩
 have HB0:Hid (Below w.heap.size w W0∧W0.heap.size=w.heap.size+1+1∧(∀ i,i<4→W0.cell? ⟨w.heap.size+1,i,none⟩=some (.string (sN i)))∧W0.rowIs w.heap.size 29 6 (fun _=>nilV)):=hid (by
  rw [← hW0]
  refine ⟨Bl,by simp,fun i hi=>?_,?_⟩
  · rcases (show i=0∨i=1∨i=2∨i=3 by omega) with rfl|rfl|rfl|rfl <;> simp [go_sem,sN]
  · refine (World.rowIs_alloc w #[.slice none 0 0,.slice none 0 0,.slice none 0 0,.slice none 0 0,.slice none 0 0,.slice none 0 0] _ (fun _=>nilV) (fun i hi=>?_)).of_block ?_
    · have h6:i<6:=hi
      rcases (show i=0∨i=1∨i=2∨i=3∨i=4∨i=5 by omega) with rfl|rfl|rfl|rfl|rfl|rfl <;> rfl
    · exact ((Below.refl _ (w.alloc (.cells #[.slice none 0 0,.slice none 0 0,.slice none 0 0,.slice none 0 0,.slice none 0 0,.slice none 0 0] 29))).alloc (Nat.le_refl _) _).block _ (by simp))
 have HW0:=hid hW0
 clear hW0
 go_enter Tryz.func13,Tryz.ntmps13
 go_wp2_with fail
 rw [HW0.out]
 clear HW0
 refine (next_src b a len cap 0 4 _ (HS.out.below HB0.out.1) (by omega) (by omega) (by omega)).mono ?_
 rintro e' w1 ⟨r0,rfl,hr0,hr4,hs1,hg1⟩
 obtain ⟨rn,rfl⟩:=Int.eq_ofNat_of_zero_le hr0
 obtain ⟨M,hM⟩:∃ M,w1.heap.size=M:=⟨_,rfl⟩
 have hz1:w.heap.size+2≤M:=by have:=hg1.size;have:=HB0.out.2.1;omega
 have HS1:=hid hs1
 have HG1:=hid hg1
 have HM:=hid hM
 clear hs1 hg1 hM
 have HB1:Hid (Bs w (w1.alloc (.cells #[.slice (some ⟨w.heap.size+1,0,none⟩) (1+rn) 4,.slice none 0 0,.slice none 0 0,.slice none 0 0,.slice none 0 0,.slice none 0 0] 29)) b a len cap 10 M (bx (.slice (some ⟨w.heap.size+1,0,none⟩) (1+rn) 4) nilV nilV nilV nilV nilV)):=hid (by
  have hb:Below w1.heap.size w1 (w1.alloc (.cells #[.slice (some ⟨w.heap.size+1,0,none⟩) (1+rn) 4,.slice none 0 0,.slice none 0 0,.slice none 0 0,.slice none 0 0,.slice none 0 0] 29)):=Bl
  have hg:=HG1.out
  have hz0:=HB0.out.2.1
  have hbz:=HB0.out.1
  have hk:∀ q,q<W0.heap.size→q≠b→(w1.alloc (.cells #[.slice (some ⟨w.heap.size+1,0,none⟩) (1+rn) 4,.slice none 0 0,.slice none 0 0,.slice none 0 0,.slice none 0 0,.slice none 0 0] 29)).heap[q]? = W0.heap[q]?:=fun q h1 h2=>(hb.block q (by have:=hg.size;omega)).trans (hg.block q h1 (fun e=>by injection e with e;exact h2 e))
  refine ⟨(HS1.out.below hb).mono (by omega),⟨hb.os.trans (hg.os.trans hbz.os),hb.tape.trans (hg.tape.trans hbz.tape),hb.output.trans (hg.output.trans hbz.output),Nat.le_trans hbz.size (Nat.le_trans hg.size hb.size),fun j hj hne=>(hk j (by omega) (fun e=>hne (by rw [e]))).trans (hbz.block j hj)⟩,fun i hi=>?_,?_,?_,hz1⟩
  · rw [World.cell?_of_block (a:=⟨w.heap.size+1,i,none⟩) (hk (w.heap.size+1) (by omega) (by omega))]
    exact HB0.out.2.2.1 i hi
  · exact HB0.out.2.2.2.of_block (hk w.heap.size (by omega) (by omega))
  · rw [← HM.out]
    exact World.rowIs_alloc w1 #[.slice (some ⟨w.heap.size+1,0,none⟩) (1+rn) 4,.slice none 0 0,.slice none 0 0,.slice none 0 0,.slice none 0 0,.slice none 0 0] _ _ (fun i hi=>by
     have h6:i<6:=hi
     rcases (show i=0∨i=1∨i=2∨i=3∨i=4∨i=5 by omega) with rfl|rfl|rfl|rfl|rfl|rfl <;> rfl))
 clear HS1 HG1 HB0
 go_upto_block 0 with fail
 rw [HM.out]
 obtain ⟨w3,hw3⟩:∃ w3,(w1.alloc (.cells #[.slice (some ⟨w.heap.size+1,0,none⟩) (1+rn) 4,.slice none 0 0,.slice none 0 0,.slice none 0 0,.slice none 0 0,.slice none 0 0] 29))=w3:=⟨_,rfl⟩
 rw [hw3] at HB1 ⊢
 clear hw3 HM
 go_cut [5,6,7] from 24 to 65 (fun s5 s6 s7 wc=>∃ (k:Nat) (va:Option Addr) (vc:Nat) (g:R),linksB g k (1+rn)=true∧wc.ownsRow (M+1) 68 3 (.slice va k vc) k (cellsR 3 g k)∧Bs w wc b a len cap 800 M (bx (.slice (some ⟨w.heap.size+1,0,none⟩) (1+rn) 4) (.slice va k vc) nilV nilV nilV nilV))
 case first =>
  go_wp2_with fail
  go_loopw [5] (fun i wr=>∃ (m k:Nat) (va:Option Addr) (vc:Nat) (g:R),i=.int .i64 m∧m≤7∧k≤6∧linksB g k (1+rn)=true∧wr.ownsRow (M+1) 68 3 (.slice va k vc) k (cellsR 3 g k)∧Bs w wr b a len cap (10+100*m) M (bx (.slice (some ⟨w.heap.size+1,0,none⟩) (1+rn) 4) (.slice va k vc) nilV nilV nilV nilV)) (fun i _=>7 - (intOf i).toNat)
  case atStart=>exact ⟨0,0,none,0,fun _ _=>0,rfl,by omega,by omega,rfl,World.ownsRow_nil _ _ _ _,HB1.out⟩
  case round =>
   clear HB1
   obtain ⟨m,k,va,vc,g,rfl,hm7,hk6,hlb,hown,hbs⟩:=hrel
   have HL:=hid hlb
   have HO:=hid hown
   have HB:=hid hbs
   clear hlb hown hbs
   by_cases hlt:m<7
   · have d7:decide ((m:Int)<7)=true:=decide_eq_true (by omega)
     by_cases hr1:0<rn
     · have dr:decide ((1:Int)<1+(rn:Int))=true:=decide_eq_true (by omega)
       go_wp2_with fail
       refine (next_src b a len cap (10+100*m) (1+rn) _ HB.out.src (by omega) (by omega) (by omega)).mono ?_
       rintro e' w4 ⟨x1,rfl,hx0,hx1,hs4,hg4⟩
       have HB4:=hid (HB.out.grow hbw hg4 hs4)
       have HC4:=hid hg4
       clear hs4 hg4
       go_wp2_with fail
       refine (next_src b a len cap (10+100*m+1) (1+rn) _ HB4.out.src (by omega) (by omega) (by omega)).mono ?_
       rintro e' w5 ⟨x2,rfl,hy0,hy1,hs5,hg5⟩
       have HB5:=hid (HB4.out.grow hbw hg5 hs5)
       have hML:=HB.out.low
       have HO5:=hid (own_chg (own_chg HO.out (Chg.of_grown (X:=fun k=>k=b) HC4.out (fun k e=>by injection e with e;exact e.symm)) (fun g' h1 _ h2=>by have h3:g' = b:=h2;omega)) (Chg.of_grown (X:=fun k=>k=b) hg5 (fun k e=>by injection e with e;exact e.symm)) (fun g' h1 _ h2=>by have h3:g' = b:=h2;omega))
       clear hs5 hg5 HB4 HC4
       obtain ⟨q0,q1,q2,q3,q4,q5⟩:=HB5.out.cells
       by_cases hxy:x1=x2
       · have dx:(x1 != x2)=false:=by simp [hxy]
         go_wp2
         go_roundw
         case rel=>exact ⟨m+1,k,va,vc,g,by go_num,by omega,hk6,HL.out,HO5.out,HB5.out.mono (by omega)⟩
         case measure=>simp [intOf];omega
       · have dx:(x1 != x2)=true:=by simp [hxy]
         go_wp2_with fail
         refine (link_spec va k vc g x1 x2 _ (row_of (by omega) HO5.out).1).mono ?_
         rintro e' w6 ⟨rfl,rfl⟩
         obtain ⟨L,hL⟩:∃ L,linkAt g k x1 x2=L:=⟨_,rfl⟩
         have HLk:=hid hL
         rw [hL]
         clear hL
         by_cases hl0:L<0
         · have dl:decide (L<0)=true:=decide_eq_true hl0
           by_cases hk5:k<6
           · have dk:decide ((k:Int)<6)=true:=decide_eq_true (by omega)
             have dk':decide (k<6)=true:=decide_eq_true hk5
             go_wp2_with fail
             have HYl:Hid (∀ j,(Value.slice va k vc).ownBlock=some j→M+1≤j∧j<w6.heap.size):=hid (World.ownsRow.lt HO5.out)
             refine region_src (fun uu=>⟨#[.pointer (some ⟨b,0,none⟩),undef,.pointer (some ⟨w.heap.size,0,none⟩),.pointer (some ⟨M,0,none⟩),.int .i64 (1 + ↑rn),.int .i64 ↑m,.int .i64 x1,.int .i64 x2,undef,undef,undef,undef,undef,undef,undef,.slice (some ⟨w.heap.size+1,0,none⟩) 4 4,.pointer (some ⟨b,0,none⟩),.int .i64 ↑rn,.int .i64 (1 + ↑rn),.slice (some ⟨w.heap.size+1,0,none⟩) (1+rn) 4,.agg #[.slice (some ⟨w.heap.size+1,0,none⟩) (1+rn) 4,.slice none 0 0,.slice none 0 0,.slice none 0 0,.slice none 0 0,.slice none 0 0],.pointer (some ⟨M,0,none⟩),.slice (some ⟨w.heap.size+1,0,none⟩) (1+rn) 4,.int .i64 (1 + ↑rn),.int .i64 ↑m,.bool true,.bool true,.int .i64 (1 + ↑rn),.bool true,.bool true,u30,u31,.pointer (some ⟨b,0,none⟩),.int .i64 (1 + ↑rn),.int .i64 x1,.pointer (some ⟨b,0,none⟩),.int .i64 (1 + ↑rn),.int .i64 x2,.int .i64 x1,.int .i64 x2,.bool true,.bool true,.pointer (some ⟨M,1,none⟩),.slice va k vc,.int .i64 x1,.int .i64 x2,.int .i64 L,.bool true,.bool true,.bool true,.pointer (some ⟨M,1,none⟩),.slice va k vc,.int .i64 ↑k,.bool true,.bool true,uu 55,uu 56,uu 57,uu 58,uu 59,uu 60,uu 61,uu 62,uu 63,uu 64,uu 65,undef,undef,undef,undef,undef,undef,undef,undef,undef,undef,undef,undef,undef,undef,undef,undef,undef,undef,undef,undef,undef,undef,undef,undef,undef,undef,undef,undef,undef,undef,undef,undef,undef,undef,undef,undef,undef,undef,undef,undef,undef,undef,undef,undef,undef,undef,undef,undef,undef,undef,undef,undef,undef,undef,undef,undef,undef,undef,undef,undef,undef,undef,undef,undef,undef,undef,undef,undef,undef,undef,undef,undef,undef,undef,undef,undef,undef,undef,undef,undef,undef,undef,undef,undef,undef,undef,undef,undef,undef,undef,undef,undef,undef,undef,undef,undef,undef,undef,undef,undef,undef,undef,undef,undef,undef,undef,undef,undef,undef,undef,undef,undef,undef,undef,undef,undef,undef,undef,undef],[]⟩) (fun i=>[55,56,57,58,59,60,61,62,63,64,65].getD i 0) (fun i v w8=>match i with|0=>v=.pointer (some ⟨M,1,none⟩)|1=>v=.slice va k vc|2=>v=.int .i64 x1|3=>v=.int .i64 x2|4=>v=.pointer (some ⟨b,0,none⟩)|5=>∃ r:Int,v=.int .i64 r∧0≤r∧r<3|6=>∃ r:Int,v=.int .i64 r∧1≤r∧r<4|7=>∃ r:Int,v=.agg #[.int .i64 x1,.int .i64 x2,.int .i64 r]∧1≤r∧r<4|8=>∃ (r:Int) (N:Nat),v=.slice (some ⟨N,0,none⟩) 1 1∧1≤r∧r<4∧w6.heap.size≤N∧World.cell? w8 ⟨N,0,none⟩=some (.int .i64 x1)∧World.cell? w8 ⟨N,1,none⟩=some (.int .i64 x2)∧World.cell? w8 ⟨N,2,none⟩=some (.int .i64 r)|9=>∃ (r:Int) (va5:Option Addr) (vc5:Nat),v=.slice va5 (k+1) vc5∧1≤r∧r<4∧World.ownsRow w8 (M+1) 68 3 (.slice va5 (k+1) vc5) (k+1) (cellsR 3 g k ++ [.int .i64 x1,.int .i64 x2,.int .i64 r])|10=>v=.pointer (some ⟨M,1,none⟩)|_=>True) (fun w8=>World.ownsRow w8 (M+1) 68 3 (.slice va k vc) k (cellsR 3 g k)) (fun j=>(Value.slice va k vc).ownBlock=some j) w6 11 9 b a len cap (10+100*m+1+1) (fun k=>match k with|55=>u55|56=>u56|57=>u57|58=>u58|59=>u59|60=>u60|61=>u61|62=>u62|63=>u63|64=>u64|65=>u65|_=>undef) (by rfl) (by kernel_rfl) (by rfl) ⟨by kernel_rfl,by kernel_rfl,by kernel_rfl,by decide⟩ (by kernel_rfl) (Chg.refl _ _) HB5.out.src HO5.out ?hput ?hinj ?stable ?stable0 ?step ?last
             case hput =>
              intro i hi uu v
              match i,hi with
              | 0,_=>rfl
              | 1,_=>rfl
              | 2,_=>rfl
              | 3,_=>rfl
              | 4,_=>rfl
              | 5,_=>rfl
              | 6,_=>rfl
              | 7,_=>rfl
              | 8,_=>rfl
              | 9,_=>rfl
              | 10,_=>rfl
              | i+11,hi=>exact absurd hi (by omega)
             case hinj =>
              intro i j hi hj h
              exact slots_inj [55,56,57,58,59,60,61,62,63,64,65] (by decide) hi hj h
             case stable =>
              intro i v w8 w9 hb h
              match i,hb,h with
              | 0,hb,h=>exact h
              | 1,hb,h=>exact h
              | 2,hb,h=>exact h
              | 3,hb,h=>exact h
              | 4,hb,h=>exact h
              | 5,hb,h=>exact h
              | 6,hb,h=>exact h
              | 7,hb,h=>exact h
              | 8,hb,h=>(obtain ⟨r9,N,e9,h90,h91,hN,c0,c1,c2⟩:=h;have hn:¬ (N=b∨(8≠9∧(Value.slice va k vc).ownBlock=some N)):=(fun hx=>by rcases hx with hx|hx;have:=HB5.out.box.lt;omega;have:=HYl.out N hx.2;omega);exact ⟨r9,N,e9,h90,h91,hN,hb.cell hn c0,hb.cell hn c1,hb.cell hn c2⟩)
              | 9,hb,h=>(obtain ⟨r9,va5,vc5,e9,h90,h91,ho⟩:=h;exact ⟨r9,va5,vc5,e9,h90,h91,own_chg ho hb (fun g1 hg1 _ hx=>by rcases hx with hx|hx;omega;exact hx.1 rfl)⟩)
              | 10,hb,h=>exact h
              | _+11,hb,h=>trivial
             case stable0 =>
              intro w8 w9 hb h
              exact own_chg h hb (fun g1 hg1 _ hx=>by have h3:g1=b:=hx;omega)
             case step =>
              intro i hi uu w8 k8 S8 Sr hk8 hq hdep
              match i,hi,hq,hdep with
              | 0,_,hq,hdep =>
               clear hdep
               refine ⟨_,rfl,fun K' hK=>?_⟩
               go_simp
               exact hK.out _ _ (Chg.refl _ _) (Sr.mono (by omega)) (rfl)
              | 1,_,hq,hdep =>
               have h0:(uu 55)=.pointer (some ⟨M,1,none⟩):=hdep 0 (by kernel_rfl)
               clear hdep
               refine ⟨_,rfl,fun K' hK=>?_⟩
               have c1:=S8.cell (fun hx=>(by rcases hx with hx|hx;omega;have:=HYl.out M hx;omega)) q1
               simp only [h0] at hK ⊢
               go_simp
               exact hK.out _ _ (Chg.refl _ _) (Sr.mono (by omega)) (rfl)
              | 2,_,hq,hdep =>
               clear hdep
               refine ⟨_,rfl,fun K' hK=>?_⟩
               go_simp
               exact hK.out _ _ (Chg.refl _ _) (Sr.mono (by omega)) (rfl)
              | 3,_,hq,hdep =>
               clear hdep
               refine ⟨_,rfl,fun K' hK=>?_⟩
               go_simp
               exact hK.out _ _ (Chg.refl _ _) (Sr.mono (by omega)) (rfl)
              | 4,_,hq,hdep =>
               clear hdep
               refine ⟨_,rfl,fun K' hK=>?_⟩
               go_simp
               exact hK.out _ _ (Chg.refl _ _) (Sr.mono (by omega)) (rfl)
              | 5,_,hq,hdep =>
               have h4:(uu 59)=.pointer (some ⟨b,0,none⟩):=hdep 4 (by kernel_rfl)
               clear hdep
               refine ⟨_,rfl,fun K' hK=>?_⟩
               simp only [h4] at hK ⊢
               go_simp
               refine (next_src b a len cap k8 (3) _ Sr (by omega) (by omega) (by omega)).mono ?_
               rintro e9 w9 ⟨r9,rfl,h90,h91,hs9,hg9⟩
               exact hK.out _ _ (Chg.of_grown hg9 (fun k e=>by first|exact .inl (by injection e with e;exact e.symm)|(injection e with e;exact e.symm))) hs9 ⟨r9,rfl,h90,h91⟩
              | 6,_,hq,hdep =>
               have h5:∃ r:Int,(uu 60)=.int .i64 r∧0≤r∧r<3:=hdep 5 (by kernel_rfl)
               clear hdep
               refine ⟨_,rfl,fun K' hK=>?_⟩
               obtain ⟨r9,e9,h90,h91⟩:=h5
               have hw9:IntKind.i64.wrap (1+r9)=1+r9:=by rw [IntKind.wrap_i64];omega
               simp only [e9] at hK ⊢
               go_simp
               (try rw [hw9])
               exact hK.out _ _ (Chg.refl _ _) (Sr.mono (by omega)) (⟨1+r9,rfl,by omega,by omega⟩)
              | 7,_,hq,hdep =>
               have h2:(uu 57)=.int .i64 x1:=hdep 2 (by kernel_rfl)
               have h3:(uu 58)=.int .i64 x2:=hdep 3 (by kernel_rfl)
               have h6:∃ r:Int,(uu 61)=.int .i64 r∧1≤r∧r<4:=hdep 6 (by kernel_rfl)
               clear hdep
               refine ⟨_,rfl,fun K' hK=>?_⟩
               obtain ⟨r9,e9,h90,h91⟩:=h6
               simp only [h2,h3,e9] at hK ⊢
               go_simp
               exact hK.out _ _ (Chg.refl _ _) (Sr.mono (by omega)) (⟨_,rfl,h90,h91⟩)
              | 8,_,hq,hdep =>
               have h7:∃ r:Int,(uu 62)=.agg #[.int .i64 x1,.int .i64 x2,.int .i64 r]∧1≤r∧r<4:=hdep 7 (by kernel_rfl)
               clear hdep
               refine ⟨_,rfl,fun K' hK=>?_⟩
               obtain ⟨r9,e9,h90,h91⟩:=h7
               simp only [e9] at hK ⊢
               go_simp
               exact hK.out _ _ (Chg.of_below Bl) ((Sr.below Bl).mono (by omega)) ⟨r9,w8.heap.size,rfl,h90,h91,S8.size,by simp [go_sem],by simp [go_sem],by simp [go_sem]⟩
              | 9,_,hq,hdep =>
               have h1:(uu 56)=.slice va k vc:=hdep 1 (by kernel_rfl)
               have h8:∃ (r:Int) (N:Nat),(uu 63)=.slice (some ⟨N,0,none⟩) 1 1∧1≤r∧r<4∧w6.heap.size≤N∧World.cell? w8 ⟨N,0,none⟩=some (.int .i64 x1)∧World.cell? w8 ⟨N,1,none⟩=some (.int .i64 x2)∧World.cell? w8 ⟨N,2,none⟩=some (.int .i64 r):=hdep 8 (by kernel_rfl)
               clear hdep
               refine ⟨_,rfl,fun K' hK=>?_⟩
               obtain ⟨r9,N,e9,h90,h91,hN,c0,c1,c2⟩:=h8
               obtain ⟨hown,hb0⟩:=hq rfl
               refine step_append_at w8 rfl _ _ 24 rfl (some 64) rfl (M+1) 68 i0 _ 3 24 Tryz.underlying24 HI.out HZ0.out HZ1.out HZ2.out rfl (by decide) _ _ _ h1 hown ⟨N,0,none⟩ 1 1 [.int .i64 x1,.int .i64 x2,.int .i64 r9] e9 rfl (cells3 c0 c1 c2) (fun u hu=>by simp at hu;rcases hu with rfl|rfl|rfl <;> rfl) (by unfold maxLen;omega) (by omega) (by have:=S8.size;have:=HB5.out.box.lt;omega) ?_
               intro v5 w9 hown5 hg5 hat5
               obtain ⟨va5,vc5,e5⟩:=own_shape hown5
               subst e5
               have hc9:=Chg.of_grown (X:=fun j=>j=b∨(9=9∧(Value.slice va k vc).ownBlock=some j)) hg5 (fun j e=>.inr ⟨rfl,e⟩)
               exact hK.out _ _ hc9 ((src_chg Sr (Chg.of_grown (X:=fun j=>(Value.slice va k vc).ownBlock=some j) hg5 (fun j e=>e)) (fun j hj hx=>by have:=HYl.out j hx;omega)).mono (by omega)) ⟨r9,va5,vc5,rfl,h90,h91,hown5⟩
              | 10,_,hq,hdep =>
               clear hdep
               refine ⟨_,rfl,fun K' hK=>?_⟩
               go_simp
               exact hK.out _ _ (Chg.refl _ _) (Sr.mono (by omega)) (rfl)
              | i+11,hi,_,_=>exact absurd hi (by omega)
             case last =>
              intro uu w8 S8 Sr hall
              have h9:∃ (r:Int) (va5:Option Addr) (vc5:Nat),(uu 64)=.slice va5 (k+1) vc5∧1≤r∧r<4∧World.ownsRow w8 (M+1) 68 3 (.slice va5 (k+1) vc5) (k+1) (cellsR 3 g k ++ [.int .i64 x1,.int .i64 x2,.int .i64 r]):=hall 9 (by decide)
              have h10:(uu 65)=.pointer (some ⟨M,1,none⟩):=hall 10 (by decide)
              clear hall
              refine ⟨_,rfl,fun K' hK=>?_⟩
              obtain ⟨r9,va5,vc5,e9,h90,h91,ho⟩:=h9
              simp only [h10,e9] at hK ⊢
              have hb8:w8.heap[M]? = w6.heap[M]?:=S8.block M HB5.out.box.lt (fun hx=>by rcases hx with hx|hx;omega;have:=HYl.out M hx;omega)
              have c1:=(World.cell?_of_block (a:=⟨M,1,none⟩) hb8).trans q1
              have z1:=(HB5.out.box.of_block hb8).frozen 1
              have HB8:=hid ((HB5.out.chg hbw S8 (fun j hj=>by have:=HYl.out j hj;omega) Sr).set (F' := bx (.slice (some ⟨w.heap.size+1,0,none⟩) (1+rn) 4) (.slice va5 (k+1) vc5) nilV nilV nilV nilV) hbw 1 (.slice va5 (k+1) vc5) (fun j hj=>by rcases (show j=0∨j=1∨j=2∨j=3∨j=4∨j=5 by omega) with rfl|rfl|rfl|rfl|rfl|rfl <;> rfl))
              have HO8:=hid (own_chg (w2:=w8.setCell ⟨M,1,none⟩ (.slice va5 (k+1) vc5)) ho ((Chg.refl (fun j=>j=M) w8).set (.inl rfl) _) (fun g1 hg1 _ hx=>by have h3:g1=M:=hx;omega))
              have HR9:=hid (And.intro h90 h91)
              clear ho h90 h91 h10
              go_simp
              refine hK.out _ _ ?_
              clear hK K' c1 z1 hb8 e9
              (try simp only [Exit.then])
              go_wp2
              go_roundw
              case rel =>
               refine ⟨m+1,k+1,va5,vc5,updR g k (fun j=>if j=0 then x1 else if j=1 then x2 else r9),by go_num,by omega,by omega,links_step HL.out hk5 (by show 0≤x1∧x1<_;omega) (by show 0≤x2∧x2<_;omega) hxy (by show 1≤r9∧r9≤100;have:=HR9.out;omega) (by show linkAt g k x1 x2<0;rw [HLk.out];exact hl0),?_,HB8.out.mono (by omega)⟩
               rw [cellsR_upd]
               exact HO8.out
              case measure=>simp [intOf];omega
           · have dk:decide ((k:Int)<6)=false:=decide_eq_false (by omega)
             have dk':decide (k<6)=false:=decide_eq_false hk5
             go_wp2
             go_roundw
             case rel=>exact ⟨m+1,k,va,vc,g,by go_num,by omega,hk6,HL.out,HO5.out,HB5.out.mono (by omega)⟩
             case measure=>simp [intOf];omega
         · have dl:decide (L<0)=false:=decide_eq_false hl0
           go_wp2
           go_roundw
           case rel=>exact ⟨m+1,k,va,vc,g,by go_num,by omega,hk6,HL.out,HO5.out,HB5.out.mono (by omega)⟩
           case measure=>simp [intOf];omega
     · have dr:decide ((1:Int)<1+(rn:Int))=false:=decide_eq_false (by omega)
       go_wp2_with fail
       go_meet
       exact ⟨k,va,vc,g,HL.out,HO.out,HB.out.mono (by omega)⟩
   · have d7:decide ((m:Int)<7)=false:=decide_eq_false (by omega)
     go_wp2_with fail
     go_meet
     exact ⟨k,va,vc,g,HL.out,HO.out,HB.out.mono (by omega)⟩
 case rest =>
  clear HB1
  obtain ⟨k,va,vc,g,hlb,hown,hbs⟩:=hcut
  have hk6:=links_le hlb
  have HL:=hid hlb
  have HO:=hid hown
  have HB:=hid hbs
  have hML:=HB.out.low
  obtain ⟨q0,q1,q2,q3,q4,q5⟩:=HB.out.cells
  clear hlb hown hbs
  go_upto_region 10 with fail
  have HN0:Hid (OwnInts (M+1) wc nilV []):=hid (World.ownsRow_nil _ _ _ _)
  have HRs:Hid (RisesL [] (1+rn)):=hid (rises_nil _)
  refine region_late (fun uu=>⟨#[.pointer (some ⟨b,0,none⟩),undef,.pointer (some ⟨w.heap.size,0,none⟩),.pointer (some ⟨M,0,none⟩),.int .i64 (1 + ↑rn),u5,u6,u7,undef,undef,undef,undef,undef,undef,undef,.slice (some ⟨w.heap.size+1,0,none⟩) 4 4,.pointer (some ⟨b,0,none⟩),.int .i64 ↑rn,.int .i64 (1 + ↑rn),.slice (some ⟨w.heap.size+1,0,none⟩) (1+rn) 4,.agg #[.slice (some ⟨w.heap.size+1,0,none⟩) (1+rn) 4,.slice none 0 0,.slice none 0 0,.slice none 0 0,.slice none 0 0,.slice none 0 0],.pointer (some ⟨M,0,none⟩),.slice (some ⟨w.heap.size+1,0,none⟩) (1+rn) 4,.int .i64 (1 + ↑rn),u24,u25,u26,u27,u28,u29,u30,u31,u32,u33,u34,u35,u36,u37,u38,u39,u40,u41,u42,u43,u44,u45,u46,u47,u48,u49,u50,u51,u52,u53,u54,u55,u56,u57,u58,u59,u60,u61,u62,u63,u64,u65,uu 66,uu 67,uu 68,uu 69,uu 70,uu 71,uu 72,uu 73,uu 74,uu 75,undef,undef,undef,undef,undef,undef,undef,undef,undef,undef,undef,undef,undef,undef,undef,undef,undef,undef,undef,undef,undef,undef,undef,undef,undef,undef,undef,undef,undef,undef,undef,undef,undef,undef,undef,undef,undef,undef,undef,undef,undef,undef,undef,undef,undef,undef,undef,undef,undef,undef,undef,undef,undef,undef,undef,undef,undef,undef,undef,undef,undef,undef,undef,undef,undef,undef,undef,undef,undef,undef,undef,undef,undef,undef,undef,undef,undef,undef,undef,undef,undef,undef,undef,undef,undef,undef,undef,undef,undef,undef,undef,undef,undef,undef,undef,undef,undef,undef,undef,undef,undef,undef,undef,undef,undef,undef,undef,undef,undef],[]⟩) (fun i=>[some 67,some 68,some 69,some 70,some 71,some 72,some 66,some 73,some 74,some 75,none].getD i none) (fun i v w8=>match i with|0=>v=.pointer (some ⟨M,2,none⟩)|1=>v=nilV|2=>v=.pointer (some ⟨b,0,none⟩)|3=>v=.int .i64 (1+(rn:Int))|4=>∃ r:Int,v=.int .i64 r∧0≤r∧r<(1+(rn:Int))|5=>∃ (vq:Value) (fq:Bool) (ys:List Int),v=.tuple #[vq,.bool fq]∧OwnInts (M+1) w8 vq ys∧RisesL ys (1+rn)∧ys.length≤([]:List Int).length+1|6=>∃ (vq:Value) (fq:Bool) (ys:List Int),v=.tuple #[vq,.bool fq]∧OwnInts (M+1) w8 vq ys∧RisesL ys (1+rn)∧ys.length≤([]:List Int).length+1|7=>∃ (ys:List Int),OwnInts (M+1) w8 v ys∧RisesL ys (1+rn)∧ys.length≤([]:List Int).length+1|8=>True|9=>v=.pointer (some ⟨M,2,none⟩)|_=>True) (fun w8=>∃ (v9:Value) (ys:List Int),OwnInts (M+1) w8 v9 ys∧RisesL ys (1+rn)∧ys.length≤([]:List Int).length+1∧Bs w w8 b a len cap (800+11) M (bx ((.slice (some ⟨w.heap.size+1,0,none⟩) (1+rn) 4)) (.slice va k vc) (v9) (nilV) (nilV) (nilV))∧World.ownsRow w8 (M+1) 68 3 (.slice va k vc) k (cellsR 3 g k)∧True) wc 11 10 b M (fun i=>decide (i=8)) a len cap (800) (fun k=>match k with|67=>undef|68=>undef|69=>undef|70=>undef|71=>undef|72=>undef|66=>undef|73=>undef|74=>undef|75=>undef|_=>undef) (by rfl) (by kernel_rfl) (by rfl) (by kernel_rfl) (by decide) rfl (by kernel_rfl) (Chg.refl _ _) HB.out.src ?hput ?hinj ?hsome ?stable ?step ?stepL ?store ?fin
  case hput =>
   intro i hi uu v
   match i,hi with
   | 0,_=>rfl
   | 1,_=>rfl
   | 2,_=>rfl
   | 3,_=>rfl
   | 4,_=>rfl
   | 5,_=>rfl
   | 6,_=>rfl
   | 7,_=>rfl
   | 8,_=>rfl
   | 9,_=>rfl
   | 10,_=>rfl
   | i+11,hi=>exact absurd hi (by omega)
  case hinj =>
   intro i j hi hj _ h
   have h9:∀ i,i<11→∀ j,j<11→[some 67,some 68,some 69,some 70,some 71,some 72,some 66,some 73,some 74,some 75,none].getD i none=[some 67,some 68,some 69,some 70,some 71,some 72,some 66,some 73,some 74,some 75,none].getD j none→i=j:=by decide
   exact h9 i hi j hj h
  case hsome =>
   intro i hi hne
   have h9:∀ i,i<11→i≠10→[some 67,some 68,some 69,some 70,some 71,some 72,some 66,some 73,some 74,some 75,none].getD i none≠none:=by decide
   exact h9 i hi hne
  case stable =>
   intro i v w8 w9 hb h
   match i,hb,h with
   | 0,hb,h=>exact h
   | 1,hb,h=>exact h
   | 2,hb,h=>exact h
   | 3,hb,h=>exact h
   | 4,hb,h=>exact h
   | 5,hb,h=>(obtain ⟨v,f,ys,e9,ho,h91,h92⟩:=h;exact ⟨v,f,ys,e9,own_chg ho hb (fun g1 hg1 _ hx=>by rcases hx with hx|hx <;> omega),h91,h92⟩)
   | 6,hb,h=>(obtain ⟨v,f,ys,e9,ho,h91,h92⟩:=h;exact ⟨v,f,ys,e9,own_chg ho hb (fun g1 hg1 _ hx=>by rcases hx with hx|hx <;> omega),h91,h92⟩)
   | 7,hb,h=>(obtain ⟨ys,ho,h91,h92⟩:=h;exact ⟨ys,own_chg ho hb (fun g1 hg1 _ hx=>by rcases hx with hx|hx <;> omega),h91,h92⟩)
   | 8,hb,h=>exact h
   | 9,hb,h=>exact h
   | 10,hb,h=>trivial
   | _+11,hb,h=>trivial
  case step =>
   intro i hi hne hl uu w8 k8 S8 Sr hk8 hdep
   match i,hi,hne,hl,hdep with
   | 0,_,_,_,hdep =>
    clear hdep
    refine ⟨_,rfl,fun K' hK=>?_⟩
    go_simp
    exact hK.out _ _ (Chg.refl _ _) (Sr.mono (by omega)) (rfl)
   | 1,_,_,_,hdep =>
    have h0:(uu 67)=.pointer (some ⟨M,2,none⟩):=hdep 0 (by kernel_rfl)
    clear hdep
    refine ⟨_,rfl,fun K' hK=>?_⟩
    have c1:=S8.cell (fun hx=>(by have h3:M=b:=hx;omega)) q2
    simp only [h0] at hK ⊢
    go_simp
    exact hK.out _ _ (Chg.refl _ _) (Sr.mono (by omega)) (rfl)
   | 2,_,_,_,hdep =>
    clear hdep
    refine ⟨_,rfl,fun K' hK=>?_⟩
    go_simp
    exact hK.out _ _ (Chg.refl _ _) (Sr.mono (by omega)) (rfl)
   | 3,_,_,_,hdep =>
    clear hdep
    refine ⟨_,rfl,fun K' hK=>?_⟩
    go_simp
    exact hK.out _ _ (Chg.refl _ _) (Sr.mono (by omega)) (rfl)
   | 4,_,_,_,hdep =>
    have h2:(uu 69)=.pointer (some ⟨b,0,none⟩):=hdep 2 (by kernel_rfl)
    have h3:(uu 70)=.int .i64 (1+(rn:Int)):=hdep 3 (by kernel_rfl)
    clear hdep
    refine ⟨_,rfl,fun K' hK=>?_⟩
    simp only [h2,h3] at hK ⊢
    go_simp
    refine (next_src b a len cap k8 ((1+(rn:Int))) _ Sr (by omega) (by omega) (by omega)).mono ?_
    rintro e9 w9 ⟨r9,rfl,h90,h91,hs9,hg9⟩
    exact hK.out _ _ (Chg.of_grown hg9 (fun k e=>by first|exact .inl (by injection e with e;exact e.symm)|(injection e with e;exact e.symm))) hs9 ⟨r9,rfl,h90,h91⟩
   | 5,_,_,_,hdep =>
    have h1:(uu 68)=nilV:=hdep 1 (by kernel_rfl)
    have h4:∃ r:Int,(uu 71)=.int .i64 r∧0≤r∧r<(1+(rn:Int)):=hdep 4 (by kernel_rfl)
    clear hdep
    refine ⟨_,rfl,fun K' hK=>?_⟩
    obtain ⟨r9,e9,h90,h91⟩:=h4
    simp only [h1,e9] at hK ⊢
    go_simp
    have ho8:OwnInts (M+1) w8 (nilV) ([]:List Int):=own_chg HN0.out S8 (fun g1 hg1 _ hx=>by have h3:g1=b:=hx;omega)
    refine (insert_spec (M+1) (nilV) ([]:List Int) r9 _ ho8 (by have:=(show ([]:List Int).length≤1 by decide);omega)).mono ?_
    intro e9 w9 hins
    obtain ⟨v,f,ys,rfl,g1,g2,g3,g4⟩:=ins_ok hins ho8 (by have:=S8.size;have:=HB.out.box.lt;omega) HRs.out (show ([]:List Int).length≤1 by decide) ⟨h90,h91⟩
    exact hK.out _ _ (Chg.of_below g4) ((Sr.below g4).mono (by omega)) ⟨v,f,ys,rfl,g1,g2,g3⟩
   | 6,_,_,_,hdep =>
    have h5:∃ (vq:Value) (fq:Bool) (ys:List Int),(uu 72)=.tuple #[vq,.bool fq]∧OwnInts (M+1) w8 vq ys∧RisesL ys (1+rn)∧ys.length≤([]:List Int).length+1:=hdep 5 (by kernel_rfl)
    clear hdep
    refine ⟨_,rfl,fun K' hK=>?_⟩
    obtain ⟨v,f,ys,e9,ho,h91,h92⟩:=h5
    simp only [e9] at hK ⊢
    go_simp
    exact hK.out _ _ (Chg.refl _ _) (Sr.mono (by omega)) (⟨v,f,ys,rfl,ho,h91,h92⟩)
   | 7,_,_,_,hdep =>
    have h6:∃ (vq:Value) (fq:Bool) (ys:List Int),(uu 66)=.tuple #[vq,.bool fq]∧OwnInts (M+1) w8 vq ys∧RisesL ys (1+rn)∧ys.length≤([]:List Int).length+1:=hdep 6 (by kernel_rfl)
    clear hdep
    refine ⟨_,rfl,fun K' hK=>?_⟩
    obtain ⟨v,f,ys,e9,ho,h91,h92⟩:=h6
    simp only [e9] at hK ⊢
    go_simp
    exact hK.out _ _ (Chg.refl _ _) (Sr.mono (by omega)) (⟨ys,ho,h91,h92⟩)
   | 8,_,_,hl,_=>exact absurd hl (by decide)
   | 9,_,_,_,hdep =>
    clear hdep
    refine ⟨_,rfl,fun K' hK=>?_⟩
    go_simp
    exact hK.out _ _ (Chg.refl _ _) (Sr.mono (by omega)) (rfl)
   | 10,_,hne,_,_=>exact absurd rfl hne
   | i+11,hi,_,_,_=>exact absurd hi (by omega)
  case stepL =>
   intro i hi hne hl uu w8 hdep
   match i,hi,hne,hl,hdep with
   | 0,_,_,hl,_=>exact absurd hl (by decide)
   | 1,_,_,hl,_=>exact absurd hl (by decide)
   | 2,_,_,hl,_=>exact absurd hl (by decide)
   | 3,_,_,hl,_=>exact absurd hl (by decide)
   | 4,_,_,hl,_=>exact absurd hl (by decide)
   | 5,_,_,hl,_=>exact absurd hl (by decide)
   | 6,_,_,hl,_=>exact absurd hl (by decide)
   | 7,_,_,hl,_=>exact absurd hl (by decide)
   | 8,_,_,_,hdep =>
    have h6:∃ (vq:Value) (fq:Bool) (ys:List Int),(uu 66)=.tuple #[vq,.bool fq]∧OwnInts (M+1) w8 vq ys∧RisesL ys (1+rn)∧ys.length≤([]:List Int).length+1:=hdep 6 (by kernel_rfl) (by decide)
    clear hdep
    refine ⟨_,rfl,fun K' hK=>?_⟩
    obtain ⟨v,f,ys,e9,ho,h91,h92⟩:=h6
    simp only [e9] at hK ⊢
    go_simp
    exact hK.out _ trivial
   | 9,_,_,hl,_=>exact absurd hl (by decide)
   | 10,_,hne,_,_=>exact absurd rfl hne
   | i+11,hi,_,_,_=>exact absurd hi (by omega)
  case store =>
   intro uu w8 S8 Sr hdep
   have h7:∃ (ys:List Int),OwnInts (M+1) w8 (uu 73) ys∧RisesL ys (1+rn)∧ys.length≤([]:List Int).length+1:=hdep 7 (by kernel_rfl)
   have h9:(uu 75)=.pointer (some ⟨M,2,none⟩):=hdep 9 (by kernel_rfl)
   clear hdep
   refine ⟨_,rfl,fun K' hK=>?_⟩
   obtain ⟨ys,ho,h91,h92⟩:=h7
   obtain ⟨a9,n9,e9⟩:=own_shape ho
   simp only [h9,e9] at hK ⊢
   rw [e9] at ho
   have hb8:w8.heap[M]? = wc.heap[M]?:=S8.block M HB.out.box.lt (fun hx=>by have h3:M=b:=hx;omega)
   have c1:=(World.cell?_of_block (a:=⟨M,2,none⟩) hb8).trans q2
   have z1:=(HB.out.box.of_block hb8).frozen 2
   have HB8:=hid ((HB.out.chg (Y:=fun _=>False) hbw (S8.mono fun j hj=>.inl hj) (fun j hj=>hj.elim) Sr).set (F' := bx ((.slice (some ⟨w.heap.size+1,0,none⟩) (1+rn) 4)) (.slice va k vc) (.slice a9 ys.length n9) (nilV) (nilV) (nilV)) hbw 2 (.slice a9 ys.length n9) (fun j hj=>by rcases (show j=0∨j=1∨j=2∨j=3∨j=4∨j=5 by omega) with rfl|rfl|rfl|rfl|rfl|rfl <;> rfl))
   have hc8:Chg (fun j=>j=M) w8 (w8.setCell ⟨M,2,none⟩ (.slice a9 ys.length n9)):=(Chg.refl (fun j=>j=M) w8).set (.inl rfl) _
   go_simp
   exact hK.out undef _ hc8 ⟨_,ys,own_chg ho hc8 (fun g1 hg1 _ hx=>by have h3:g1=M:=hx;omega),h91,h92,HB8.out,⟨own_chg (own_chg HO.out S8 (fun g1 hg1 _ hx=>by have h3:g1=b:=hx;omega)) hc8 (fun g1 hg1 _ hx=>by have h3:g1=M:=hx;omega),trivial⟩⟩
  case fin =>
   intro uu wf hpsi
   obtain ⟨v2,os,hos,hor,hol,hbs,hown,-⟩:=hpsi
   have HO' := hid hown
   have HB' := hid hbs
   have HO2:=hid hos
   have HR2:=hid hor
   have hol2:os.length≤1:=hol
   clear hos hor hol hbs hown q0 q1 q2 q3 q4 q5 HN0 HRs HO HB
   go_wp2_with fail
   refine (next_src b a len cap (800+11) 3 _ HB'.out.src (by omega) (by omega) (by omega)).mono ?_
   rintro e' w4 ⟨r3,rfl,h30,h33,hs4,hg4⟩
   obtain ⟨i3,rfl⟩:=Int.eq_ofNat_of_zero_le h30
   have HB:=hid (HB'.out.grow hbw hg4 hs4)
   have HO:=hid (own_chg HO'.out (Chg.of_grown (X:=fun k=>k=b) hg4 (fun k e=>by injection e with e;exact e.symm)) (fun g1 hg1 _ hx=>by have h3:g1=b:=hx;omega))
   have HO2' := hid (own_chg HO2.out (Chg.of_grown (X:=fun k=>k=b) hg4 (fun k e=>by injection e with e;exact e.symm)) (fun g1 hg1 _ hx=>by have h3:g1=b:=hx;omega))
   clear hs4 hg4 HB' HO' HO2
   go_wp2_with fail
   go_loopw [8] (fun i wr=>∃ (n t:Nat) (v3:Value) (es:List Int),i=.int .i64 n∧n+t≤2∧OwnInts (M+1) wr v3 es∧RisesL es (1+rn)∧es.length≤t∧Bs w wr b a len cap (900+100*t) M (bx (.slice (some ⟨w.heap.size+1,0,none⟩) (1+rn) 4) (.slice va k vc) v2 v3 nilV nilV)∧World.ownsRow wr (M+1) 68 3 (.slice va k vc) k (cellsR 3 g k)∧OwnInts (M+1) wr v2 os) (fun i _=>(intOf i).toNat)
   case atStart=>exact ⟨i3,0,nilV,[],rfl,by omega,World.ownsRow_nil _ _ _ _,rises_nil _,Nat.le_refl _,HB.out.mono (by omega),HO.out,HO2'.out⟩
   case round =>
    clear HB HO HO2'
    obtain ⟨n,t,v3,es,rfl,hnt,hes,her,hel,hbs,hown,hos⟩:=hrel
    have HO3:=hid hes
    have HR3:=hid her
    have HB:=hid hbs
    have HO:=hid hown
    have HO2:=hid hos
    clear hes her hbs hown hos
    obtain ⟨q0,q1,q2,q3,q4,q5⟩:=HB.out.cells
    by_cases hn0:0<n
    · have dn:decide ((0:Int)<(n:Int))=true:=decide_eq_true (by omega)
      have dn':decide (0<n)=true:=decide_eq_true hn0
      have hel1:es.length≤1:=by omega
      go_upto_region 14 with fail
      refine region_late (fun uv=>⟨#[.pointer (some ⟨b,0,none⟩),undef,.pointer (some ⟨w.heap.size,0,none⟩),.pointer (some ⟨M,0,none⟩),.int .i64 (1 + ↑rn),u5,u6,u7,.int .i64 ↑n,undef,undef,undef,undef,undef,undef,.slice (some ⟨w.heap.size+1,0,none⟩) 4 4,.pointer (some ⟨b,0,none⟩),.int .i64 ↑rn,.int .i64 (1 + ↑rn),.slice (some ⟨w.heap.size+1,0,none⟩) (1+rn) 4,.agg #[.slice (some ⟨w.heap.size+1,0,none⟩) (1+rn) 4,.slice none 0 0,.slice none 0 0,.slice none 0 0,.slice none 0 0,.slice none 0 0],.pointer (some ⟨M,0,none⟩),.slice (some ⟨w.heap.size+1,0,none⟩) (1+rn) 4,.int .i64 (1 + ↑rn),u24,u25,u26,u27,u28,u29,u30,u31,u32,u33,u34,u35,u36,u37,u38,u39,u40,u41,u42,u43,u44,u45,u46,u47,u48,u49,u50,u51,u52,u53,u54,u55,u56,u57,u58,u59,u60,u61,u62,u63,u64,u65,uu 66,uu 67,uu 68,uu 69,uu 70,uu 71,uu 72,uu 73,uu 74,uu 75,.pointer (some ⟨b,0,none⟩),.int .i64 ↑i3,.int .i64 ↑n,.bool true,u80,u81,uv 82,uv 83,uv 84,uv 85,uv 86,uv 87,uv 88,uv 89,uv 90,uv 91,undef,undef,undef,undef,undef,undef,undef,undef,undef,undef,undef,undef,undef,undef,undef,undef,undef,undef,undef,undef,undef,undef,undef,undef,undef,undef,undef,undef,undef,undef,undef,undef,undef,undef,undef,undef,undef,undef,undef,undef,undef,undef,undef,undef,undef,undef,undef,undef,undef,undef,undef,undef,undef,undef,undef,undef,undef,undef,undef,undef,undef,undef,undef,undef,undef,undef,undef,undef,undef,undef,undef,undef,undef,undef,undef,undef,undef,undef,undef,undef,undef,undef,undef,undef,undef,undef,undef,undef,undef,undef,undef,undef,undef],[]⟩) (fun i=>[some 83,some 84,some 85,some 86,some 87,some 88,some 82,some 89,some 90,some 91,none].getD i none) (fun i v w8=>match i with|0=>v=.pointer (some ⟨M,3,none⟩)|1=>v=v3|2=>v=.pointer (some ⟨b,0,none⟩)|3=>v=.int .i64 (1+(rn:Int))|4=>∃ r:Int,v=.int .i64 r∧0≤r∧r<(1+(rn:Int))|5=>∃ (vq:Value) (fq:Bool) (ys:List Int),v=.tuple #[vq,.bool fq]∧OwnInts (M+1) w8 vq ys∧RisesL ys (1+rn)∧ys.length≤es.length+1|6=>∃ (vq:Value) (fq:Bool) (ys:List Int),v=.tuple #[vq,.bool fq]∧OwnInts (M+1) w8 vq ys∧RisesL ys (1+rn)∧ys.length≤es.length+1|7=>∃ (ys:List Int),OwnInts (M+1) w8 v ys∧RisesL ys (1+rn)∧ys.length≤es.length+1|8=>True|9=>v=.pointer (some ⟨M,3,none⟩)|_=>True) (fun w8=>∃ (v9:Value) (ys:List Int),OwnInts (M+1) w8 v9 ys∧RisesL ys (1+rn)∧ys.length≤es.length+1∧Bs w w8 b a len cap (900+100*t+11) M (bx ((.slice (some ⟨w.heap.size+1,0,none⟩) (1+rn) 4)) (.slice va k vc) (v2) (v9) (nilV) (nilV))∧World.ownsRow w8 (M+1) 68 3 (.slice va k vc) k (cellsR 3 g k)∧OwnInts (M+1) w8 v2 os∧True) wr 11 10 b M (fun i=>decide (i=8)) a len cap (900+100*t) (fun k=>match k with|83=>u83|84=>u84|85=>u85|86=>u86|87=>u87|88=>u88|82=>u82|89=>u89|90=>u90|91=>u91|_=>undef) (by rfl) (by kernel_rfl) (by rfl) (by kernel_rfl) (by decide) rfl (by kernel_rfl) (Chg.refl _ _) HB.out.src ?hput ?hinj ?hsome ?stable ?step ?stepL ?store ?fin
      case hput =>
       intro i hi uv v
       match i,hi with
       | 0,_=>rfl
       | 1,_=>rfl
       | 2,_=>rfl
       | 3,_=>rfl
       | 4,_=>rfl
       | 5,_=>rfl
       | 6,_=>rfl
       | 7,_=>rfl
       | 8,_=>rfl
       | 9,_=>rfl
       | 10,_=>rfl
       | i+11,hi=>exact absurd hi (by omega)
      case hinj =>
       intro i j hi hj _ h
       have h9:∀ i,i<11→∀ j,j<11→[some 83,some 84,some 85,some 86,some 87,some 88,some 82,some 89,some 90,some 91,none].getD i none=[some 83,some 84,some 85,some 86,some 87,some 88,some 82,some 89,some 90,some 91,none].getD j none→i=j:=by decide
       exact h9 i hi j hj h
      case hsome =>
       intro i hi hne
       have h9:∀ i,i<11→i≠10→[some 83,some 84,some 85,some 86,some 87,some 88,some 82,some 89,some 90,some 91,none].getD i none≠none:=by decide
       exact h9 i hi hne
      case stable =>
       intro i v w8 w9 hb h
       match i,hb,h with
       | 0,hb,h=>exact h
       | 1,hb,h=>exact h
       | 2,hb,h=>exact h
       | 3,hb,h=>exact h
       | 4,hb,h=>exact h
       | 5,hb,h=>(obtain ⟨v,f,ys,e9,ho,h91,h92⟩:=h;exact ⟨v,f,ys,e9,own_chg ho hb (fun g1 hg1 _ hx=>by rcases hx with hx|hx <;> omega),h91,h92⟩)
       | 6,hb,h=>(obtain ⟨v,f,ys,e9,ho,h91,h92⟩:=h;exact ⟨v,f,ys,e9,own_chg ho hb (fun g1 hg1 _ hx=>by rcases hx with hx|hx <;> omega),h91,h92⟩)
       | 7,hb,h=>(obtain ⟨ys,ho,h91,h92⟩:=h;exact ⟨ys,own_chg ho hb (fun g1 hg1 _ hx=>by rcases hx with hx|hx <;> omega),h91,h92⟩)
       | 8,hb,h=>exact h
       | 9,hb,h=>exact h
       | 10,hb,h=>trivial
       | _+11,hb,h=>trivial
      case step =>
       intro i hi hne hl uv w8 k8 S8 Sr hk8 hdep
       match i,hi,hne,hl,hdep with
       | 0,_,_,_,hdep =>
        clear hdep
        refine ⟨_,rfl,fun K' hK=>?_⟩
        go_simp
        exact hK.out _ _ (Chg.refl _ _) (Sr.mono (by omega)) (rfl)
       | 1,_,_,_,hdep =>
        have h0:(uv 83)=.pointer (some ⟨M,3,none⟩):=hdep 0 (by kernel_rfl)
        clear hdep
        refine ⟨_,rfl,fun K' hK=>?_⟩
        have c1:=S8.cell (fun hx=>(by have h3:M=b:=hx;omega)) q3
        simp only [h0] at hK ⊢
        go_simp
        exact hK.out _ _ (Chg.refl _ _) (Sr.mono (by omega)) (rfl)
       | 2,_,_,_,hdep =>
        clear hdep
        refine ⟨_,rfl,fun K' hK=>?_⟩
        go_simp
        exact hK.out _ _ (Chg.refl _ _) (Sr.mono (by omega)) (rfl)
       | 3,_,_,_,hdep =>
        clear hdep
        refine ⟨_,rfl,fun K' hK=>?_⟩
        go_simp
        exact hK.out _ _ (Chg.refl _ _) (Sr.mono (by omega)) (rfl)
       | 4,_,_,_,hdep =>
        have h2:(uv 85)=.pointer (some ⟨b,0,none⟩):=hdep 2 (by kernel_rfl)
        have h3:(uv 86)=.int .i64 (1+(rn:Int)):=hdep 3 (by kernel_rfl)
        clear hdep
        refine ⟨_,rfl,fun K' hK=>?_⟩
        simp only [h2,h3] at hK ⊢
        go_simp
        refine (next_src b a len cap k8 ((1+(rn:Int))) _ Sr (by omega) (by omega) (by omega)).mono ?_
        rintro e9 w9 ⟨r9,rfl,h90,h91,hs9,hg9⟩
        exact hK.out _ _ (Chg.of_grown hg9 (fun k e=>by first|exact .inl (by injection e with e;exact e.symm)|(injection e with e;exact e.symm))) hs9 ⟨r9,rfl,h90,h91⟩
       | 5,_,_,_,hdep =>
        have h1:(uv 84)=v3:=hdep 1 (by kernel_rfl)
        have h4:∃ r:Int,(uv 87)=.int .i64 r∧0≤r∧r<(1+(rn:Int)):=hdep 4 (by kernel_rfl)
        clear hdep
        refine ⟨_,rfl,fun K' hK=>?_⟩
        obtain ⟨r9,e9,h90,h91⟩:=h4
        simp only [h1,e9] at hK ⊢
        go_simp
        have ho8:OwnInts (M+1) w8 (v3) es:=own_chg HO3.out S8 (fun g1 hg1 _ hx=>by have h3:g1=b:=hx;omega)
        refine (insert_spec (M+1) (v3) es r9 _ ho8 (by have:=hel1;omega)).mono ?_
        intro e9 w9 hins
        obtain ⟨v,f,ys,rfl,g1,g2,g3,g4⟩:=ins_ok hins ho8 (by have:=S8.size;have:=HB.out.box.lt;omega) HR3.out hel1 ⟨h90,h91⟩
        exact hK.out _ _ (Chg.of_below g4) ((Sr.below g4).mono (by omega)) ⟨v,f,ys,rfl,g1,g2,g3⟩
       | 6,_,_,_,hdep =>
        have h5:∃ (vq:Value) (fq:Bool) (ys:List Int),(uv 88)=.tuple #[vq,.bool fq]∧OwnInts (M+1) w8 vq ys∧RisesL ys (1+rn)∧ys.length≤es.length+1:=hdep 5 (by kernel_rfl)
        clear hdep
        refine ⟨_,rfl,fun K' hK=>?_⟩
        obtain ⟨v,f,ys,e9,ho,h91,h92⟩:=h5
        simp only [e9] at hK ⊢
        go_simp
        exact hK.out _ _ (Chg.refl _ _) (Sr.mono (by omega)) (⟨v,f,ys,rfl,ho,h91,h92⟩)
       | 7,_,_,_,hdep =>
        have h6:∃ (vq:Value) (fq:Bool) (ys:List Int),(uv 82)=.tuple #[vq,.bool fq]∧OwnInts (M+1) w8 vq ys∧RisesL ys (1+rn)∧ys.length≤es.length+1:=hdep 6 (by kernel_rfl)
        clear hdep
        refine ⟨_,rfl,fun K' hK=>?_⟩
        obtain ⟨v,f,ys,e9,ho,h91,h92⟩:=h6
        simp only [e9] at hK ⊢
        go_simp
        exact hK.out _ _ (Chg.refl _ _) (Sr.mono (by omega)) (⟨ys,ho,h91,h92⟩)
       | 8,_,_,hl,_=>exact absurd hl (by decide)
       | 9,_,_,_,hdep =>
        clear hdep
        refine ⟨_,rfl,fun K' hK=>?_⟩
        go_simp
        exact hK.out _ _ (Chg.refl _ _) (Sr.mono (by omega)) (rfl)
       | 10,_,hne,_,_=>exact absurd rfl hne
       | i+11,hi,_,_,_=>exact absurd hi (by omega)
      case stepL =>
       intro i hi hne hl uv w8 hdep
       match i,hi,hne,hl,hdep with
       | 0,_,_,hl,_=>exact absurd hl (by decide)
       | 1,_,_,hl,_=>exact absurd hl (by decide)
       | 2,_,_,hl,_=>exact absurd hl (by decide)
       | 3,_,_,hl,_=>exact absurd hl (by decide)
       | 4,_,_,hl,_=>exact absurd hl (by decide)
       | 5,_,_,hl,_=>exact absurd hl (by decide)
       | 6,_,_,hl,_=>exact absurd hl (by decide)
       | 7,_,_,hl,_=>exact absurd hl (by decide)
       | 8,_,_,_,hdep =>
        have h6:∃ (vq:Value) (fq:Bool) (ys:List Int),(uv 82)=.tuple #[vq,.bool fq]∧OwnInts (M+1) w8 vq ys∧RisesL ys (1+rn)∧ys.length≤es.length+1:=hdep 6 (by kernel_rfl) (by decide)
        clear hdep
        refine ⟨_,rfl,fun K' hK=>?_⟩
        obtain ⟨v,f,ys,e9,ho,h91,h92⟩:=h6
        simp only [e9] at hK ⊢
        go_simp
        exact hK.out _ trivial
       | 9,_,_,hl,_=>exact absurd hl (by decide)
       | 10,_,hne,_,_=>exact absurd rfl hne
       | i+11,hi,_,_,_=>exact absurd hi (by omega)
      case store =>
       intro uv w8 S8 Sr hdep
       have h7:∃ (ys:List Int),OwnInts (M+1) w8 (uv 89) ys∧RisesL ys (1+rn)∧ys.length≤es.length+1:=hdep 7 (by kernel_rfl)
       have h9:(uv 91)=.pointer (some ⟨M,3,none⟩):=hdep 9 (by kernel_rfl)
       clear hdep
       refine ⟨_,rfl,fun K' hK=>?_⟩
       obtain ⟨ys,ho,h91,h92⟩:=h7
       obtain ⟨a9,n9,e9⟩:=own_shape ho
       simp only [h9,e9] at hK ⊢
       rw [e9] at ho
       have hb8:w8.heap[M]? = wr.heap[M]?:=S8.block M HB.out.box.lt (fun hx=>by have h3:M=b:=hx;omega)
       have c1:=(World.cell?_of_block (a:=⟨M,3,none⟩) hb8).trans q3
       have z1:=(HB.out.box.of_block hb8).frozen 3
       have HB8:=hid ((HB.out.chg (Y:=fun _=>False) hbw (S8.mono fun j hj=>.inl hj) (fun j hj=>hj.elim) Sr).set (F' := bx ((.slice (some ⟨w.heap.size+1,0,none⟩) (1+rn) 4)) (.slice va k vc) (v2) (.slice a9 ys.length n9) (nilV) (nilV)) hbw 3 (.slice a9 ys.length n9) (fun j hj=>by rcases (show j=0∨j=1∨j=2∨j=3∨j=4∨j=5 by omega) with rfl|rfl|rfl|rfl|rfl|rfl <;> rfl))
       have hc8:Chg (fun j=>j=M) w8 (w8.setCell ⟨M,3,none⟩ (.slice a9 ys.length n9)):=(Chg.refl (fun j=>j=M) w8).set (.inl rfl) _
       go_simp
       exact hK.out undef _ hc8 ⟨_,ys,own_chg ho hc8 (fun g1 hg1 _ hx=>by have h3:g1=M:=hx;omega),h91,h92,HB8.out,⟨own_chg (own_chg HO.out S8 (fun g1 hg1 _ hx=>by have h3:g1=b:=hx;omega)) hc8 (fun g1 hg1 _ hx=>by have h3:g1=M:=hx;omega),own_chg (own_chg HO2.out S8 (fun g1 hg1 _ hx=>by have h3:g1=b:=hx;omega)) hc8 (fun g1 hg1 _ hx=>by have h3:g1=M:=hx;omega),trivial⟩⟩
      case fin =>
       intro uv wf hpsi
       obtain ⟨v4,es4,ho4,hr4',hl4,hbs,hown,hos,-⟩:=hpsi
       go_wp2
       go_roundw
       case rel=>exact ⟨n - 1,t+1,v4,es4,by congr 1;omega,by omega,ho4,hr4',by omega,hbs.mono (by omega),hown,hos⟩
       case measure=>simp [intOf];omega
    · have dn:decide ((0:Int)<(n:Int))=false:=decide_eq_false (by omega)
      have dn':decide (0<n)=false:=decide_eq_false hn0
      have hel2:es.length≤2:=by omega
      have ht2:t≤2:=by omega
      clear hnt hel h33 q0 q1 q2 q3 q4 q5
      go_wp2_with fail
      refine (next_src b a len cap (900+100*t) 5 _ HB.out.src (by omega) (by omega) (by omega)).mono ?_
      rintro e' wL ⟨r5,rfl,h50,h55,hs4,hg4⟩
      obtain ⟨i5,rfl⟩:=Int.eq_ofNat_of_zero_le h50
      have HB5:=hid (HB.out.grow hbw hg4 hs4)
      have HO5:=hid (own_chg HO.out (Chg.of_grown (X:=fun k=>k=b) hg4 (fun k e=>by injection e with e;exact e.symm)) (fun g1 hg1 _ hx=>by have h3:g1=b:=hx;omega))
      have HO25:=hid (own_chg HO2.out (Chg.of_grown (X:=fun k=>k=b) hg4 (fun k e=>by injection e with e;exact e.symm)) (fun g1 hg1 _ hx=>by have h3:g1=b:=hx;omega))
      have HO35:=hid (own_chg HO3.out (Chg.of_grown (X:=fun k=>k=b) hg4 (fun k e=>by injection e with e;exact e.symm)) (fun g1 hg1 _ hx=>by have h3:g1=b:=hx;omega))
      clear hs4 hg4 HB HO HO2 HO3
      have hML3:M<wL.heap.size:=HB5.out.box.lt
      go_upto_block 4 with fail
      go_cut [9,10,11] from 94 to 143 (fun s9 s10 s11 wc=>∃ (m:Nat) (vx:Option Addr) (cx:Nat) (x:R),importsB g k x m=true∧Sx 72 5 w wL wc b a len cap (1700) M (bx (.slice (some ⟨w.heap.size+1,0,none⟩) (1+rn) 4) (.slice va k vc) v2 v3 (.slice vx m cx) (nilV)) vx m cx x)
      case first =>
       go_wp2_with fail
       go_loopw [9] (fun i wr=>∃ (n m:Nat) (vx:Option Addr) (cx:Nat) (x:R),i=.int .i64 n∧n+m≤4∧importsB g k x m=true∧Sx 72 5 w wL wr b a len cap (1200+100*m) M (bx (.slice (some ⟨w.heap.size+1,0,none⟩) (1+rn) 4) (.slice va k vc) v2 v3 (.slice vx m cx) (nilV)) vx m cx x) (fun i _=>(intOf i).toNat)
       case atStart=>exact ⟨i5,0,none,0,fun _ _=>0,rfl,by omega,rfl,HB5.out.mono (by omega),Chg.refl _ _,World.ownsRow_nil _ _ _ _,hML3⟩
       case round =>
        clear HB5
        obtain ⟨n5,m,vx,cx,x,rfl,hnm,hxb,hsx⟩:=hrel
        have HX:=hid hxb
        have HS3:=hid hsx
        clear hxb hsx
        obtain ⟨q0,q1,q2,q3,q4,q5⟩:=HS3.out.bs.cells
        by_cases hn0:0<n5
        · have dn:decide ((0:Int)<(n5:Int))=true:=decide_eq_true (by omega)
          have dn':decide (0<n5)=true:=decide_eq_true hn0
          by_cases hk0:0<k
          · have dk:decide ((0:Int)<(k:Int))=true:=decide_eq_true (by omega)
            have dk':decide (0<k)=true:=decide_eq_true hk0
            clear q0 q1 q2 q3 q4 q5
            have HOr:=hid (HS3.out.keep hbw HO5.out)
            have hrow:=(row_of (by omega) HOr.out).1
            obtain ⟨gb,go,rfl,-⟩:=hrow.cell 0 hk0
            clear hrow
            have HZw:w.heap.size<wr.heap.size:=by have:=HS3.out.bs.box.lt;omega
            obtain ⟨q0,q1,q2,q3,q4,q5⟩:=HS3.out.bs.cells
            go_upto_region 18 with fail
            refine region_src (fun uv=>⟨#[.pointer (some ⟨b,0,none⟩),undef,.pointer (some ⟨w.heap.size,0,none⟩),.pointer (some ⟨M,0,none⟩),.int .i64 (1 + ↑rn),u5,u6,u7,.int .i64 ↑n,.int .i64 ↑n5,uv 10,u11,undef,undef,undef,.slice (some ⟨w.heap.size+1,0,none⟩) 4 4,.pointer (some ⟨b,0,none⟩),.int .i64 ↑rn,.int .i64 (1 + ↑rn),.slice (some ⟨w.heap.size+1,0,none⟩) (1+rn) 4,.agg #[.slice (some ⟨w.heap.size+1,0,none⟩) (1+rn) 4,.slice none 0 0,.slice none 0 0,.slice none 0 0,.slice none 0 0,.slice none 0 0],.pointer (some ⟨M,0,none⟩),.slice (some ⟨w.heap.size+1,0,none⟩) (1+rn) 4,.int .i64 (1 + ↑rn),u24,u25,u26,u27,u28,u29,u30,u31,u32,u33,u34,u35,u36,u37,u38,u39,u40,u41,u42,u43,u44,u45,u46,u47,u48,u49,u50,u51,u52,u53,u54,u55,u56,u57,u58,u59,u60,u61,u62,u63,u64,u65,uu 66,uu 67,uu 68,uu 69,uu 70,uu 71,uu 72,uu 73,uu 74,uu 75,.pointer (some ⟨b,0,none⟩),.int .i64 ↑i3,.int .i64 ↑n,.bool false,u80,u81,u82,u83,u84,u85,u86,u87,u88,u89,u90,u91,.pointer (some ⟨b,0,none⟩),.int .i64 ↑i5,.int .i64 ↑n5,.bool true,.bool true,.pointer (some ⟨M,1,none⟩),.slice (some ⟨gb,go,none⟩) k vc,.int .i64 ↑k,.bool true,.bool true,u102,u103,uv 104,uv 105,uv 106,uv 107,uv 108,uv 109,uv 110,uv 111,uv 112,u113,u114,u115,u116,u117,u118,u119,u120,u121,u122,u123,u124,u125,u126,u127,u128,u129,u130,u131,u132,u133,u134,u135,u136,u137,u138,u139,u140,u141,u142,u143,undef,undef,undef,undef,undef,undef,undef,undef,undef,undef,undef,undef,undef,undef,undef,undef,undef,undef,undef,undef,undef,undef,undef,undef,undef,undef,undef,undef,undef,undef,undef,undef,undef,undef,undef,undef,undef,undef,undef,undef,undef],[]⟩) (fun i=>[104,105,106,107,108,109,110,111,112,10].getD i 0) (fun i v w8=>match i with|0=>v=.pointer (some ⟨M,1,none⟩)|1=>v=.slice (some ⟨gb,go,none⟩) k vc|2=>v=.pointer (some ⟨b,0,none⟩)|3=>v=.pointer (some ⟨M,1,none⟩)|4=>v=.slice (some ⟨gb,go,none⟩) k vc|5=>v=.int .i64 (k:Int)|6=>∃ r:Int,v=.int .i64 r∧0≤r∧r<(k:Int)|7=>∃ r:Nat,r<k∧v=.pointer (some ⟨gb,go+r*3,none⟩)|8=>∃ r:Nat,r<k∧v=.agg #[.int .i64 (g r 0),.int .i64 (g r 1),.int .i64 (g r 2)]|9=>∃ N:Nat,v=.pointer (some ⟨N,0,none⟩)∧wr.heap.size≤N∧World.rowIs w8 N 68 3 (fun _=>.int .i64 0)|_=>True) (fun _=>True) (fun _=>False) wr 10 99 b a len cap (1200+100*m) (fun k=>match k with|104=>u104|105=>u105|106=>u106|107=>u107|108=>u108|109=>u109|110=>u110|111=>u111|112=>u112|10=>u10|_=>undef) (by rfl) (by kernel_rfl) (by rfl) ⟨by kernel_rfl,by kernel_rfl,by kernel_rfl,by decide⟩ (by kernel_rfl) (Chg.refl _ _) HS3.out.bs.src trivial ?hput ?hinj ?stable ?stable0 ?step ?last
            case hput =>
             intro i hi uv v
             match i,hi with
             | 0,_=>rfl
             | 1,_=>rfl
             | 2,_=>rfl
             | 3,_=>rfl
             | 4,_=>rfl
             | 5,_=>rfl
             | 6,_=>rfl
             | 7,_=>rfl
             | 8,_=>rfl
             | 9,_=>rfl
             | i+10,hi=>exact absurd hi (by omega)
            case hinj =>
             intro i j hi hj h
             exact slots_inj [104,105,106,107,108,109,110,111,112,10] (by decide) hi hj h
            case stable =>
             intro i v w8 w9 hb h
             match i,hb,h with
             | 0,hb,h=>exact h
             | 1,hb,h=>exact h
             | 2,hb,h=>exact h
             | 3,hb,h=>exact h
             | 4,hb,h=>exact h
             | 5,hb,h=>exact h
             | 6,hb,h=>exact h
             | 7,hb,h=>exact h
             | 8,hb,h=>exact h
             | 9,hb,h=>(obtain ⟨N,e9,hN,hrw⟩:=h;exact ⟨N,e9,hN,row_chg hrw hb (fun hx=>by rcases hx with hx|hx;have:=HZw;omega;exact hx.2.elim)⟩)
             | _+10,hb,h=>trivial
            case stable0 =>
             intro w8 w9 hb h
             exact trivial
            case step =>
             intro i hi uv w8 k8 S8 Sr hk8 hq hdep
             match i,hi,hq,hdep with
             | 0,_,hq,hdep =>
              clear hdep
              refine ⟨_,rfl,fun K' hK=>?_⟩
              go_simp
              exact hK.out _ _ (Chg.refl _ _) (Sr.mono (by omega)) (rfl)
             | 1,_,hq,hdep =>
              have h0:(uv 104)=.pointer (some ⟨M,1,none⟩):=hdep 0 (by kernel_rfl)
              clear hdep
              refine ⟨_,rfl,fun K' hK=>?_⟩
              have c1:=S8.cell (fun hx=>(by rcases hx with hx|hx;omega;exact hx.elim)) q1
              simp only [h0] at hK ⊢
              go_simp
              exact hK.out _ _ (Chg.refl _ _) (Sr.mono (by omega)) (rfl)
             | 2,_,hq,hdep =>
              clear hdep
              refine ⟨_,rfl,fun K' hK=>?_⟩
              go_simp
              exact hK.out _ _ (Chg.refl _ _) (Sr.mono (by omega)) (rfl)
             | 3,_,hq,hdep =>
              clear hdep
              refine ⟨_,rfl,fun K' hK=>?_⟩
              go_simp
              exact hK.out _ _ (Chg.refl _ _) (Sr.mono (by omega)) (rfl)
             | 4,_,hq,hdep =>
              have h3:(uv 107)=.pointer (some ⟨M,1,none⟩):=hdep 3 (by kernel_rfl)
              clear hdep
              refine ⟨_,rfl,fun K' hK=>?_⟩
              have c1:=S8.cell (fun hx=>(by rcases hx with hx|hx;omega;exact hx.elim)) q1
              simp only [h3] at hK ⊢
              go_simp
              exact hK.out _ _ (Chg.refl _ _) (Sr.mono (by omega)) (rfl)
             | 5,_,hq,hdep =>
              have h4:(uv 108)=.slice (some ⟨gb,go,none⟩) k vc:=hdep 4 (by kernel_rfl)
              clear hdep
              refine ⟨_,rfl,fun K' hK=>?_⟩
              simp only [h4] at hK ⊢
              go_simp
              exact hK.out _ _ (Chg.refl _ _) (Sr.mono (by omega)) (rfl)
             | 6,_,hq,hdep =>
              have h2:(uv 106)=.pointer (some ⟨b,0,none⟩):=hdep 2 (by kernel_rfl)
              have h5:(uv 109)=.int .i64 (k:Int):=hdep 5 (by kernel_rfl)
              clear hdep
              refine ⟨_,rfl,fun K' hK=>?_⟩
              simp only [h2,h5] at hK ⊢
              go_simp
              refine (next_src b a len cap k8 ((k:Int)) _ Sr (by omega) (by omega) (by omega)).mono ?_
              rintro e9 w9 ⟨r9,rfl,h90,h91,hs9,hg9⟩
              exact hK.out _ _ (Chg.of_grown hg9 (fun k e=>by first|exact .inl (by injection e with e;exact e.symm)|(injection e with e;exact e.symm))) hs9 ⟨r9,rfl,h90,h91⟩
             | 7,_,hq,hdep =>
              have h1:(uv 105)=.slice (some ⟨gb,go,none⟩) k vc:=hdep 1 (by kernel_rfl)
              have h6:∃ r:Int,(uv 110)=.int .i64 r∧0≤r∧r<(k:Int):=hdep 6 (by kernel_rfl)
              clear hdep
              refine ⟨_,rfl,fun K' hK=>?_⟩
              obtain ⟨r9,e9,h90,h91⟩:=h6
              obtain ⟨rr,rfl⟩:=Int.eq_ofNat_of_zero_le h90
              have hrk:rr<k:=by omega
              simp only [h1,e9] at hK ⊢
              go_simp
              exact hK.out _ _ (Chg.refl _ _) (Sr.mono (by omega)) (⟨rr,hrk,rfl⟩)
             | 8,_,hq,hdep =>
              have h7:∃ r:Nat,r<k∧(uv 111)=.pointer (some ⟨gb,go+r*3,none⟩):=hdep 7 (by kernel_rfl)
              clear hdep
              refine ⟨_,rfl,fun K' hK=>?_⟩
              obtain ⟨rr,hrk,e9⟩:=h7
              obtain ⟨gb',go',eg,c0,c1,c2⟩:=(row_of (by omega) (own_chg HOr.out S8 (fun g1 hg1 _ hx=>by rcases hx with hx|hx;omega;exact hx.elim))).1.at3 hrk
              have eg1:gb=gb' := by injection eg with eg;injection eg
              have eg2:go=go' := by injection eg with eg;injection eg
              subst eg1
              subst eg2
              clear eg
              simp only [e9] at hK ⊢
              go_simp
              exact hK.out _ _ (Chg.refl _ _) (Sr.mono (by omega)) (⟨rr,hrk,rfl⟩)
             | 9,_,hq,hdep =>
              clear hdep
              refine ⟨_,rfl,fun K' hK=>?_⟩
              go_simp
              exact hK.out _ _ (Chg.of_below Bl) ((Sr.below Bl).mono (by omega)) ⟨w8.heap.size,rfl,S8.size,World.rowIs_alloc w8 #[.int .i64 0,.int .i64 0,.int .i64 0] _ _ (fun i hi=>by
               have h3:i<3:=hi
               rcases (show i=0∨i=1∨i=2 by omega) with rfl|rfl|rfl <;> rfl)⟩
             | i+10,hi,_,_=>exact absurd hi (by omega)
            case last =>
             intro uv w8 S8 Sr hall
             have h8:∃ r:Nat,r<k∧(uv 112)=.agg #[.int .i64 (g r 0),.int .i64 (g r 1),.int .i64 (g r 2)]:=hall 8 (by decide)
             have h9:∃ N:Nat,(uv 10)=.pointer (some ⟨N,0,none⟩)∧wr.heap.size≤N∧World.rowIs w8 N 68 3 (fun _=>.int .i64 0):=hall 9 (by decide)
             clear hall
             refine ⟨_,rfl,fun K' hK=>?_⟩
             obtain ⟨rr,hrk,e8⟩:=h8
             obtain ⟨N,e9,hN,hrw⟩:=h9
             simp only [e8,e9] at hK ⊢
             have n0:w8.cell? ⟨N,0,none⟩=some (.int .i64 0):=hrw.cell (i:=0) (by omega)
             have n1:w8.cell? ⟨N,1,none⟩=some (.int .i64 0):=hrw.cell (i:=1) (by omega)
             have n2:w8.cell? ⟨N,2,none⟩=some (.int .i64 0):=hrw.cell (i:=2) (by omega)
             have z0:=hrw.frozen 0
             have z1:=hrw.frozen 1
             have z2:=hrw.frozen 2
             have HRw:Hid (World.rowIs (((w8.setCell ⟨N,0,none⟩ (.int .i64 (g rr 0))).setCell ⟨N,1,none⟩ (.int .i64 (g rr 1))).setCell ⟨N,2,none⟩ (.int .i64 (g rr 2))) N 68 3 (fun i=>.int .i64 (g rr i))):=hid ((((hrw.set 0 _).set 1 _).set 2 _).congr (fun i hi=>by
              rcases (show i=0∨i=1∨i=2 by omega) with rfl|rfl|rfl <;> rfl))
             have hcN:Chg (fun j=>j=N) w8 (((w8.setCell ⟨N,0,none⟩ (.int .i64 (g rr 0))).setCell ⟨N,1,none⟩ (.int .i64 (g rr 1))).setCell ⟨N,2,none⟩ (.int .i64 (g rr 2))):=(((Chg.refl (fun j=>j=N) w8).set (.inl rfl) _).set (.inl rfl) _).set (.inl rfl) _
             have HcA:Hid (Chg (fun j=>j=b∨j=N) wr (((w8.setCell ⟨N,0,none⟩ (.int .i64 (g rr 0))).setCell ⟨N,1,none⟩ (.int .i64 (g rr 1))).setCell ⟨N,2,none⟩ (.int .i64 (g rr 2)))):=hid (Chg.trans (S8.mono fun j hj=>by rcases hj with hj|hj;exact .inl hj;exact hj.elim) (hcN.mono fun j hj=>.inr hj))
             have HsA:Hid (Src (((w8.setCell ⟨N,0,none⟩ (.int .i64 (g rr 0))).setCell ⟨N,1,none⟩ (.int .i64 (g rr 1))).setCell ⟨N,2,none⟩ (.int .i64 (g rr 2))) b a len cap (1200+100*m+10)):=hid (src_chg Sr hcN (fun j hj hx=>by have h3:j=N:=hx;have:=HZw;omega))
             clear hcN
             go_simp
             refine hK.out _ _ ?_
             clear hK K' n0 n1 n2 z0 z1 z2 hrw e8 e9 S8 Sr
             (try simp only [Exit.then])
             obtain ⟨wA,hwA⟩:∃ wA,((w8.setCell ⟨N,0,none⟩ (.int .i64 (g rr 0))).setCell ⟨N,1,none⟩ (.int .i64 (g rr 1))).setCell ⟨N,2,none⟩ (.int .i64 (g rr 2))=wA:=⟨_,rfl⟩
             rw [hwA] at HRw HcA HsA ⊢
             clear hwA
             have HA:=hid (HS3.out.step hbw HcA.out wr.heap.size (fun j hj=>by have h3:j=N:=hj;omega) HS3.out.chg.size (fun j hj=>(World.ownsRow.lt HS3.out.own j hj).2) HsA.out)
             have hNw:N<wA.heap.size:=HRw.out.lt
             clear HcA HsA
             go_upto_region 19 with fail
             refine region_src (fun uw=>⟨#[.pointer (some ⟨b,0,none⟩),undef,.pointer (some ⟨w.heap.size,0,none⟩),.pointer (some ⟨M,0,none⟩),.int .i64 (1 + ↑rn),u5,u6,u7,.int .i64 ↑n,.int .i64 ↑n5,.pointer (some ⟨N,0,none⟩),uw 11,undef,undef,undef,.slice (some ⟨w.heap.size+1,0,none⟩) 4 4,.pointer (some ⟨b,0,none⟩),.int .i64 ↑rn,.int .i64 (1 + ↑rn),.slice (some ⟨w.heap.size+1,0,none⟩) (1+rn) 4,.agg #[.slice (some ⟨w.heap.size+1,0,none⟩) (1+rn) 4,.slice none 0 0,.slice none 0 0,.slice none 0 0,.slice none 0 0,.slice none 0 0],.pointer (some ⟨M,0,none⟩),.slice (some ⟨w.heap.size+1,0,none⟩) (1+rn) 4,.int .i64 (1 + ↑rn),u24,u25,u26,u27,u28,u29,u30,u31,u32,u33,u34,u35,u36,u37,u38,u39,u40,u41,u42,u43,u44,u45,u46,u47,u48,u49,u50,u51,u52,u53,u54,u55,u56,u57,u58,u59,u60,u61,u62,u63,u64,u65,uu 66,uu 67,uu 68,uu 69,uu 70,uu 71,uu 72,uu 73,uu 74,uu 75,.pointer (some ⟨b,0,none⟩),.int .i64 ↑i3,.int .i64 ↑n,.bool false,u80,u81,u82,u83,u84,u85,u86,u87,u88,u89,u90,u91,.pointer (some ⟨b,0,none⟩),.int .i64 ↑i5,.int .i64 ↑n5,.bool true,.bool true,.pointer (some ⟨M,1,none⟩),.slice (some ⟨gb,go,none⟩) k vc,.int .i64 ↑k,.bool true,.bool true,u102,u103,uv 104,uv 105,uv 106,uv 107,uv 108,uv 109,uv 110,uv 111,.agg #[.int .i64 (g rr 0),.int .i64 (g rr 1),.int .i64 (g rr 2)],uw 113,uw 114,uw 115,uw 116,uw 117,uw 118,uw 119,uw 120,uw 121,uw 122,u123,u124,u125,u126,u127,u128,u129,u130,u131,u132,u133,u134,u135,u136,u137,u138,u139,u140,u141,u142,u143,undef,undef,undef,undef,undef,undef,undef,undef,undef,undef,undef,undef,undef,undef,undef,undef,undef,undef,undef,undef,undef,undef,undef,undef,undef,undef,undef,undef,undef,undef,undef,undef,undef,undef,undef,undef,undef,undef,undef,undef,undef],[]⟩) (fun i=>[113,114,115,116,117,118,119,120,121,122,11].getD i 0) (fun i v w8=>match i with|0=>v=.pointer (some ⟨N,0,none⟩)|1=>v=.int .i64 (g rr 0)|2=>v=.pointer (some ⟨N,1,none⟩)|3=>v=.int .i64 (g rr 1)|4=>v=.pointer (some ⟨b,0,none⟩)|5=>∃ r:Int,v=.int .i64 r∧0≤r∧r<3|6=>v=.pointer (some ⟨b,0,none⟩)|7=>∃ r:Int,v=.int .i64 r∧0≤r∧r<4|8=>∃ r:Int,v=.int .i64 r∧1≤r∧r<5|9=>∃ (wh dd:Int),v=.agg #[.int .i64 (g rr 0),.int .i64 (g rr 1),.int .i64 wh,.int .i64 dd,.int .i64 0]∧0≤wh∧wh<3∧1≤dd∧dd<5|10=>∃ N:Nat,v=.pointer (some ⟨N,0,none⟩)∧wA.heap.size≤N∧World.rowIs w8 N 72 5 (fun _=>.int .i64 0)|_=>True) (fun _=>True) (fun _=>False) wA 11 99 b a len cap (1200+100*m+10) (fun k=>match k with|113=>u113|114=>u114|115=>u115|116=>u116|117=>u117|118=>u118|119=>u119|120=>u120|121=>u121|122=>u122|11=>u11|_=>undef) (by rfl) (by kernel_rfl) (by rfl) ⟨by kernel_rfl,by kernel_rfl,by kernel_rfl,by decide⟩ (by kernel_rfl) (Chg.refl _ _) HA.out.bs.src trivial ?hput ?hinj ?stable ?stable0 ?step ?last
             case hput =>
              intro i hi uw v
              match i,hi with
              | 0,_=>rfl
              | 1,_=>rfl
              | 2,_=>rfl
              | 3,_=>rfl
              | 4,_=>rfl
              | 5,_=>rfl
              | 6,_=>rfl
              | 7,_=>rfl
              | 8,_=>rfl
              | 9,_=>rfl
              | 10,_=>rfl
              | i+11,hi=>exact absurd hi (by omega)
             case hinj =>
              intro i j hi hj h
              exact slots_inj [113,114,115,116,117,118,119,120,121,122,11] (by decide) hi hj h
             case stable =>
              intro i v w8 w9 hb h
              match i,hb,h with
              | 0,hb,h=>exact h
              | 1,hb,h=>exact h
              | 2,hb,h=>exact h
              | 3,hb,h=>exact h
              | 4,hb,h=>exact h
              | 5,hb,h=>exact h
              | 6,hb,h=>exact h
              | 7,hb,h=>exact h
              | 8,hb,h=>exact h
              | 9,hb,h=>exact h
              | 10,hb,h=>(obtain ⟨N,e9,hN,hrw⟩:=h;exact ⟨N,e9,hN,row_chg hrw hb (fun hx=>by rcases hx with hx|hx;have:=HZw;omega;exact hx.2.elim)⟩)
              | _+11,hb,h=>trivial
             case stable0 =>
              intro w8 w9 hb h
              exact trivial
             case step =>
              intro i hi uw w8 k8 S8 Sr hk8 hq hdep
              match i,hi,hq,hdep with
              | 0,_,hq,hdep =>
               clear hdep
               refine ⟨_,rfl,fun K' hK=>?_⟩
               go_simp
               exact hK.out _ _ (Chg.refl _ _) (Sr.mono (by omega)) (rfl)
              | 1,_,hq,hdep =>
               have h0:(uw 113)=.pointer (some ⟨N,0,none⟩):=hdep 0 (by kernel_rfl)
               clear hdep
               refine ⟨_,rfl,fun K' hK=>?_⟩
               have c1:World.cell? w8 ⟨N,0,none⟩=some (.int .i64 (g rr 0)):=(row_chg HRw.out S8 (fun hx=>(by rcases hx with hx|hx;omega;exact hx.elim))).cell (i:=0) (by omega)
               simp only [h0] at hK ⊢
               go_simp
               exact hK.out _ _ (Chg.refl _ _) (Sr.mono (by omega)) (rfl)
              | 2,_,hq,hdep =>
               clear hdep
               refine ⟨_,rfl,fun K' hK=>?_⟩
               go_simp
               exact hK.out _ _ (Chg.refl _ _) (Sr.mono (by omega)) (rfl)
              | 3,_,hq,hdep =>
               have h2:(uw 115)=.pointer (some ⟨N,1,none⟩):=hdep 2 (by kernel_rfl)
               clear hdep
               refine ⟨_,rfl,fun K' hK=>?_⟩
               have c1:World.cell? w8 ⟨N,1,none⟩=some (.int .i64 (g rr 1)):=(row_chg HRw.out S8 (fun hx=>(by rcases hx with hx|hx;omega;exact hx.elim))).cell (i:=1) (by omega)
               simp only [h2] at hK ⊢
               go_simp
               exact hK.out _ _ (Chg.refl _ _) (Sr.mono (by omega)) (rfl)
              | 4,_,hq,hdep =>
               clear hdep
               refine ⟨_,rfl,fun K' hK=>?_⟩
               go_simp
               exact hK.out _ _ (Chg.refl _ _) (Sr.mono (by omega)) (rfl)
              | 5,_,hq,hdep =>
               have h4:(uw 117)=.pointer (some ⟨b,0,none⟩):=hdep 4 (by kernel_rfl)
               clear hdep
               refine ⟨_,rfl,fun K' hK=>?_⟩
               simp only [h4] at hK ⊢
               go_simp
               refine (next_src b a len cap k8 (3) _ Sr (by omega) (by omega) (by omega)).mono ?_
               rintro e9 w9 ⟨r9,rfl,h90,h91,hs9,hg9⟩
               exact hK.out _ _ (Chg.of_grown hg9 (fun k e=>by first|exact .inl (by injection e with e;exact e.symm)|(injection e with e;exact e.symm))) hs9 ⟨r9,rfl,h90,h91⟩
              | 6,_,hq,hdep =>
               clear hdep
               refine ⟨_,rfl,fun K' hK=>?_⟩
               go_simp
               exact hK.out _ _ (Chg.refl _ _) (Sr.mono (by omega)) (rfl)
              | 7,_,hq,hdep =>
               have h6:(uw 119)=.pointer (some ⟨b,0,none⟩):=hdep 6 (by kernel_rfl)
               clear hdep
               refine ⟨_,rfl,fun K' hK=>?_⟩
               simp only [h6] at hK ⊢
               go_simp
               refine (next_src b a len cap k8 (4) _ Sr (by omega) (by omega) (by omega)).mono ?_
               rintro e9 w9 ⟨r9,rfl,h90,h91,hs9,hg9⟩
               exact hK.out _ _ (Chg.of_grown hg9 (fun k e=>by first|exact .inl (by injection e with e;exact e.symm)|(injection e with e;exact e.symm))) hs9 ⟨r9,rfl,h90,h91⟩
              | 8,_,hq,hdep =>
               have h7:∃ r:Int,(uw 120)=.int .i64 r∧0≤r∧r<4:=hdep 7 (by kernel_rfl)
               clear hdep
               refine ⟨_,rfl,fun K' hK=>?_⟩
               obtain ⟨r9,e9,h90,h91⟩:=h7
               have hw9:IntKind.i64.wrap (1+r9)=1+r9:=by rw [IntKind.wrap_i64];omega
               simp only [e9] at hK ⊢
               go_simp
               (try rw [hw9])
               exact hK.out _ _ (Chg.refl _ _) (Sr.mono (by omega)) (⟨1+r9,rfl,by omega,by omega⟩)
              | 9,_,hq,hdep =>
               have h1:(uw 114)=.int .i64 (g rr 0):=hdep 1 (by kernel_rfl)
               have h3:(uw 116)=.int .i64 (g rr 1):=hdep 3 (by kernel_rfl)
               have h5:∃ r:Int,(uw 118)=.int .i64 r∧0≤r∧r<3:=hdep 5 (by kernel_rfl)
               have h8:∃ r:Int,(uw 121)=.int .i64 r∧1≤r∧r<5:=hdep 8 (by kernel_rfl)
               clear hdep
               refine ⟨_,rfl,fun K' hK=>?_⟩
               obtain ⟨r9,e9,h90,h91⟩:=h5
               obtain ⟨r7,e7,h70,h71⟩:=h8
               simp only [h1,h3,e9,e7] at hK ⊢
               go_simp
               exact hK.out _ _ (Chg.refl _ _) (Sr.mono (by omega)) (⟨_,_,rfl,h90,h91,h70,h71⟩)
              | 10,_,hq,hdep =>
               clear hdep
               refine ⟨_,rfl,fun K' hK=>?_⟩
               go_simp
               exact hK.out _ _ (Chg.of_below Bl) ((Sr.below Bl).mono (by omega)) ⟨w8.heap.size,rfl,S8.size,World.rowIs_alloc w8 #[.int .i64 0,.int .i64 0,.int .i64 0,.int .i64 0,.int .i64 0] _ _ (fun i hi=>by
                have h3:i<5:=hi
                rcases (show i=0∨i=1∨i=2∨i=3∨i=4 by omega) with rfl|rfl|rfl|rfl|rfl <;> rfl)⟩
              | i+11,hi,_,_=>exact absurd hi (by omega)
             case last =>
              intro uw w8 S8 Sr hall
              have h9:∃ (wh dd:Int),(uw 122)=.agg #[.int .i64 (g rr 0),.int .i64 (g rr 1),.int .i64 wh,.int .i64 dd,.int .i64 0]∧0≤wh∧wh<3∧1≤dd∧dd<5:=hall 9 (by decide)
              have h10:∃ N:Nat,(uw 11)=.pointer (some ⟨N,0,none⟩)∧wA.heap.size≤N∧World.rowIs w8 N 72 5 (fun _=>.int .i64 0):=hall 10 (by decide)
              clear hall
              refine ⟨_,rfl,fun K' hK=>?_⟩
              obtain ⟨wh,dd,e8,hw0,hw1,hd0,hd1⟩:=h9
              obtain ⟨N2,e9,hN2,hrw⟩:=h10
              simp only [e8,e9] at hK ⊢
              have n0:w8.cell? ⟨N2,0,none⟩=some (.int .i64 0):=hrw.cell (i:=0) (by omega)
              have n1:w8.cell? ⟨N2,1,none⟩=some (.int .i64 0):=hrw.cell (i:=1) (by omega)
              have n2:w8.cell? ⟨N2,2,none⟩=some (.int .i64 0):=hrw.cell (i:=2) (by omega)
              have n3:w8.cell? ⟨N2,3,none⟩=some (.int .i64 0):=hrw.cell (i:=3) (by omega)
              have n4:w8.cell? ⟨N2,4,none⟩=some (.int .i64 0):=hrw.cell (i:=4) (by omega)
              have z0:=hrw.frozen 0
              have z1:=hrw.frozen 1
              have z2:=hrw.frozen 2
              have z3:=hrw.frozen 3
              have z4:=hrw.frozen 4
              have HRx:Hid (World.rowIs (((((w8.setCell ⟨N2,0,none⟩ (.int .i64 (g rr 0))).setCell ⟨N2,1,none⟩ (.int .i64 (g rr 1))).setCell ⟨N2,2,none⟩ (.int .i64 wh)).setCell ⟨N2,3,none⟩ (.int .i64 dd)).setCell ⟨N2,4,none⟩ (.int .i64 0)) N2 72 5 (fun i=>.int .i64 (imp5 (g rr 0) (g rr 1) wh dd 0 i))):=hid ((((((hrw.set 0 _).set 1 _).set 2 _).set 3 _).set 4 _).congr (fun i hi=>by
               rcases (show i=0∨i=1∨i=2∨i=3∨i=4 by omega) with rfl|rfl|rfl|rfl|rfl <;> rfl))
              have hcN:Chg (fun j=>j=N2) w8 (((((w8.setCell ⟨N2,0,none⟩ (.int .i64 (g rr 0))).setCell ⟨N2,1,none⟩ (.int .i64 (g rr 1))).setCell ⟨N2,2,none⟩ (.int .i64 wh)).setCell ⟨N2,3,none⟩ (.int .i64 dd)).setCell ⟨N2,4,none⟩ (.int .i64 0)):=(((((Chg.refl (fun j=>j=N2) w8).set (.inl rfl) _).set (.inl rfl) _).set (.inl rfl) _).set (.inl rfl) _).set (.inl rfl) _
              have HcA:Hid (Chg (fun j=>j=b∨j=N2) wA (((((w8.setCell ⟨N2,0,none⟩ (.int .i64 (g rr 0))).setCell ⟨N2,1,none⟩ (.int .i64 (g rr 1))).setCell ⟨N2,2,none⟩ (.int .i64 wh)).setCell ⟨N2,3,none⟩ (.int .i64 dd)).setCell ⟨N2,4,none⟩ (.int .i64 0))):=hid (Chg.trans (S8.mono fun j hj=>by rcases hj with hj|hj;exact .inl hj;exact hj.elim) (hcN.mono fun j hj=>.inr hj))
              have HsA:Hid (Src (((((w8.setCell ⟨N2,0,none⟩ (.int .i64 (g rr 0))).setCell ⟨N2,1,none⟩ (.int .i64 (g rr 1))).setCell ⟨N2,2,none⟩ (.int .i64 wh)).setCell ⟨N2,3,none⟩ (.int .i64 dd)).setCell ⟨N2,4,none⟩ (.int .i64 0)) b a len cap (1200+100*m+10+11)):=hid (src_chg Sr hcN (fun j hj hx=>by have h3:j=N2:=hx;have:=HZw;omega))
              clear hcN
              go_simp
              refine hK.out _ _ ?_
              clear hK K' n0 n1 n2 n3 n4 z0 z1 z2 z3 z4 hrw e8 e9 S8 Sr
              (try simp only [Exit.then])
              obtain ⟨wB,hwB⟩:∃ wB,((((w8.setCell ⟨N2,0,none⟩ (.int .i64 (g rr 0))).setCell ⟨N2,1,none⟩ (.int .i64 (g rr 1))).setCell ⟨N2,2,none⟩ (.int .i64 wh)).setCell ⟨N2,3,none⟩ (.int .i64 dd)).setCell ⟨N2,4,none⟩ (.int .i64 0)=wB:=⟨_,rfl⟩
              rw [hwB] at HRx HcA HsA ⊢
              clear hwB
              have HBB:=hid (HA.out.step hbw HcA.out wA.heap.size (fun j hj=>by have h3:j=N2:=hj;omega) HA.out.chg.size (fun j hj=>(World.ownsRow.lt HA.out.own j hj).2) HsA.out)
              have HRl:=hid (row_chg HRw.out HcA.out (fun hx=>by rcases hx with hx|hx <;> omega))
              have hNw2:N2<wB.heap.size:=HRx.out.lt
              clear HcA HsA HRw HA
              go_wp2_with fail
              refine (chance_src b a len cap (1200+100*m+10+11) 2 _ HBB.out.bs.src (by omega) (by omega) (by omega)).mono ?_
              rintro e' wC ⟨tq,rfl,hs4,hg4⟩
              have HC:=hid (HBB.out.grow hbw hg4 hs4)
              have HRx1:=hid (row_chg HRx.out (Chg.of_grown (X:=fun k=>k=b) hg4 (fun k e=>by injection e with e;exact e.symm)) (fun hx=>by have h3:N2=b:=hx;omega))
              have HRl1:=hid (row_chg HRl.out (Chg.of_grown (X:=fun k=>k=b) hg4 (fun k e=>by injection e with e;exact e.symm)) (fun hx=>by have h3:N=b:=hx;omega))
              have HYx:Hid (∀ j,(Value.slice vx m cx).ownBlock=some j→j<wr.heap.size):=hid (fun j hj=>(World.ownsRow.lt HS3.out.own j hj).2)
              clear hs4 hg4 HBB HRx HRl q0 q1 q2 q3 q4 q5
              go_upto_if 124 with fail
              go_cut [] from 94 to 143 (fun wD=>∃ (a0 a1:Int),0≤linkAt g k a0 a1∧World.rowIs wD N2 72 5 (fun i=>.int .i64 (imp5 a0 a1 wh dd 0 i))∧Sx 72 5 w wL wD b a len cap (1200+100*m+22) M (bx (.slice (some ⟨w.heap.size+1,0,none⟩) (1+rn) 4) (.slice (some ⟨gb,go,none⟩) k vc) v2 v3 (.slice vx m cx) (nilV)) vx m cx x)
              case first =>
               have HLh:=hid (link_hit g hrk)
               cases tq with
               | false =>
                go_wp2_with fail
                go_meet
                exact ⟨g rr 0,g rr 1,HLh.out.1,HRx1.out,HC.out⟩
               | true =>
                have n0:wC.cell? ⟨N2,0,none⟩=some (.int .i64 (g rr 0)):=HRx1.out.cell (i:=0) (by omega)
                have z0:=HRx1.out.frozen 0
                have n1:wC.cell? ⟨N2,1,none⟩=some (.int .i64 (g rr 1)):=HRx1.out.cell (i:=1) (by omega)
                have z1:=HRx1.out.frozen 1
                have n2:wC.cell? ⟨N2,2,none⟩=some (.int .i64 (wh)):=HRx1.out.cell (i:=2) (by omega)
                have z2:=HRx1.out.frozen 2
                have n3:wC.cell? ⟨N2,3,none⟩=some (.int .i64 (dd)):=HRx1.out.cell (i:=3) (by omega)
                have z3:=HRx1.out.frozen 3
                have n4:wC.cell? ⟨N2,4,none⟩=some (.int .i64 (0)):=HRx1.out.cell (i:=4) (by omega)
                have z4:=HRx1.out.frozen 4
                have l0:wC.cell? ⟨N,0,none⟩=some (.int .i64 (g rr 0)):=HRl1.out.cell (i:=0) (by omega)
                have l1:wC.cell? ⟨N,1,none⟩=some (.int .i64 (g rr 1)):=HRl1.out.cell (i:=1) (by omega)
                have hNN:¬ N=N2:=by omega
                have hNN':¬ N2=N:=by omega
                go_wp2_with fail
                go_meet
                have hcS:Chg (fun j=>j=N2) wC (((wC).setCell ⟨N2,0,none⟩ (.int .i64 (g rr 1))).setCell ⟨N2,1,none⟩ (.int .i64 (g rr 0))):=((Chg.refl (fun j=>j=N2) wC).set (.inl rfl) _).set (.inl rfl) _
                have HsS:=src_chg HC.out.bs.src hcS (fun j hj hx=>by have h3:j=N2:=hx;omega)
                have HSS:=HC.out.step hbw (Z:=fun j=>j=N2) (hcS.mono fun j hj=>.inr hj) wr.heap.size (fun j hj=>by have h3:j=N2:=hj;omega) HS3.out.chg.size (fun j hj=>HYx.out j hj) HsS
                exact ⟨g rr 1,g rr 0,HLh.out.2,((HRx1.out.set 0 (.int .i64 (g rr 1))).set 1 (.int .i64 (g rr 0))).congr (fun i hi=>by
                 rcases (show i=0∨i=1∨i=2∨i=3∨i=4 by omega) with rfl|rfl|rfl|rfl|rfl <;> rfl),HSS⟩
              case rest =>
               obtain ⟨a0,a1,hla,hrx,hsx⟩:=hcut
               have HLa:=hid hla
               have HRx2:=hid hrx
               have HD:=hid hsx
               clear hla hrx hsx HRx1 HRl1 HC
               go_upto_region 23 with fail
               have n0:World.cell? _ ⟨N2,0,none⟩=some (.int .i64 (a0)):=HRx2.out.cell (i:=0) (by omega)
               have z0:=HRx2.out.frozen 0
               have n1:World.cell? _ ⟨N2,1,none⟩=some (.int .i64 (a1)):=HRx2.out.cell (i:=1) (by omega)
               have z1:=HRx2.out.frozen 1
               have n2:World.cell? _ ⟨N2,2,none⟩=some (.int .i64 (wh)):=HRx2.out.cell (i:=2) (by omega)
               have z2:=HRx2.out.frozen 2
               have n3:World.cell? _ ⟨N2,3,none⟩=some (.int .i64 (dd)):=HRx2.out.cell (i:=3) (by omega)
               have z3:=HRx2.out.frozen 3
               have n4:World.cell? _ ⟨N2,4,none⟩=some (.int .i64 (0)):=HRx2.out.cell (i:=4) (by omega)
               have z4:=HRx2.out.frozen 4
               go_upto_if 133 with fail
               clear n0 n1 n2 n3 n4 z0 z1 z2 z3 z4
               go_cut [] from 94 to 143 (fun wE=>∃ (a4:Int),(dd=2∧0≤a4∧a4≤1000∨dd≠2∧a4=0)∧World.rowIs wE N2 72 5 (fun i=>.int .i64 (imp5 a0 a1 wh dd a4 i))∧Sx 72 5 w wL wE b a len cap (1200+100*m+23) M (bx (.slice (some ⟨w.heap.size+1,0,none⟩) (1+rn) 4) (.slice (some ⟨gb,go,none⟩) k vc) v2 v3 (.slice vx m cx) (nilV)) vx m cx x)
               case first =>
                by_cases hd2:dd=2
                · have d2:(dd == 2)=true:=by simp [hd2]
                  go_wp2_with fail
                  refine (next_src b a len cap (1200+100*m+22) 5 _ HD.out.bs.src (by omega) (by omega) (by omega)).mono ?_
                  rintro e' wE ⟨r5,rfl,h5a,h5b,hs4,hg4⟩
                  have HE:=hid (HD.out.grow hbw hg4 hs4)
                  have HRx3:=hid (row_chg HRx2.out (Chg.of_grown (X:=fun k=>k=b) hg4 (fun k e=>by injection e with e;exact e.symm)) (fun hx=>by have h3:N2=b:=hx;omega))
                  clear hs4 hg4
                  have n0:wE.cell? ⟨N2,0,none⟩=some (.int .i64 (a0)):=HRx3.out.cell (i:=0) (by omega)
                  have z0:=HRx3.out.frozen 0
                  have n1:wE.cell? ⟨N2,1,none⟩=some (.int .i64 (a1)):=HRx3.out.cell (i:=1) (by omega)
                  have z1:=HRx3.out.frozen 1
                  have n2:wE.cell? ⟨N2,2,none⟩=some (.int .i64 (wh)):=HRx3.out.cell (i:=2) (by omega)
                  have z2:=HRx3.out.frozen 2
                  have n3:wE.cell? ⟨N2,3,none⟩=some (.int .i64 (dd)):=HRx3.out.cell (i:=3) (by omega)
                  have z3:=HRx3.out.frozen 3
                  have n4:wE.cell? ⟨N2,4,none⟩=some (.int .i64 (0)):=HRx3.out.cell (i:=4) (by omega)
                  have z4:=HRx3.out.frozen 4
                  have hw5:IntKind.i64.wrap (50*r5)=50*r5:=by rw [IntKind.wrap_i64];omega
                  go_wp2_with fail
                  go_meet
                  have hcS:Chg (fun j=>j=N2) wE ((wE).setCell ⟨N2,4,none⟩ (.int .i64 (50*r5))):=(Chg.refl (fun j=>j=N2) wE).set (.inl rfl) _
                  have HsS:=src_chg HE.out.bs.src hcS (fun j hj hx=>by have h3:j=N2:=hx;omega)
                  have HSS:=HE.out.step hbw (Z:=fun j=>j=N2) (hcS.mono fun j hj=>.inr hj) wr.heap.size (fun j hj=>by have h3:j=N2:=hj;omega) HS3.out.chg.size (fun j hj=>HYx.out j hj) HsS
                  exact ⟨50*r5,.inl ⟨hd2,by omega,by omega⟩,(HRx3.out.set 4 (.int .i64 (50*r5))).congr (fun i hi=>by
                   rcases (show i=0∨i=1∨i=2∨i=3∨i=4 by omega) with rfl|rfl|rfl|rfl|rfl <;> rfl),HSS⟩
                · have d2:(dd == 2)=false:=by simp [hd2]
                  go_wp2_with fail
                  go_meet
                  exact ⟨0,.inr ⟨hd2,rfl⟩,HRx2.out,HD.out.mono (by omega)⟩
               case rest =>
                obtain ⟨a4,ha4,hrx,hsx⟩:=hcut
                have HA4:=hid ha4
                have HRx3:=hid hrx
                have HE:=hid hsx
                clear ha4 hrx hsx HRx2 HD
                have n0:World.cell? _ ⟨N2,0,none⟩=some (.int .i64 (a0)):=HRx3.out.cell (i:=0) (by omega)
                have z0:=HRx3.out.frozen 0
                have n1:World.cell? _ ⟨N2,1,none⟩=some (.int .i64 (a1)):=HRx3.out.cell (i:=1) (by omega)
                have z1:=HRx3.out.frozen 1
                have n2:World.cell? _ ⟨N2,2,none⟩=some (.int .i64 (wh)):=HRx3.out.cell (i:=2) (by omega)
                have z2:=HRx3.out.frozen 2
                have n3:World.cell? _ ⟨N2,3,none⟩=some (.int .i64 (dd)):=HRx3.out.cell (i:=3) (by omega)
                have z3:=HRx3.out.frozen 3
                have n4:World.cell? _ ⟨N2,4,none⟩=some (.int .i64 (a4)):=HRx3.out.cell (i:=4) (by omega)
                have z4:=HRx3.out.frozen 4
                obtain ⟨q0,q1,q2,q3,q4,q5⟩:=HE.out.bs.cells
                have hszE:=HE.out.chg.size
                have hm12:m<12:=by omega
                go_wp2_with (at_builtin
                             refine wpList_append_own _ rfl _ _ 26 rfl wL.heap.size 72 j0 (.agg #[.int .i64 0,.int .i64 0,.int .i64 0,.int .i64 0,.int .i64 0]) 5 40 Tryz.underlying26 HJ.out HJ0.out HJ1.out HJ2.out rfl (by decide) _ _ _ rfl (World.ownsRow.alloc HE.out.own _) ⟨_,0,none⟩ 1 1 [.int .i64 a0,.int .i64 a1,.int .i64 wh,.int .i64 dd,.int .i64 a4] rfl rfl (cells5 (cell_new _ _ _ rfl) (cell_new _ _ _ rfl) (cell_new _ _ _ rfl) (cell_new _ _ _ rfl) (cell_new _ _ _ rfl)) (fun u hu=>by simp at hu;rcases hu with rfl|rfl|rfl|rfl|rfl <;> rfl) (by unfold maxLen;omega) (by omega) (by simp;omega) ?_
                             intro v9 w9 hown9 hg9 hnil
                             obtain ⟨vx9,cx9,e9⟩:=own_shape hown9
                             subst e9
                             have HO9:=hid hown9
                             have HY9:Hid (Chg (fun j=>(Value.slice vx m cx).ownBlock=some j) _ w9):=hid (Chg.trans (Chg.of_below ((Below.refl _ _).alloc (Nat.le_refl _) _)) (Chg.of_grown hg9 (fun j e=>e)))
                             have HR9:=hid (HE.out.boxed hbw (HY9.out.mono fun j hj=>.inr hj))
                             have q9:=HR9.out.cell (i:=4) (by omega)
                             have z9:=HR9.out.frozen 4
                             clear hown9 hg9 hnil n0 n1 n2 n3 n4 z0 z1 z2 z3 z4 q0 q1 q2 q3 q4 q5)
                go_roundw
                case rel =>
                 have hY9:=World.ownsRow.lt HE.out.own
                 have hs9:=src_chg HE.out.bs.src HY9.out (fun j hj hx=>by have:=hY9 j hx;omega)
                 exact ⟨n5 - 1,m+1,vx9,cx9,updR x m (imp5 a0 a1 wh dd a4),by congr 1;omega,by omega,imports_step HX.out hm12 HLa.out (deed_of (by show 0≤wh∧wh≤2;omega) (by show 1≤dd∧dd≤4;omega) HA4.out),(HE.out.append hbw (HY9.out.mono fun j hj=>.inr hj) hs9 (imp5 a0 a1 wh dd a4) rfl HO9.out 4 (fun j hj=>by rcases (show j=0∨j=1∨j=2∨j=3∨j=4∨j=5 by omega) with rfl|rfl|rfl|rfl|rfl|rfl <;> rfl)).mono (by omega)⟩
                case measure=>simp [intOf];omega
          · have dk:decide ((0:Int)<(k:Int))=false:=decide_eq_false (by omega)
            have dk':decide (0<k)=false:=decide_eq_false hk0
            go_wp2_with fail
            go_meet
            exact ⟨m,vx,cx,x,HX.out,HS3.out.mono (by omega)⟩
        · have dn:decide ((0:Int)<(n5:Int))=false:=decide_eq_false (by omega)
          have dn':decide (0<n5)=false:=decide_eq_false hn0
          go_wp2_with fail
          go_meet
          exact ⟨m,vx,cx,x,HX.out,HS3.out.mono (by omega)⟩
      case rest =>
       clear HB5
       obtain ⟨m,vx,cx,x,hxb,hsx⟩:=hcut
       have HX:=hid hxb
       have HS3:=hid hsx
       clear hxb hsx
       have HOl:=hid (HS3.out.keep hbw HO5.out)
       have HOo:=hid (HS3.out.keep hbw HO25.out)
       have HOe:=hid (HS3.out.keep hbw HO35.out)
       have HOi:=hid (own_mono (B' := M+1) HS3.out.own hML3)
       clear HO5 HO25 HO35
       go_wp2_with fail
       refine (next_src b a len cap 1700 3 _ HS3.out.bs.src (by omega) (by omega) (by omega)).mono ?_
       rintro e' wN ⟨r6,rfl,h60,h66,hs4,hg4⟩
       obtain ⟨i6,rfl⟩:=Int.eq_ofNat_of_zero_le h60
       have HB6:=hid (HS3.out.bs.grow hbw hg4 hs4)
       have HO56:=hid (own_chg HOl.out (Chg.of_grown (X:=fun k=>k=b) hg4 (fun k e=>by injection e with e;exact e.symm)) (fun g1 hg1 _ hx=>by have h3:g1=b:=hx;omega))
       have HO26:=hid (own_chg HOo.out (Chg.of_grown (X:=fun k=>k=b) hg4 (fun k e=>by injection e with e;exact e.symm)) (fun g1 hg1 _ hx=>by have h3:g1=b:=hx;omega))
       have HO36:=hid (own_chg HOe.out (Chg.of_grown (X:=fun k=>k=b) hg4 (fun k e=>by injection e with e;exact e.symm)) (fun g1 hg1 _ hx=>by have h3:g1=b:=hx;omega))
       have HO46:=hid (own_chg HOi.out (Chg.of_grown (X:=fun k=>k=b) hg4 (fun k e=>by injection e with e;exact e.symm)) (fun g1 hg1 _ hx=>by have h3:g1=b:=hx;omega))
       clear hs4 hg4 HS3 HOl HOo HOe HOi
       have hML4:M<wN.heap.size:=HB6.out.box.lt
       go_upto_block 6 with fail
       go_cut [12,13,14] from 146 to 183 (fun s12 s13 s14 wc=>∃ (mf:Nat) (vf:Option Addr) (cf:Nat) (f:R),filtersB g k f mf=true∧Sx 75 4 w wN wc b a len cap (2500) M (bx (.slice (some ⟨w.heap.size+1,0,none⟩) (1+rn) 4) (.slice va k vc) v2 v3 (.slice vx m cx) (.slice vf mf cf)) vf mf cf f)
       case first =>
        go_wp2_with fail
        go_loopw [12] (fun i wr=>∃ (n mf:Nat) (vf:Option Addr) (cf:Nat) (f:R),i=.int .i64 n∧n+mf≤2∧filtersB g k f mf=true∧Sx 75 4 w wN wr b a len cap (1800+100*mf) M (bx (.slice (some ⟨w.heap.size+1,0,none⟩) (1+rn) 4) (.slice va k vc) v2 v3 (.slice vx m cx) (.slice vf mf cf)) vf mf cf f) (fun i _=>(intOf i).toNat)
        case atStart=>exact ⟨i6,0,none,0,fun _ _=>0,rfl,by omega,rfl,HB6.out.mono (by omega),Chg.refl _ _,World.ownsRow_nil _ _ _ _,hML4⟩
        case round =>
         clear HB6
         obtain ⟨n6,mf,vf,cf,f,rfl,hnm,hxb,hsx⟩:=hrel
         have HX4:=hid hxb
         have HS4:=hid hsx
         clear hxb hsx
         obtain ⟨q0,q1,q2,q3,q4,q5⟩:=HS4.out.bs.cells
         by_cases hn0:0<n6
         · have dn:decide ((0:Int)<(n6:Int))=true:=decide_eq_true (by omega)
           have dn':decide (0<n6)=true:=decide_eq_true hn0
           by_cases hk0:0<k
           · have dk:decide ((0:Int)<(k:Int))=true:=decide_eq_true (by omega)
             have dk':decide (0<k)=true:=decide_eq_true hk0
             clear q0 q1 q2 q3 q4 q5
             have HOr:=hid (HS4.out.keep hbw HO56.out)
             have hrow:=(row_of (by omega) HOr.out).1
             obtain ⟨gb,go,rfl,-⟩:=hrow.cell 0 hk0
             clear hrow
             have HZw:w.heap.size<wr.heap.size:=by have:=HS4.out.bs.box.lt;omega
             obtain ⟨q0,q1,q2,q3,q4,q5⟩:=HS4.out.bs.cells
             go_upto_region 29 with fail
             refine region_src (fun uv=>⟨#[.pointer (some ⟨b,0,none⟩),undef,.pointer (some ⟨w.heap.size,0,none⟩),.pointer (some ⟨M,0,none⟩),.int .i64 (1 + ↑rn),u5,u6,u7,.int .i64 ↑n,u9,u10,u11,.int .i64 ↑n6,uv 13,u14,.slice (some ⟨w.heap.size+1,0,none⟩) 4 4,.pointer (some ⟨b,0,none⟩),.int .i64 ↑rn,.int .i64 (1 + ↑rn),.slice (some ⟨w.heap.size+1,0,none⟩) (1+rn) 4,.agg #[.slice (some ⟨w.heap.size+1,0,none⟩) (1+rn) 4,.slice none 0 0,.slice none 0 0,.slice none 0 0,.slice none 0 0,.slice none 0 0],.pointer (some ⟨M,0,none⟩),.slice (some ⟨w.heap.size+1,0,none⟩) (1+rn) 4,.int .i64 (1 + ↑rn),u24,u25,u26,u27,u28,u29,u30,u31,u32,u33,u34,u35,u36,u37,u38,u39,u40,u41,u42,u43,u44,u45,u46,u47,u48,u49,u50,u51,u52,u53,u54,u55,u56,u57,u58,u59,u60,u61,u62,u63,u64,u65,uu 66,uu 67,uu 68,uu 69,uu 70,uu 71,uu 72,uu 73,uu 74,uu 75,.pointer (some ⟨b,0,none⟩),.int .i64 ↑i3,.int .i64 ↑n,.bool false,u80,u81,u82,u83,u84,u85,u86,u87,u88,u89,u90,u91,.pointer (some ⟨b,0,none⟩),.int .i64 ↑i5,u94,u95,u96,u97,u98,u99,u100,u101,u102,u103,u104,u105,u106,u107,u108,u109,u110,u111,u112,u113,u114,u115,u116,u117,u118,u119,u120,u121,u122,u123,u124,u125,u126,u127,u128,u129,u130,u131,u132,u133,u134,u135,u136,u137,u138,u139,u140,u141,u142,u143,.pointer (some ⟨b,0,none⟩),.int .i64 ↑i6,.int .i64 ↑n6,.bool true,.bool true,.pointer (some ⟨M,1,none⟩),.slice (some ⟨gb,go,none⟩) k vc,.int .i64 ↑k,.bool true,.bool true,u154,u155,uv 156,uv 157,uv 158,uv 159,uv 160,uv 161,uv 162,uv 163,uv 164,u165,u166,u167,u168,u169,u170,u171,u172,u173,u174,u175,u176,u177,u178,u179,u180,u181,u182,u183,undef],[]⟩) (fun i=>[156,157,158,159,160,161,162,163,164,13].getD i 0) (fun i v w8=>match i with|0=>v=.pointer (some ⟨M,1,none⟩)|1=>v=.slice (some ⟨gb,go,none⟩) k vc|2=>v=.pointer (some ⟨b,0,none⟩)|3=>v=.pointer (some ⟨M,1,none⟩)|4=>v=.slice (some ⟨gb,go,none⟩) k vc|5=>v=.int .i64 (k:Int)|6=>∃ r:Int,v=.int .i64 r∧0≤r∧r<(k:Int)|7=>∃ r:Nat,r<k∧v=.pointer (some ⟨gb,go+r*3,none⟩)|8=>∃ r:Nat,r<k∧v=.agg #[.int .i64 (g r 0),.int .i64 (g r 1),.int .i64 (g r 2)]|9=>∃ N:Nat,v=.pointer (some ⟨N,0,none⟩)∧wr.heap.size≤N∧World.rowIs w8 N 68 3 (fun _=>.int .i64 0)|_=>True) (fun _=>True) (fun _=>False) wr 10 99 b a len cap (1800+100*mf) (fun k=>match k with|156=>u156|157=>u157|158=>u158|159=>u159|160=>u160|161=>u161|162=>u162|163=>u163|164=>u164|13=>u13|_=>undef) (by rfl) (by kernel_rfl) (by rfl) ⟨by kernel_rfl,by kernel_rfl,by kernel_rfl,by decide⟩ (by kernel_rfl) (Chg.refl _ _) HS4.out.bs.src trivial ?hput ?hinj ?stable ?stable0 ?step ?last
             case hput =>
              intro i hi uv v
              match i,hi with
              | 0,_=>rfl
              | 1,_=>rfl
              | 2,_=>rfl
              | 3,_=>rfl
              | 4,_=>rfl
              | 5,_=>rfl
              | 6,_=>rfl
              | 7,_=>rfl
              | 8,_=>rfl
              | 9,_=>rfl
              | i+10,hi=>exact absurd hi (by omega)
             case hinj =>
              intro i j hi hj h
              exact slots_inj [156,157,158,159,160,161,162,163,164,13] (by decide) hi hj h
             case stable =>
              intro i v w8 w9 hb h
              match i,hb,h with
              | 0,hb,h=>exact h
              | 1,hb,h=>exact h
              | 2,hb,h=>exact h
              | 3,hb,h=>exact h
              | 4,hb,h=>exact h
              | 5,hb,h=>exact h
              | 6,hb,h=>exact h
              | 7,hb,h=>exact h
              | 8,hb,h=>exact h
              | 9,hb,h=>(obtain ⟨N,e9,hN,hrw⟩:=h;exact ⟨N,e9,hN,row_chg hrw hb (fun hx=>by rcases hx with hx|hx;have:=HZw;omega;exact hx.2.elim)⟩)
              | _+10,hb,h=>trivial
             case stable0 =>
              intro w8 w9 hb h
              exact trivial
             case step =>
              intro i hi uv w8 k8 S8 Sr hk8 hq hdep
              match i,hi,hq,hdep with
              | 0,_,hq,hdep =>
               clear hdep
               refine ⟨_,rfl,fun K' hK=>?_⟩
               go_simp
               exact hK.out _ _ (Chg.refl _ _) (Sr.mono (by omega)) (rfl)
              | 1,_,hq,hdep =>
               have h0:(uv 156)=.pointer (some ⟨M,1,none⟩):=hdep 0 (by kernel_rfl)
               clear hdep
               refine ⟨_,rfl,fun K' hK=>?_⟩
               have c1:=S8.cell (fun hx=>(by rcases hx with hx|hx;omega;exact hx.elim)) q1
               simp only [h0] at hK ⊢
               go_simp
               exact hK.out _ _ (Chg.refl _ _) (Sr.mono (by omega)) (rfl)
              | 2,_,hq,hdep =>
               clear hdep
               refine ⟨_,rfl,fun K' hK=>?_⟩
               go_simp
               exact hK.out _ _ (Chg.refl _ _) (Sr.mono (by omega)) (rfl)
              | 3,_,hq,hdep =>
               clear hdep
               refine ⟨_,rfl,fun K' hK=>?_⟩
               go_simp
               exact hK.out _ _ (Chg.refl _ _) (Sr.mono (by omega)) (rfl)
              | 4,_,hq,hdep =>
               have h3:(uv 159)=.pointer (some ⟨M,1,none⟩):=hdep 3 (by kernel_rfl)
               clear hdep
               refine ⟨_,rfl,fun K' hK=>?_⟩
               have c1:=S8.cell (fun hx=>(by rcases hx with hx|hx;omega;exact hx.elim)) q1
               simp only [h3] at hK ⊢
               go_simp
               exact hK.out _ _ (Chg.refl _ _) (Sr.mono (by omega)) (rfl)
              | 5,_,hq,hdep =>
               have h4:(uv 160)=.slice (some ⟨gb,go,none⟩) k vc:=hdep 4 (by kernel_rfl)
               clear hdep
               refine ⟨_,rfl,fun K' hK=>?_⟩
               simp only [h4] at hK ⊢
               go_simp
               exact hK.out _ _ (Chg.refl _ _) (Sr.mono (by omega)) (rfl)
              | 6,_,hq,hdep =>
               have h2:(uv 158)=.pointer (some ⟨b,0,none⟩):=hdep 2 (by kernel_rfl)
               have h5:(uv 161)=.int .i64 (k:Int):=hdep 5 (by kernel_rfl)
               clear hdep
               refine ⟨_,rfl,fun K' hK=>?_⟩
               simp only [h2,h5] at hK ⊢
               go_simp
               refine (next_src b a len cap k8 ((k:Int)) _ Sr (by omega) (by omega) (by omega)).mono ?_
               rintro e9 w9 ⟨r9,rfl,h90,h91,hs9,hg9⟩
               exact hK.out _ _ (Chg.of_grown hg9 (fun k e=>by first|exact .inl (by injection e with e;exact e.symm)|(injection e with e;exact e.symm))) hs9 ⟨r9,rfl,h90,h91⟩
              | 7,_,hq,hdep =>
               have h1:(uv 157)=.slice (some ⟨gb,go,none⟩) k vc:=hdep 1 (by kernel_rfl)
               have h6:∃ r:Int,(uv 162)=.int .i64 r∧0≤r∧r<(k:Int):=hdep 6 (by kernel_rfl)
               clear hdep
               refine ⟨_,rfl,fun K' hK=>?_⟩
               obtain ⟨r9,e9,h90,h91⟩:=h6
               obtain ⟨rr,rfl⟩:=Int.eq_ofNat_of_zero_le h90
               have hrk:rr<k:=by omega
               simp only [h1,e9] at hK ⊢
               go_simp
               exact hK.out _ _ (Chg.refl _ _) (Sr.mono (by omega)) (⟨rr,hrk,rfl⟩)
              | 8,_,hq,hdep =>
               have h7:∃ r:Nat,r<k∧(uv 163)=.pointer (some ⟨gb,go+r*3,none⟩):=hdep 7 (by kernel_rfl)
               clear hdep
               refine ⟨_,rfl,fun K' hK=>?_⟩
               obtain ⟨rr,hrk,e9⟩:=h7
               obtain ⟨gb',go',eg,c0,c1,c2⟩:=(row_of (by omega) (own_chg HOr.out S8 (fun g1 hg1 _ hx=>by rcases hx with hx|hx;omega;exact hx.elim))).1.at3 hrk
               have eg1:gb=gb' := by injection eg with eg;injection eg
               have eg2:go=go' := by injection eg with eg;injection eg
               subst eg1
               subst eg2
               clear eg
               simp only [e9] at hK ⊢
               go_simp
               exact hK.out _ _ (Chg.refl _ _) (Sr.mono (by omega)) (⟨rr,hrk,rfl⟩)
              | 9,_,hq,hdep =>
               clear hdep
               refine ⟨_,rfl,fun K' hK=>?_⟩
               go_simp
               exact hK.out _ _ (Chg.of_below Bl) ((Sr.below Bl).mono (by omega)) ⟨w8.heap.size,rfl,S8.size,World.rowIs_alloc w8 #[.int .i64 0,.int .i64 0,.int .i64 0] _ _ (fun i hi=>by
                have h3:i<3:=hi
                rcases (show i=0∨i=1∨i=2 by omega) with rfl|rfl|rfl <;> rfl)⟩
              | i+10,hi,_,_=>exact absurd hi (by omega)
             case last =>
              intro uv w8 S8 Sr hall
              have h8:∃ r:Nat,r<k∧(uv 164)=.agg #[.int .i64 (g r 0),.int .i64 (g r 1),.int .i64 (g r 2)]:=hall 8 (by decide)
              have h9:∃ N:Nat,(uv 13)=.pointer (some ⟨N,0,none⟩)∧wr.heap.size≤N∧World.rowIs w8 N 68 3 (fun _=>.int .i64 0):=hall 9 (by decide)
              clear hall
              refine ⟨_,rfl,fun K' hK=>?_⟩
              obtain ⟨rr,hrk,e8⟩:=h8
              obtain ⟨N,e9,hN,hrw⟩:=h9
              simp only [e8,e9] at hK ⊢
              have n0:w8.cell? ⟨N,0,none⟩=some (.int .i64 0):=hrw.cell (i:=0) (by omega)
              have n1:w8.cell? ⟨N,1,none⟩=some (.int .i64 0):=hrw.cell (i:=1) (by omega)
              have n2:w8.cell? ⟨N,2,none⟩=some (.int .i64 0):=hrw.cell (i:=2) (by omega)
              have z0:=hrw.frozen 0
              have z1:=hrw.frozen 1
              have z2:=hrw.frozen 2
              have HRw:Hid (World.rowIs (((w8.setCell ⟨N,0,none⟩ (.int .i64 (g rr 0))).setCell ⟨N,1,none⟩ (.int .i64 (g rr 1))).setCell ⟨N,2,none⟩ (.int .i64 (g rr 2))) N 68 3 (fun i=>.int .i64 (g rr i))):=hid ((((hrw.set 0 _).set 1 _).set 2 _).congr (fun i hi=>by
               rcases (show i=0∨i=1∨i=2 by omega) with rfl|rfl|rfl <;> rfl))
              have hcN:Chg (fun j=>j=N) w8 (((w8.setCell ⟨N,0,none⟩ (.int .i64 (g rr 0))).setCell ⟨N,1,none⟩ (.int .i64 (g rr 1))).setCell ⟨N,2,none⟩ (.int .i64 (g rr 2))):=(((Chg.refl (fun j=>j=N) w8).set (.inl rfl) _).set (.inl rfl) _).set (.inl rfl) _
              have HcA:Hid (Chg (fun j=>j=b∨j=N) wr (((w8.setCell ⟨N,0,none⟩ (.int .i64 (g rr 0))).setCell ⟨N,1,none⟩ (.int .i64 (g rr 1))).setCell ⟨N,2,none⟩ (.int .i64 (g rr 2)))):=hid (Chg.trans (S8.mono fun j hj=>by rcases hj with hj|hj;exact .inl hj;exact hj.elim) (hcN.mono fun j hj=>.inr hj))
              have HsA:Hid (Src (((w8.setCell ⟨N,0,none⟩ (.int .i64 (g rr 0))).setCell ⟨N,1,none⟩ (.int .i64 (g rr 1))).setCell ⟨N,2,none⟩ (.int .i64 (g rr 2))) b a len cap (1800+100*mf+10)):=hid (src_chg Sr hcN (fun j hj hx=>by have h3:j=N:=hx;have:=HZw;omega))
              clear hcN
              go_simp
              refine hK.out _ _ ?_
              clear hK K' n0 n1 n2 z0 z1 z2 hrw e8 e9 S8 Sr
              (try simp only [Exit.then])
              obtain ⟨wA,hwA⟩:∃ wA,((w8.setCell ⟨N,0,none⟩ (.int .i64 (g rr 0))).setCell ⟨N,1,none⟩ (.int .i64 (g rr 1))).setCell ⟨N,2,none⟩ (.int .i64 (g rr 2))=wA:=⟨_,rfl⟩
              rw [hwA] at HRw HcA HsA ⊢
              clear hwA
              have HA:=hid (HS4.out.step hbw HcA.out wr.heap.size (fun j hj=>by have h3:j=N:=hj;omega) HS4.out.chg.size (fun j hj=>(World.ownsRow.lt HS4.out.own j hj).2) HsA.out)
              have hNw:N<wA.heap.size:=HRw.out.lt
              clear HcA HsA
              go_wp2_with fail
              refine (next_src b a len cap (1800+100*mf+10) 16 _ HA.out.bs.src (by omega) (by omega) (by omega)).mono ?_
              rintro e' wB ⟨lo,rfl,hl0,hl1,hs4,hg4⟩
              have HBB:=hid (HA.out.grow hbw hg4 hs4)
              have HRl:=hid (row_chg HRw.out (Chg.of_grown (X:=fun k=>k=b) hg4 (fun k e=>by injection e with e;exact e.symm)) (fun hx=>by have h3:N=b:=hx;omega))
              have hwAB:=hg4.size
              clear hs4 hg4 HA HRw q0 q1 q2 q3 q4 q5
              go_upto_region 31 with fail
              have HYf:Hid (∀ j,(Value.slice vf mf cf).ownBlock=some j→wN.heap.size≤j∧j<wr.heap.size):=hid (World.ownsRow.lt HS4.out.own)
              have hszN:=HBB.out.chg.size
              refine region_src (fun uw=>⟨#[.pointer (some ⟨b,0,none⟩),undef,.pointer (some ⟨w.heap.size,0,none⟩),.pointer (some ⟨M,0,none⟩),.int .i64 (1 + ↑rn),u5,u6,u7,.int .i64 ↑n,u9,u10,u11,.int .i64 ↑n6,.pointer (some ⟨N,0,none⟩),.int .i64 lo,.slice (some ⟨w.heap.size+1,0,none⟩) 4 4,.pointer (some ⟨b,0,none⟩),.int .i64 ↑rn,.int .i64 (1 + ↑rn),.slice (some ⟨w.heap.size+1,0,none⟩) (1+rn) 4,.agg #[.slice (some ⟨w.heap.size+1,0,none⟩) (1+rn) 4,.slice none 0 0,.slice none 0 0,.slice none 0 0,.slice none 0 0,.slice none 0 0],.pointer (some ⟨M,0,none⟩),.slice (some ⟨w.heap.size+1,0,none⟩) (1+rn) 4,.int .i64 (1 + ↑rn),u24,u25,u26,u27,u28,u29,u30,u31,u32,u33,u34,u35,u36,u37,u38,u39,u40,u41,u42,u43,u44,u45,u46,u47,u48,u49,u50,u51,u52,u53,u54,u55,u56,u57,u58,u59,u60,u61,u62,u63,u64,u65,uu 66,uu 67,uu 68,uu 69,uu 70,uu 71,uu 72,uu 73,uu 74,uu 75,.pointer (some ⟨b,0,none⟩),.int .i64 ↑i3,.int .i64 ↑n,.bool false,u80,u81,u82,u83,u84,u85,u86,u87,u88,u89,u90,u91,.pointer (some ⟨b,0,none⟩),.int .i64 ↑i5,u94,u95,u96,u97,u98,u99,u100,u101,u102,u103,u104,u105,u106,u107,u108,u109,u110,u111,u112,u113,u114,u115,u116,u117,u118,u119,u120,u121,u122,u123,u124,u125,u126,u127,u128,u129,u130,u131,u132,u133,u134,u135,u136,u137,u138,u139,u140,u141,u142,u143,.pointer (some ⟨b,0,none⟩),.int .i64 ↑i6,.int .i64 ↑n6,.bool true,.bool true,.pointer (some ⟨M,1,none⟩),.slice (some ⟨gb,go,none⟩) k vc,.int .i64 ↑k,.bool true,.bool true,u154,u155,uv 156,uv 157,uv 158,uv 159,uv 160,uv 161,uv 162,uv 163,.agg #[.int .i64 (g rr 0),.int .i64 (g rr 1),.int .i64 (g rr 2)],.pointer (some ⟨b,0,none⟩),.int .i64 lo,uw 167,uw 168,uw 169,uw 170,uw 171,uw 172,uw 173,uw 174,uw 175,uw 176,uw 177,uw 178,uw 179,uw 180,uw 181,uw 182,uw 183,undef],[]⟩) (fun i=>[167,168,169,170,171,172,173,174,175,176,177,178,179,180,181,182,183].getD i 0) (fun i v w8=>match i with|0=>v=.pointer (some ⟨M,5,none⟩)|1=>v=.slice vf mf cf|2=>v=.pointer (some ⟨N,0,none⟩)|3=>v=.int .i64 (g rr 0)|4=>v=.pointer (some ⟨N,1,none⟩)|5=>v=.int .i64 (g rr 1)|6=>v=.int .i64 lo|7=>v=.int .i64 lo|8=>v=.pointer (some ⟨b,0,none⟩)|9=>v=.int .i64 lo|10=>v=.int .i64 (16 - lo)|11=>∃ r:Int,v=.int .i64 r∧0≤r∧r<(16 - lo)|12=>∃ hv:Int,v=.int .i64 hv∧lo≤hv∧hv<16|13=>∃ hv:Int,v=.agg #[.int .i64 (g rr 0),.int .i64 (g rr 1),.int .i64 lo,.int .i64 hv]∧lo≤hv∧hv<16|14=>∃ (hv:Int) (N3:Nat),v=.slice (some ⟨N3,0,none⟩) 1 1∧lo≤hv∧hv<16∧wB.heap.size≤N3∧World.cell? w8 ⟨N3,0,none⟩=some (.int .i64 (g rr 0))∧World.cell? w8 ⟨N3,1,none⟩=some (.int .i64 (g rr 1))∧World.cell? w8 ⟨N3,2,none⟩=some (.int .i64 lo)∧World.cell? w8 ⟨N3,3,none⟩=some (.int .i64 hv)|15=>∃ (hv:Int) (va5:Option Addr) (vc5:Nat),v=.slice va5 (mf+1) vc5∧lo≤hv∧hv<16∧World.ownsRow w8 wN.heap.size 75 4 (.slice va5 (mf+1) vc5) (mf+1) (cellsR 4 f mf ++ [.int .i64 (g rr 0),.int .i64 (g rr 1),.int .i64 lo,.int .i64 hv])|16=>v=.pointer (some ⟨M,5,none⟩)|_=>True) (fun w8=>World.ownsRow w8 wN.heap.size 75 4 (.slice vf mf cf) mf (cellsR 4 f mf)) (fun j=>(Value.slice vf mf cf).ownBlock=some j) wB 17 15 b a len cap (1800+100*mf+10+1) (fun k=>match k with|167=>u167|168=>u168|169=>u169|170=>u170|171=>u171|172=>u172|173=>u173|174=>u174|175=>u175|176=>u176|177=>u177|178=>u178|179=>u179|180=>u180|181=>u181|182=>u182|183=>u183|_=>undef) (by rfl) (by kernel_rfl) (by rfl) ⟨by kernel_rfl,by kernel_rfl,by kernel_rfl,by decide⟩ (by kernel_rfl) (Chg.refl _ _) HBB.out.bs.src HBB.out.own ?hput ?hinj ?stable ?stable0 ?step ?last
              case hput =>
               intro i hi uw v
               match i,hi with
               | 0,_=>rfl
               | 1,_=>rfl
               | 2,_=>rfl
               | 3,_=>rfl
               | 4,_=>rfl
               | 5,_=>rfl
               | 6,_=>rfl
               | 7,_=>rfl
               | 8,_=>rfl
               | 9,_=>rfl
               | 10,_=>rfl
               | 11,_=>rfl
               | 12,_=>rfl
               | 13,_=>rfl
               | 14,_=>rfl
               | 15,_=>rfl
               | 16,_=>rfl
               | i+17,hi=>exact absurd hi (by omega)
              case hinj =>
               intro i j hi hj h
               exact slots_inj [167,168,169,170,171,172,173,174,175,176,177,178,179,180,181,182,183] (by decide) hi hj h
              case stable =>
               intro i v w8 w9 hb h
               match i,hb,h with
               | 0,hb,h=>exact h
               | 1,hb,h=>exact h
               | 2,hb,h=>exact h
               | 3,hb,h=>exact h
               | 4,hb,h=>exact h
               | 5,hb,h=>exact h
               | 6,hb,h=>exact h
               | 7,hb,h=>exact h
               | 8,hb,h=>exact h
               | 9,hb,h=>exact h
               | 10,hb,h=>exact h
               | 11,hb,h=>exact h
               | 12,hb,h=>exact h
               | 13,hb,h=>exact h
               | 14,hb,h=>(obtain ⟨r9,N3,e9,h90,h91,hN3,c0,c1,c2,c3⟩:=h;have hn:¬ (N3=b∨(14≠15∧(Value.slice vf mf cf).ownBlock=some N3)):=(fun hx=>by rcases hx with hx|hx;omega;have:=HYf.out N3 hx.2;omega);exact ⟨r9,N3,e9,h90,h91,hN3,hb.cell hn c0,hb.cell hn c1,hb.cell hn c2,hb.cell hn c3⟩)
               | 15,hb,h=>(obtain ⟨r9,va5,vc5,e9,h90,h91,ho⟩:=h;exact ⟨r9,va5,vc5,e9,h90,h91,own_chg ho hb (fun g1 hg1 _ hx=>by rcases hx with hx|hx;omega;exact hx.1 rfl)⟩)
               | 16,hb,h=>exact h
               | _+17,hb,h=>trivial
              case stable0 =>
               intro w8 w9 hb h
               exact own_chg h hb (fun g1 hg1 _ hx=>by have h3:g1=b:=hx;omega)
              case step =>
               intro i hi uw w8 k8 S8 Sr hk8 hq hdep
               match i,hi,hq,hdep with
               | 0,_,hq,hdep =>
                clear hdep
                refine ⟨_,rfl,fun K' hK=>?_⟩
                go_simp
                exact hK.out _ _ (Chg.refl _ _) (Sr.mono (by omega)) (rfl)
               | 1,_,hq,hdep =>
                have h0:(uw 167)=.pointer (some ⟨M,5,none⟩):=hdep 0 (by kernel_rfl)
                clear hdep
                refine ⟨_,rfl,fun K' hK=>?_⟩
                have c1:World.cell? w8 ⟨M,5,none⟩=some (.slice vf mf cf):=(HBB.out.boxed hbw S8).cell (i:=5) (by omega)
                simp only [h0] at hK ⊢
                go_simp
                exact hK.out _ _ (Chg.refl _ _) (Sr.mono (by omega)) (rfl)
               | 2,_,hq,hdep =>
                clear hdep
                refine ⟨_,rfl,fun K' hK=>?_⟩
                go_simp
                exact hK.out _ _ (Chg.refl _ _) (Sr.mono (by omega)) (rfl)
               | 3,_,hq,hdep =>
                have h2:(uw 169)=.pointer (some ⟨N,0,none⟩):=hdep 2 (by kernel_rfl)
                clear hdep
                refine ⟨_,rfl,fun K' hK=>?_⟩
                have c1:World.cell? w8 ⟨N,0,none⟩=some (.int .i64 (g rr 0)):=(row_chg HRl.out S8 (fun hx=>(by rcases hx with hx|hx;omega;have:=HYf.out N hx;omega))).cell (i:=0) (by omega)
                simp only [h2] at hK ⊢
                go_simp
                exact hK.out _ _ (Chg.refl _ _) (Sr.mono (by omega)) (rfl)
               | 4,_,hq,hdep =>
                clear hdep
                refine ⟨_,rfl,fun K' hK=>?_⟩
                go_simp
                exact hK.out _ _ (Chg.refl _ _) (Sr.mono (by omega)) (rfl)
               | 5,_,hq,hdep =>
                have h4:(uw 171)=.pointer (some ⟨N,1,none⟩):=hdep 4 (by kernel_rfl)
                clear hdep
                refine ⟨_,rfl,fun K' hK=>?_⟩
                have c1:World.cell? w8 ⟨N,1,none⟩=some (.int .i64 (g rr 1)):=(row_chg HRl.out S8 (fun hx=>(by rcases hx with hx|hx;omega;have:=HYf.out N hx;omega))).cell (i:=1) (by omega)
                simp only [h4] at hK ⊢
                go_simp
                exact hK.out _ _ (Chg.refl _ _) (Sr.mono (by omega)) (rfl)
               | 6,_,hq,hdep =>
                clear hdep
                refine ⟨_,rfl,fun K' hK=>?_⟩
                go_simp
                exact hK.out _ _ (Chg.refl _ _) (Sr.mono (by omega)) (rfl)
               | 7,_,hq,hdep =>
                clear hdep
                refine ⟨_,rfl,fun K' hK=>?_⟩
                go_simp
                exact hK.out _ _ (Chg.refl _ _) (Sr.mono (by omega)) (rfl)
               | 8,_,hq,hdep =>
                clear hdep
                refine ⟨_,rfl,fun K' hK=>?_⟩
                go_simp
                exact hK.out _ _ (Chg.refl _ _) (Sr.mono (by omega)) (rfl)
               | 9,_,hq,hdep =>
                clear hdep
                refine ⟨_,rfl,fun K' hK=>?_⟩
                go_simp
                exact hK.out _ _ (Chg.refl _ _) (Sr.mono (by omega)) (rfl)
               | 10,_,hq,hdep =>
                have h9:(uw 176)=.int .i64 lo:=hdep 9 (by kernel_rfl)
                clear hdep
                refine ⟨_,rfl,fun K' hK=>?_⟩
                have hw9:IntKind.i64.wrap (16 - lo)=16 - lo:=by rw [IntKind.wrap_i64];omega
                simp only [h9] at hK ⊢
                go_simp
                (try rw [hw9])
                exact hK.out _ _ (Chg.refl _ _) (Sr.mono (by omega)) (rfl)
               | 11,_,hq,hdep =>
                have h8:(uw 175)=.pointer (some ⟨b,0,none⟩):=hdep 8 (by kernel_rfl)
                have h10:(uw 177)=.int .i64 (16 - lo):=hdep 10 (by kernel_rfl)
                clear hdep
                refine ⟨_,rfl,fun K' hK=>?_⟩
                simp only [h8,h10] at hK ⊢
                go_simp
                refine (next_src b a len cap k8 ((16 - lo)) _ Sr (by omega) (by omega) (by omega)).mono ?_
                rintro e9 w9 ⟨r9,rfl,h90,h91,hs9,hg9⟩
                exact hK.out _ _ (Chg.of_grown hg9 (fun k e=>by first|exact .inl (by injection e with e;exact e.symm)|(injection e with e;exact e.symm))) hs9 ⟨r9,rfl,h90,h91⟩
               | 12,_,hq,hdep =>
                have h7:(uw 174)=.int .i64 lo:=hdep 7 (by kernel_rfl)
                have h11:∃ r:Int,(uw 178)=.int .i64 r∧0≤r∧r<(16 - lo):=hdep 11 (by kernel_rfl)
                clear hdep
                refine ⟨_,rfl,fun K' hK=>?_⟩
                obtain ⟨r9,e9,h90,h91⟩:=h11
                have hw9:IntKind.i64.wrap (lo+r9)=lo+r9:=by rw [IntKind.wrap_i64];omega
                simp only [h7,e9] at hK ⊢
                go_simp
                (try rw [hw9])
                exact hK.out _ _ (Chg.refl _ _) (Sr.mono (by omega)) (⟨lo+r9,rfl,by omega,by omega⟩)
               | 13,_,hq,hdep =>
                have h3:(uw 170)=.int .i64 (g rr 0):=hdep 3 (by kernel_rfl)
                have h5:(uw 172)=.int .i64 (g rr 1):=hdep 5 (by kernel_rfl)
                have h6:(uw 173)=.int .i64 lo:=hdep 6 (by kernel_rfl)
                have h12:∃ hv:Int,(uw 179)=.int .i64 hv∧lo≤hv∧hv<16:=hdep 12 (by kernel_rfl)
                clear hdep
                refine ⟨_,rfl,fun K' hK=>?_⟩
                obtain ⟨r9,e9,h90,h91⟩:=h12
                simp only [h3,h5,h6,e9] at hK ⊢
                go_simp
                exact hK.out _ _ (Chg.refl _ _) (Sr.mono (by omega)) (⟨_,rfl,h90,h91⟩)
               | 14,_,hq,hdep =>
                have h13:∃ hv:Int,(uw 180)=.agg #[.int .i64 (g rr 0),.int .i64 (g rr 1),.int .i64 lo,.int .i64 hv]∧lo≤hv∧hv<16:=hdep 13 (by kernel_rfl)
                clear hdep
                refine ⟨_,rfl,fun K' hK=>?_⟩
                obtain ⟨r9,e9,h90,h91⟩:=h13
                simp only [e9] at hK ⊢
                go_simp
                exact hK.out _ _ (Chg.of_below Bl) ((Sr.below Bl).mono (by omega)) ⟨r9,w8.heap.size,rfl,h90,h91,S8.size,by simp [go_sem],by simp [go_sem],by simp [go_sem],by simp [go_sem]⟩
               | 15,_,hq,hdep =>
                have h1:(uw 168)=.slice vf mf cf:=hdep 1 (by kernel_rfl)
                have h14:∃ (hv:Int) (N3:Nat),(uw 181)=.slice (some ⟨N3,0,none⟩) 1 1∧lo≤hv∧hv<16∧wB.heap.size≤N3∧World.cell? w8 ⟨N3,0,none⟩=some (.int .i64 (g rr 0))∧World.cell? w8 ⟨N3,1,none⟩=some (.int .i64 (g rr 1))∧World.cell? w8 ⟨N3,2,none⟩=some (.int .i64 lo)∧World.cell? w8 ⟨N3,3,none⟩=some (.int .i64 hv):=hdep 14 (by kernel_rfl)
                clear hdep
                refine ⟨_,rfl,fun K' hK=>?_⟩
                obtain ⟨r9,N3,e9,h90,h91,hN3,c0,c1,c2,c3⟩:=h14
                obtain ⟨hown,hb0⟩:=hq rfl
                refine step_append_at w8 rfl _ _ 27 rfl (some 182) rfl wN.heap.size 75 l0 _ 4 32 Tryz.underlying27 HF.out HF0.out HF1.out HF2.out rfl (by decide) _ _ _ h1 hown ⟨N3,0,none⟩ 1 1 [.int .i64 (g rr 0),.int .i64 (g rr 1),.int .i64 lo,.int .i64 r9] e9 rfl (cells4 c0 c1 c2 c3) (fun u hu=>by simp at hu;rcases hu with rfl|rfl|rfl|rfl <;> rfl) (by unfold maxLen;omega) (by omega) (by have:=S8.size;omega) ?_
                intro v5 w9 hown5 hg5 hat5
                obtain ⟨va5,vc5,e5⟩:=own_shape hown5
                subst e5
                have hc9:=Chg.of_grown (X:=fun j=>j=b∨(15=15∧(Value.slice vf mf cf).ownBlock=some j)) hg5 (fun j e=>.inr ⟨rfl,e⟩)
                exact hK.out _ _ hc9 ((src_chg Sr (Chg.of_grown (X:=fun j=>(Value.slice vf mf cf).ownBlock=some j) hg5 (fun j e=>e)) (fun j hj hx=>by have:=HYf.out j hx;omega)).mono (by omega)) ⟨r9,va5,vc5,rfl,h90,h91,hown5⟩
               | 16,_,hq,hdep =>
                clear hdep
                refine ⟨_,rfl,fun K' hK=>?_⟩
                go_simp
                exact hK.out _ _ (Chg.refl _ _) (Sr.mono (by omega)) (rfl)
               | i+17,hi,_,_=>exact absurd hi (by omega)
              case last =>
               intro uw w8 S8 Sr hall
               have h15:∃ (hv:Int) (va5:Option Addr) (vc5:Nat),(uw 182)=.slice va5 (mf+1) vc5∧lo≤hv∧hv<16∧World.ownsRow w8 wN.heap.size 75 4 (.slice va5 (mf+1) vc5) (mf+1) (cellsR 4 f mf ++ [.int .i64 (g rr 0),.int .i64 (g rr 1),.int .i64 lo,.int .i64 hv]):=hall 15 (by decide)
               have h16:(uw 183)=.pointer (some ⟨M,5,none⟩):=hall 16 (by decide)
               clear hall
               refine ⟨_,rfl,fun K' hK=>?_⟩
               obtain ⟨hv,va5,vc5,e9,h90,h91,ho⟩:=h15
               simp only [h16,e9] at hK ⊢
               have hbx:=HBB.out.boxed hbw S8
               have c1:World.cell? w8 ⟨M,5,none⟩=some (.slice vf mf cf):=hbx.cell (i:=5) (by omega)
               have z1:=hbx.frozen 5
               have HS8:=hid (HBB.out.append (F' := bx (.slice (some ⟨w.heap.size+1,0,none⟩) (1+rn) 4) (.slice (some ⟨gb,go,none⟩) k vc) v2 v3 (.slice vx m cx) (.slice va5 (mf+1) vc5)) hbw S8 Sr (imp5 (g rr 0) (g rr 1) lo hv 0) rfl ho 5 (fun j hj=>by rcases (show j=0∨j=1∨j=2∨j=3∨j=4∨j=5 by omega) with rfl|rfl|rfl|rfl|rfl|rfl <;> rfl))
               have HR9:=hid (And.intro h90 h91)
               clear ho h90 h91 h16 hbx
               go_simp
               refine hK.out _ _ ?_
               clear hK K' c1 z1 e9
               (try simp only [Exit.then])
               go_wp2
               go_roundw
               case rel=>exact ⟨n6 - 1,mf+1,va5,vc5,updR f mf (imp5 (g rr 0) (g rr 1) lo hv 0),by congr 1;omega,by omega,filters_step HX4.out (by omega) (link_hit g hrk).1 (ports_of (by show 0≤lo;omega) (by show lo≤hv∧hv≤15;have:=HR9.out;omega)),HS8.out.mono (by omega)⟩
               case measure=>simp [intOf];omega
           · have dk:decide ((0:Int)<(k:Int))=false:=decide_eq_false (by omega)
             have dk':decide (0<k)=false:=decide_eq_false hk0
             go_wp2_with fail
             go_meet
             exact ⟨mf,vf,cf,f,HX4.out,HS4.out.mono (by omega)⟩
         · have dn:decide ((0:Int)<(n6:Int))=false:=decide_eq_false (by omega)
           have dn':decide (0<n6)=false:=decide_eq_false hn0
           go_wp2_with fail
           go_meet
           exact ⟨mf,vf,cf,f,HX4.out,HS4.out.mono (by omega)⟩
       case rest =>
        clear HB6
        obtain ⟨mf,vf,cf,f,hxb,hsx⟩:=hcut
        have HX4:=hid hxb
        have HS4:=hid hsx
        clear hxb hsx
        have HOl:=hid (HS4.out.keep hbw HO56.out)
        have HOo:=hid (HS4.out.keep hbw HO26.out)
        have HOe:=hid (HS4.out.keep hbw HO36.out)
        have HOi:=hid (HS4.out.keep hbw HO46.out)
        have HOf:=hid (own_mono (B' := M+1) HS4.out.own hML4)
        clear HO56 HO26 HO36 HO46
        obtain ⟨a2,c2,e2⟩:=own_shape HOo.out
        obtain ⟨a3,c3,e3⟩:=own_shape HOe.out
        subst e2
        subst e3
        obtain ⟨q0,q1,q2,q3,q4,q5⟩:=HS4.out.bs.cells
        have d0:World.cell? _ ⟨w.heap.size,0,none⟩=some nilV:=HS4.out.bs.res.cell (i:=0) (by omega)
        have z0:=HS4.out.bs.res.frozen 0
        have d1:World.cell? _ ⟨w.heap.size,1,none⟩=some nilV:=HS4.out.bs.res.cell (i:=1) (by omega)
        have z1:=HS4.out.bs.res.frozen 1
        have d2:World.cell? _ ⟨w.heap.size,2,none⟩=some nilV:=HS4.out.bs.res.cell (i:=2) (by omega)
        have z2:=HS4.out.bs.res.frozen 2
        have d3:World.cell? _ ⟨w.heap.size,3,none⟩=some nilV:=HS4.out.bs.res.cell (i:=3) (by omega)
        have z3:=HS4.out.bs.res.frozen 3
        have d4:World.cell? _ ⟨w.heap.size,4,none⟩=some nilV:=HS4.out.bs.res.cell (i:=4) (by omega)
        have z4:=HS4.out.bs.res.frozen 4
        have d5:World.cell? _ ⟨w.heap.size,5,none⟩=some nilV:=HS4.out.bs.res.cell (i:=5) (by omega)
        have z5:=HS4.out.bs.res.frozen 5
        have hwM:¬ M=w.heap.size:=by omega
        have hwM':¬ w.heap.size=M:=by omega
        go_wp2
        refine bodyPost_ret (v:=.agg #[.slice (some ⟨w.heap.size+1,0,none⟩) (1+rn) 4,.slice va k vc,.slice a2 os.length c2,.slice a3 es.length c3,.slice vx m cx,.slice vf mf cf]) (by simp [results,Tryz.results13,go_sem,d0,d1,d2,d3,d4,d5]) rfl ?_
        obtain ⟨h1,h2,h3,h4,h5⟩:=net_end HS4.out.bs hbw (by omega) HL.out HOl.out HOo.out HR2.out HOe.out HR3.out hel2 HOi.out HX.out HOf.out HX4.out ((((((((Chg.refl (fun j=>j=w.heap.size) _).set (.inl rfl) (.slice (some ⟨w.heap.size+1,0,none⟩) (1+rn) 4)).set (.inl rfl) (.slice va k vc)).set (.inl rfl) (.slice a2 os.length c2)).set (.inl rfl) (.slice a3 es.length c3)).set (.inl rfl) (.slice vx m cx)).set (.inl rfl) (.slice vf mf cf)))
        exact ⟨sel6 (some ⟨w.heap.size+1,0,none⟩) va a2 a3 vx vf,sel6 (1+rn) k os.length es.length m mf,sel6 4 vc c2 c3 cx cf,g,os,es,x,f,rfl,h1,h2,by show 1+rn≤4;omega,h3,h4.mono (by omega),h5⟩
end Go.Proofs.YthompjbplddkgaaGreatDoor.netDraw
