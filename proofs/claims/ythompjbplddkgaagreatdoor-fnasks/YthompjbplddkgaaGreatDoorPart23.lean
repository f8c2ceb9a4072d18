import Derived.Test.YthompjbplddkgaaGreatDoorPart19
import Derived.Maps.AppendAt
import Derived.BigRegion
import Derived.Tactics
import Derived.Tactics2
import Derived.Defers
import Derived.Laws.Pointers
import Derived.Laws.LoneSync
import Derived.RegionTactic
import Derived.RegionCalls
import Derived.ChangeAlike
import Derived.Laws.NewBlocks
set_option linter.unusedVariables false
namespace Go.Proofs.YthompjbplddkgaaGreatDoor.viasSpec
open Go.RowKit Go.Deep base copy rowsOwn routeRow envsSpec
def viasL (r : Nat→Rt) (k : Nat) : List Int := (List.range k).map fun i=>(r i).via
theorem vias_len (r:Nat→Rt) (k:Nat):(viasL r k).length=k:=by simp [viasL]
theorem vias_succ (r:Nat→Rt) (k:Nat):viasL r (k+1)=viasL r k ++ [(r k).via]:=by simp [viasL,List.range_succ]
set_option maxRecDepth 8000 in
set_option maxHeartbeats 1600000 in
theorem vias_spec (a:Option Addr) (len cap:Nat) (r:Nat→Rt) (w:World) (h:RtRow w a len r) (hl:len≤4) :
  Calls Tryz.prog 52 #[.slice a len cap] w fun e w'=>∃ v,e=.returned v∧OwnInts w.heap.size w' v (viasL r len)∧Below w.heap.size w w' := by
 have HR:=hid h
 clear h
 obtain ⟨i0,hi,hzz⟩:=Option.map_eq_some_iff.1 Tryz.info_int
 simp only [Prod.mk.injEq] at hzz
 obtain ⟨hz0,hz1,hz2⟩:=hzz
 have HI:=hid hi
 have HZ0:=hid hz0
 have HZ1:=hid hz1
 have HZ2:=hid hz2
 clear hi hz0 hz1 hz2
 go_enter Tryz.func52,Tryz.ntmps52
 go_wp2
 go_loopw [4,3] (fun i v wr=>∃ k:Nat,k≤len∧i=.int .i64 k∧OwnInts w.heap.size wr v (viasL r k)∧Below w.heap.size w wr) (fun i _ _=>len - (intOf i).toNat)
 case atStart=>exact ⟨0,Nat.zero_le _,rfl,own_new w rfl (Nat.le_refl _),Bl⟩
 case round =>
  rename_i v
  obtain ⟨k,hk,rfl,hox,hbel⟩:=hrel
  have HO:=hid hox
  have HB:=hid hbel
  have hszw:=hbel.size
  have HSu:=hid (vias_succ r k)
  obtain ⟨xa,xc,hv,-⟩:=hox.form
  rw [vias_len] at hv
  subst hv
  clear hox
  by_cases hlt:k<len
  · obtain ⟨b,off,rfl,hcs⟩:=(HR.out).cell k hlt
    have hc0:w.cell? ⟨b,off+k*4,none⟩=some (.int .i64 (r k).via):=hcs 0 (by omega)
    have hc:=keep hbel hc0
    have hki:(k:Int)<(len:Int):=by omega
    obtain ⟨x,hx⟩:∃ x,(r k).via=x:=⟨_,rfl⟩
    rw [hx] at hc HSu
    clear hbel hc0 hcs hx
    go_wp2_with (at_builtin;(refine wpList_append_own _ rfl _ _ 25 rfl w.heap.size 3 i0 (.int .i64 0) 1 8 Tryz.underlying25 HI.out HZ0.out HZ1.out HZ2.out rfl (by decide) _ k _ rfl (by have h9:=World.ownsRow.alloc HO.out (.cells #[.int .i64 x] 3);rw [vias_len] at h9;exact h9) ⟨wr.heap.size,0,none⟩ 1 1 [.int .i64 x] rfl rfl (cell_one_new _ _ _) (fun u hu=>by simp at hu;subst hu;rfl) (by unfold maxLen;omega) (by omega) (by simp;omega) ?_);intro v' w9 hown' hgrow9 hnil9)
    have HO9:Hid (OwnInts w.heap.size w9 v' (viasL r (k+1))):=hid (by
     unfold OwnInts
     rw [HSu.out,List.length_append,List.map_append,vias_len]
     exact hown')
    have hba:Below w.heap.size w (wr.alloc (.cells #[.int .i64 x] 3)):=HB.out.alloc HB.out.size _
    have HB9:Hid (Below w.heap.size w w9):=hid (hba.grown hgrow9 (by simp;omega) (fun j hj=>(World.ownsRow.lt HO.out j hj).1))
    clear hown' hgrow9 hnil9 hba
    go_wp2
    go_roundw
    case rel=>exact ⟨k+1,by omega,by go_num,HO9.out,HB9.out⟩
    case measure=>simp [intOf];omega
  · have e:k=len:=by omega
    subst e
    go_wp2
    go_ret
    exact ⟨_,rfl,HO.out,HB.out⟩
end Go.Proofs.YthompjbplddkgaaGreatDoor.viasSpec
namespace Go.Proofs.YthompjbplddkgaaGreatDoor.hopSem
open Go.RowKit Go.Deep Go base netSem routeRow nbSem candSem
def rowAt (x : R) (js : List Nat) : R := fun i=>x (js[i]?.getD 0)
where
 first_is {g:R} {p q:Int} {n m:Nat} (h:firstAt (hit g p q) n=(m:Int)):hit g p q m=true∧∀ i,i<m→hit g p q i=false:=by
  unfold firstAt at h
  cases e:(List.range n).find? (hit g p q) with
  | none=>rw [e] at h;simp only [] at h;omega
  | some k =>
   rw [e] at h
   simp only [] at h
   have hk:k=m:=by omega
   subst hk
   rw [List.find?_range_eq_some] at e
   exact ⟨e.1,fun i hi=>by simpa using e.2.2 i hi⟩
def impCells (x : R) (js : List Nat) : List Value := js.flatMap fun i=>[.int .i64 (x i 0),.int .i64 (x i 1),.int .i64 (x i 2),.int .i64 (x i 3),.int .i64 (x i 4)]
def OwnImp (B : Nat) (w : World) (v : Value) (x : R) (js : List Nat) : Prop := w.ownsRow B 72 5 v js.length (impCells x js)
theorem imp_at (x:R):∀ (js:List Nat) (i j:Nat),i<js.length→j<5→(impCells x js)[i*5+j]? = some (.int .i64 (x (js[i]?.getD 0) j))
 | [],i,j,hi,_=>absurd hi (Nat.not_lt_zero _)
 | k::js,0,j,_,hj=>by
  match j,hj with
  | 0,_=>rfl
  | 1,_=>rfl
  | 2,_=>rfl
  | 3,_=>rfl
  | 4,_=>rfl
  | j+5,hj=>exact absurd hj (by omega)
 | k::js,i+1,j,hi,hj=>by
  have ih:=imp_at x js i j (by simpa using hi) hj
  have e:(i+1)*5+j=(i*5+j)+5:=by omega
  rw [e]
  simpa [impCells] using ih
theorem OwnImp.row {B:Nat} {w:World} {a:Option Addr} {n c:Nat} {x:R} {js:List Nat} (h:OwnImp B w (.slice a n c) x js):n=js.length∧Row 5 w a n (rowAt x js):=by
 obtain ⟨h1,h2⟩:=h
 rcases h2 with ⟨e,hn⟩|⟨g,cap,cur,e,hb,hh,hn,hm,hs,ht⟩
 · injection e with e1 e2 e3
   subst e1 e2
   exact ⟨hn.symm,⟨Nat.zero_le _,fun i hi=>absurd hi (Nat.not_lt_zero _)⟩⟩
 · injection e with e1 e2 e3
   subst e1 e2
   refine ⟨rfl,⟨Nat.le_trans hn hm,fun i hi=>⟨g,0,rfl,fun j hj=>?_⟩⟩⟩
   have h3:cur[i*5+j]? = some (.int .i64 (rowAt x js i j)):=by
    have:(cur.toList.take (js.length*5))[i*5+j]? = (impCells x js)[i*5+j]?:=by rw [ht]
    rw [List.getElem?_take,if_pos (by omega),imp_at x js i j hi hj] at this
    rw [← Array.getElem?_toList,this]
    rfl
   simp [World.cell?,hh,h3]
end Go.Proofs.YthompjbplddkgaaGreatDoor.hopSem
namespace Go.Proofs.YthompjbplddkgaaGreatDoor.stepAppend
open Go heldStore
theorem step_append_at {P:Program} (w:World) {ops:Array Oper} {o:Oper} {a:Act} {K:Act→World→Prop} {Q:Exit→Act→World→Prop} {E:Prop} (hgd:o.guard=none) (s x:Operand) (t:TypeId)
  (ho:o.op=.call { callee:=.builtin .append,args:=#[s,x],argTypes:=#[t,t] }) (dd:Option Tmp) (hd:o.dst=dd)
  (base:Nat) (e:TypeId) (i:TypeInfo) (z:Value) (size bytes:Nat) (ht:P.underlying t=some (.slice e)) (hi:P.info? e=some i) (hz:i.zero=some z)
  (hsize:i.size=size) (hby:i.bytes=bytes) (hzs:z.cells.size=size) (hsz:0<size)
  (v:Value) (n:Nat) (xs:List Value) (hs:a.eval s=v) (hown:w.ownsRow base e size v n xs)
  (ad:Addr) (m c:Nat) (news:List Value) (hx:a.eval x=.slice (some ad) m c) (hl:news.length=m*size) (hnews:∀ j u,news[j]? = some u→w.cell? (ad.add j)=some u) (h1:∀ u∈news,u.oneCell' = true)
  (h63:n+m≤maxLen) (hbytes:(n+m)*bytes≤140737488355328) (hbase:base≤w.heap.size)
  (h:∀ v' w',w'.ownsRow base e size v' (n+m) (xs ++ news)→w.grownBy w' v.ownBlock→(v'.ownBlock=v.ownBlock∨v'.ownBlock=some w.heap.size)→K (a.put dd v') w') :
  if Region.wanted o (yielded ops a.tmps)=true then Oper.wp P o a w K Q else E:=by
 subst hd
 have hw:Region.wanted o (yielded ops a.tmps)=true:=by simp [Region.wanted,hgd]
 rw [if_pos hw]
 obtain ⟨v',w',hr,h2,h3,h4,h5⟩:=run_append_own_at (P:=P) w base t o.type e i z size bytes ht hi hz hsize hby hzs hsz v n xs hown ad m c news hl hnews h1 h63 hbytes hbase
 have:=h v' w' h2 h3 h5
 unfold Oper.wp execOp
 simp only [ho,resolve,invoke,builtin,Sem.run_bind,Sem.run_pure,Result.andThen_ok,List.map_toArray,List.map_cons,List.map_nil,hs,hx,hr]
 exact this
end Go.Proofs.YthompjbplddkgaaGreatDoor.stepAppend
namespace Go.Proofs.YthompjbplddkgaaGreatDoor.hopMake
open Go.RowKit Go.Deep Go base netSem routeRow nbSem candSem hopSem intsOwn heldStore stepAppend
end Go.Proofs.YthompjbplddkgaaGreatDoor.hopMake
namespace Go.Proofs.YthompjbplddkgaaGreatDoor.hopBetween
open Go.RowKit Go.Deep Go base netSem routeRow nbSem candSem hopSem intsOwn hopMake
end Go.Proofs.YthompjbplddkgaaGreatDoor.hopBetween
