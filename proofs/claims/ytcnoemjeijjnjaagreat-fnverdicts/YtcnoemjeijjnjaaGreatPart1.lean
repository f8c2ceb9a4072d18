import Derived.Test.YtcnoemjeijjnjaaGreatRows
import Derived.WalkKit
import Derived.Below
import Derived.Deep.OwnRows
import Derived.Deep.QuietTactic
import Derived.BigQuiet
import Derived.Deep.RegionWith
import Derived.ProofKit
import Derived.OpenShut
import Derived.ShutString
import Derived.ChangeOld
import Derived.Lib.SmallJoins
import Derived.Deep.Slices
import Derived.StillTail
import Derived.Deep.RegionHeld3
namespace Go.Proofs.YtcnoemjeijjnjaaGreat
theorem Kr {p:Prop} (h:p:=by kernel_rfl):p:=h
theorem Om {p:Prop} (h:p:=by omega):p:=h
theorem Bz {n : Nat} {w : World} : Go.RowKit.Below n w w := Go.RowKit.Below.refl _ _
theorem Bl {n:Nat} {v w:World} (h:Go.RowKit.Below n v w:=by repeat (first|exact Go.RowKit.Below.refl _ _|assumption|refine Go.RowKit.Below.drew ?_|refine Go.RowKit.Below.alloc ?_ (by first|exact Nat.le_refl _|omega|(simp;done)|(simp;omega)) _|refine Go.RowKit.Below.setCell ?_ (by first|exact Nat.le_refl _|omega|(simp;done)|(simp;omega)) _)):Go.RowKit.Below n v w:=h
end Go.Proofs.YtcnoemjeijjnjaaGreat
namespace Go.Proofs.YtcnoemjeijjnjaaGreat.base
open Go.RowKit Go.Deep
theorem ret_bool {a b:Bool} (h:a=b):Ending.returned (.bool a)=.returned (.bool b):=by rw[h]
theorem ret_int {k:IntKind} {a b:Int} (h:a=b):Ending.returned (.int k a)=.returned (.int k b):=by rw[h]
theorem hid {p:Prop} (h:p):Hid p:=h
theorem below_drewN (w:World) (n:Nat):Below w.heap.size w (w.drewN n):=⟨rfl,rfl,rfl,Nat.le_refl _,fun _ _=>rfl⟩
theorem bcell {W w1:World} (hb:Below W.heap.size W w1):(∀b o,b<W.heap.size→w1.cell? ⟨b,o,none⟩=W.cell? ⟨b,o,none⟩)∧(∀b o,b<W.heap.size→w1.frozen? ⟨b,o,none⟩=W.frozen? ⟨b,o,none⟩) :=
 ⟨fun b o h=>hb.cell (p:=⟨b,o,none⟩) h,fun b o h=>hb.frozen (p:=⟨b,o,none⟩) h⟩
theorem keep {W w1:World} (hb:Below W.heap.size W w1) {b o:Nat} {v:Value} (h:W.cell? ⟨b,o,none⟩=some v):w1.cell? ⟨b,o,none⟩=some v:=by
 rw[hb.cell (p:=⟨b,o,none⟩) (World.block_lt_of_cell? _ _ h)];exact h
structure IntRow (w : World) (a : Option Addr) (len : Nat) (zs : List Int) : Prop where
 length:zs.length=len
 most:len≤maxLen
 cell:∀i,i<len→∃b off,a=some ⟨b,off,none⟩∧w.cell? ⟨b,off+i,none⟩=some (.int .i64 (zs[i]?.getD 0))
theorem IntRow.below {W w1:World} {a:Option Addr} {len:Nat} {zs:List Int} (h:IntRow W a len zs) (hb:Below W.heap.size W w1):IntRow w1 a len zs :=
 ⟨h.length,h.most,fun i hi=>by
  obtain⟨b,off,e,hc⟩:=h.cell i hi
  exact⟨b,off,e,keep hb hc⟩⟩
theorem IntRow.drewN {W:World} {a:Option Addr} {len:Nat} {zs:List Int} (h:IntRow W a len zs) (n:Nat):IntRow (W.drewN n) a len zs:=h.below (below_drewN _ _)
structure IntRows (w : World) (a : Option Addr) (len : Nat) (zss : List (List Int)) : Prop where
 length:zss.length=len
 most:len≤maxLen
 cell:∀i,i<len→∃b off,a=some ⟨b,off,none⟩∧∃a' l' c',w.cell? ⟨b,off+i,none⟩=some (.slice a' l' c')∧IntRow w a' l' (zss[i]?.getD [])
theorem IntRows.below {W w1:World} {a:Option Addr} {len:Nat} {zss:List (List Int)} (h:IntRows W a len zss) (hb:Below W.heap.size W w1):IntRows w1 a len zss :=
 ⟨h.length,h.most,fun i hi=>by
  obtain⟨b,off,e,a',l',c',hc,hr⟩:=h.cell i hi
  exact⟨b,off,e,a',l',c',keep hb hc,hr.below hb⟩⟩
structure BoolRow (w : World) (a : Option Addr) (len : Nat) (zs : List Bool) : Prop where
 length:zs.length=len
 most:len≤maxLen
 cell:∀i,i<len→∃b off,a=some ⟨b,off,none⟩∧w.cell? ⟨b,off+i,none⟩=some (.bool (zs[i]?.getD false))
theorem BoolRow.below {W w1:World} {a:Option Addr} {len:Nat} {zs:List Bool} (h:BoolRow W a len zs) (hb:Below W.heap.size W w1):BoolRow w1 a len zs :=
 ⟨h.length,h.most,fun i hi=>by
  obtain⟨b,off,e,hc⟩:=h.cell i hi
  exact⟨b,off,e,keep hb hc⟩⟩
end Go.Proofs.YtcnoemjeijjnjaaGreat.base
namespace Go.Proofs.YtcnoemjeijjnjaaGreat.args
open Go.ChangeShapes Go.WideShapes Go.ChangeAt Go.RowKit Go.Deep Go.Joins base
variable {H : Type} {enc : TypeId × Value→H} {P : Program} {w : World} {base : Nat} {held : Bool}
theorem at_none {x:Addr} {i:Nat} {v v0:Value} (h0:w.cell? (x.add 0)=some v0) (h:w.cell? (x.add i)=some v):x=⟨x.block,x.off,none⟩∧w.cell? ⟨x.block,x.off+i,none⟩=some v:=by
 have hs:=World.cell?_spot h0;obtain⟨b,o,s⟩:=x;have hs':s=none:=by simpa[Addr.add] using hs
 subst hs';refine⟨rfl,?_⟩;by_cases e:i=0
 · subst e;simpa[Addr.add] using h
 simpa[Addr.add,e] using h
end Go.Proofs.YtcnoemjeijjnjaaGreat.args
namespace Go.Proofs.YtcnoemjeijjnjaaGreat.heldStore
open Go
variable {P : Program} {ops : Array Oper} {Q : Exit→Act→World→Prop} {S : World→Prop} {n : Nat}
def Goes (P : Program) (ops : Array Oper) (Q : Exit→Act→World→Prop) (S : World→Prop) (n : Nat) : Nat→Array Bool→Act→World→Prop
 | 0,listed,a,w=>Region.ready .any ops listed=[]∧Q .normal a w
 | fuel+1,listed,a,w=>(Region.ready .any ops listed=[]→Q .normal a w) ∧
   ∀i∈Region.ready .any ops listed,wpOp P ops Q i (fun a' w'=>(i<n→S w')∧Goes P ops Q S n fuel (listed.setIfInBounds i true) a' w') a w
theorem Goes.any : ∀ (fuel:Nat) (listed:Array Bool) (a:Act) (w:World),Goes P ops Q S n fuel listed a w→wpAny P .any ops Q fuel listed a w
 | 0,_,_,_,h=>h
 | fuel+1,_,_,_,h=>⟨h.1,fun i hi=>wpOp_mono (fun a' w' h'=>Goes.any fuel _ a' w' h'.2) (h.2 i hi)⟩
theorem Goes.first {i:Nat} {oi:Oper} {v:Value} (hi:ops[i]? = some oi) (hsel:∀(j:Nat) (o:Oper) cs b,ops[j]? = some o→o.op≠.select cs b)
  (hs:Region.sinkB .any ops n=true) (hc:Region.chainB .any ops n=true) (hn:n<ops.size) (hin:i<n)
  (hQ:∀c a w,Q (.panic c) (a.put oi.dst v) w→Q (.panic c) a w) (fuel:Nat):∀(listed:Array Bool) (a:Act) (w:World),HeadInv .any ops n listed →
   (∀j oj,ops[j]? = some oj→j≠i→listed.getD j true=false→(∀e∈oj.after,Region.binds .any e=true→e.on≠i)→oi.apart ops oj=true) →
   i∈Region.ready .any ops listed→YieldsIf P ops S oi v a→S w →
   Goes P ops Q S n fuel (listed.setIfInBounds i true) (a.put oi.dst v) w→Goes P ops Q S n (fuel+1) listed a w:=by
 induction fuel with
 | zero =>
  intro listed a w inv _ hr hy hS H;refine⟨fun h=>absurd hr (by rw[h];exact List.not_mem_nil),fun j hj=>?_⟩;by_cases hji:j=i
  · subst hji;exact hy.wpOp hi hS ⟨fun _=>hS,H⟩
  have h1:=ready_mono hj hji;rw[H.1]at h1;cases h1
 | succ fuel ih =>
  intro listed a w inv hfree hr hy hS H;have hun:=(mem_ready.1 hr).1;refine⟨fun h=>absurd hr (by rw[h];exact List.not_mem_nil),fun j hj=>?_⟩;by_cases hji:j=i
  · subst hji;exact hy.wpOp hi hS ⟨fun _=>hS,H⟩
  have hjn:j<n:=by
   rcases Nat.lt_or_ge j n with h|h
   · exact h
   exact absurd hj (tail_waits hs hc hn inv _ i rfl hin hun j h)
  obtain⟨hjun,oj,hoj,hall⟩:=mem_ready.1 hj
  have hnot:∀e∈oj.after,Region.binds .any e=true→e.on≠i:=fun e he hb heq=>by
   have h1:=hall e he hb;rw[heq,getD_both hun]at h1;cases h1
  have hfree':∀k ok,ops[k]? = some ok→k≠i→(listed.setIfInBounds j true).getD k true=false→(∀e∈ok.after,Region.binds .any e=true→e.on≠i)→oi.apart ops ok=true:=fun k ok hk hki hu hno=>by
   refine hfree k ok hk hki ?_ hno;by_cases hjk:j=k
   · rw[←hjk];exact hjun
   rw[getD_set_ne true hjk]at hu;exact hu
  have h1:=wpOp_putIf hoj (hfree j oj hoj hji hjun hnot) (fun cs b=>hsel i oi cs b hi) (fun cs b=>hsel j oj cs b hoj) hQ hy (H.2 j (ready_mono hj hji));refine wpOp_mono (fun a' w' h3=>⟨fun _=>h3.2.1 hjn,ih _ a' w' (inv.set hj hjn) hfree' (ready_mono hr (Ne.symm hji)) h3.1 (h3.2.1 hjn) ?_⟩) h1;rw[Array.setIfInBounds_comm _ _ hji];exact h3.2.2
structure LastOf (ops : Array Oper) (n : Nat) : Prop where
 sel:Region.noSelect ops=true
 sink:Region.sinkB .any ops n=true
 chain:Region.chainB .any ops n=true
 lt:n<ops.size
theorem Goes.take {i:Nat} {oi:Oper} {v:Value} {fuel:Nat} {listed:Array Bool} {a:Act} {w:World} (d:Option Tmp) (hE:LastOf ops n) (hi:ops[i]? = some oi) (hd:oi.dst=d) (inv:HeadInv .any ops n listed)
  (hf:Region.free .any ops listed i=true) (hr:(Region.ready .any ops listed).contains i=true) (hin:i<n)
  (hQ:∀c a w,Q (.panic c) (a.put d v) w→Q (.panic c) a w) (hy:YieldsIf P ops S oi v a) (hS:S w)
  (h:HeadInv .any ops n (listed.setIfInBounds i true)→Goes P ops Q S n fuel (listed.setIfInBounds i true) (a.put d v) w):Goes P ops Q S n (fuel+1) listed a w:=by
 subst hd;have hr':i∈Region.ready .any ops listed:=by simpa using hr
 exact Goes.first hi (Region.noSelect_spec hE.sel) hE.sink hE.chain hE.lt hin hQ fuel listed a w inv (Region.free_spec hi hf) hr' hy hS (h (inv.set hr' hin))
theorem Goes.one {i:Nat} {o:Oper} {fuel:Nat} {listed:Array Bool} {a:Act} {w:World} (inv:HeadInv .any ops n listed) (hr:Region.ready .any ops listed=[i]) (hin:i<n) (ho:ops[i]? = some o)
  (h:HeadInv .any ops n (listed.setIfInBounds i true)→∀K':Act→World→Prop,Shut (∀a w,S w→(S w→Goes P ops Q S n fuel (listed.setIfInBounds i true) a w)→K' a w)→if Region.wanted o (yielded ops a.tmps)=true then Oper.wp P o a w K' Q else K' (a.put o.dst undef) w) :
  Goes P ops Q S n (fuel+1) listed a w :=
 ⟨fun h0=>(by rw[hr]at h0;cases h0),fun j hj=>by
  have hj' := hj;rw[hr]at hj;have e:j=i:=by simpa using hj
  subst e
  exact wpOp_step ho fun K' hK=>h (inv.set hj' hin) K' fun a w hS hW=>hK a w ⟨fun _=>hS,hW hS⟩⟩
theorem Goes.last {o:Oper} {listed:Array Bool} {a:Act} {w:World} (hr:Region.ready .any ops listed=[n]) (hd:Region.ready .any ops (listed.setIfInBounds n true)=[]) (ho:ops[n]? = some o)
  (h:∀K':Act→World→Prop,Shut (∀a w,Q .normal a w→K' a w)→if Region.wanted o (yielded ops a.tmps)=true then Oper.wp P o a w K' Q else K' (a.put o.dst undef) w) :
  Goes P ops Q S n 1 listed a w :=
 ⟨fun h0=>(by rw[hr]at h0;cases h0),fun j hj=>by
  rw[hr]at hj;have e:j=n:=by simpa using hj
  subst e
  exact wpOp_step ho fun K' hK=>h K' fun a w hq=>hK a w ⟨fun hlt=>absurd hlt (Nat.lt_irrefl _),hd,hq⟩⟩
theorem region_goes {id:Nat} {a:Act} {w:World} (n m:Nat) (S:World→Prop) (hm:P.follows .mixedOrders=true) (hz:ops.size=m) (hE:LastOf ops n) (hS:S w.drew)
  (h:LastOf ops n→HeadInv .any ops n (Array.replicate m false)→S w.drew→Goes P ops Q S n m (Array.replicate m false) a w.drew):(Code.region id ops true).wp P Q a w:=by
 subst hz;exact wp_region_any hm (Goes.any _ _ _ _ (h hE ⟨by simp,fun j oj _ hl=>(by rw[getD_replicate_false]at hl;cases hl),fun t _ ht=>getD_in (by simpa using ht) (getD_replicate_false _ _)⟩ hS))
end Go.Proofs.YtcnoemjeijjnjaaGreat.heldStore
namespace Go.Proofs.YtcnoemjeijjnjaaGreat.drawn
open Go heldStore
variable {P : Program} {ops : Array Oper} {Q : Exit→Act→World→Prop}
def falses : List Bool→Nat
 | []=>0
 | true::l=>falses l
 | false::l=>falses l+1
theorem falses_set : ∀ (l:List Bool) (i:Nat),l[i]? = some false→falses (l.set i true)+1=falses l
 | [],i,h=>by simp at h
 | b::l,0,h=>by
  simp only[List.getElem?_cons_zero,Option.some.injEq]at h;subst h;rfl
 | b::l,i+1,h=>by
  simp only[List.getElem?_cons_succ]at h;have ih:=falses_set l i h;cases b<;>simp only[List.set_cons_succ,falses]<;>omega
theorem falses_pos : ∀ (l:List Bool) (i:Nat),l[i]? = some false→0<falses l
 | [],i,h=>by simp at h
 | b::l,0,h=>by
  simp only[List.getElem?_cons_zero,Option.some.injEq]at h;subst h;simp[falses]
 | b::l,i+1,h=>by
  simp only[List.getElem?_cons_succ]at h;have ih:=falses_pos l i h;cases b<;>simp only[falses]<;>omega
theorem falses_replicate (m:Nat):falses (List.replicate m false)=m:=by
 induction m with
 | zero=>rfl
 | succ m ih=>rw[List.replicate_succ];simp[falses,ih]
theorem at_false {listed:Array Bool} {i:Nat} (h:listed.getD i true=false):listed.toList[i]? = some false:=by
 rcases Nat.lt_or_ge i listed.size with h'|h'
 · simp[h']at h ⊢;exact h
 simp[Array.getElem?_eq_none h']at h
def upB (ops : Array Oper) : Bool := (List.range ops.size).all fun i=>((ops[i]?).map (·.after.all fun e=>decide (e.on<i))).getD true
theorem upB_spec (h:upB ops=true) {i:Nat} {o:Oper} (ho:ops[i]? = some o):∀e∈o.after,e.on<i:=by
 have hlt:i<ops.size:=(Array.getElem?_eq_some_iff.1 ho).1;have h1:=List.all_eq_true.1 h i (List.mem_range.2 hlt);rw[ho]at h1;simp only[Option.map_some,Option.getD_some,Array.all_eq_true_iff_forall_mem,decide_eq_true_eq]at h1;exact h1
theorem ready_ne (h:upB ops=true) {listed:Array Bool} (hs:listed.size=ops.size):∀n,listed.getD n true=false→Region.ready .any ops listed≠[]:=by
 intro n
 induction n using Nat.strongRecOn with
 | _ n ih =>
  intro hn he
  have hlt:n<ops.size:=by
   rcases Nat.lt_or_ge n listed.size with h'|h'
   · omega
   simp[Array.getElem?_eq_none h']at hn
  by_cases hall:∀e∈(ops[n]).after,Region.binds .any e=true→listed.getD e.on false=true
  · have:n∈Region.ready .any ops listed:=mem_ready.2 ⟨hn,ops[n],by simp[hlt],hall⟩;rw[he]at this;cases this
  have hx:∃e∈(ops[n]).after,listed.getD e.on false=false:=by
   apply Classical.byContradiction;intro hno;refine hall fun e he' _=>?_
   cases hb:listed.getD e.on false with
   | true=>rfl
   | false=>exact absurd ⟨e,he',hb⟩ hno
  obtain⟨e,he',hb⟩:=hx;have hlt' := upB_spec h (i:=n) (o:=ops[n]) (by simp[hlt]) e he';exact ih e.on hlt' (getD_in Om hb) he
def upd (u : Nat→Value) (k : Nat) (v : Value) : Nat→Value := fun j=>if j=k then v else u j
theorem upd_same (u:Nat→Value) (k:Nat) (v:Value):upd u k v k=v:=if_pos rfl
theorem upd_ne (u:Nat→Value) {k j:Nat} (v:Value) (h:j≠k):upd u k v j=u j:=if_neg h
variable {A : (Nat→Value)→Act} {s : Nat→Nat} {φ : Nat→Value→World→Prop} {S : World→Prop} {n : Nat}
theorem any_inv (hz:ops.size=n+1) (hE:LastOf ops n) (hup:upB ops=true)
  (hput:∀i,i<n→∀u v,(A u).put (some (s i)) v=A (upd u (s i) v)) (hinj:∀i j,i<n→j<n→s i=s j→i=j)
  (step:∀i,i<n→∀u w,S w→(∀j,Region.waitsFor .any ops i j=true→φ j (u (s j)) w)→∃o,ops[i]? = some o∧∀K':Act→World→Prop,Shut (∀v w',S w'→(∀j v',φ j v' w→φ j v' w')→φ i v w'→K' ((A u).put (some (s i)) v) w')→if Region.wanted o (yielded ops (A u).tmps)=true then Oper.wp P o (A u) w K' Q else K' ((A u).put o.dst undef) w)
  (last:∀u w,S w→(∀j,j<n→φ j (u (s j)) w)→∃o,ops[n]? = some o∧∀K':Act→World→Prop,Shut (∀a w,Q .normal a w→K' a w)→if Region.wanted o (yielded ops (A u).tmps)=true then Oper.wp P o (A u) w K' Q else K' ((A u).put o.dst undef) w) :
  ∀(fuel:Nat) (listed:Array Bool) (u:Nat→Value) (w:World),falses listed.toList≤fuel→HeadInv .any ops n listed→S w→(∀j,j<n→listed.getD j false=true→φ j (u (s j)) w) →
   wpAny P .any ops Q fuel listed (A u) w:=by
 intro fuel
 induction fuel with
 | zero =>
  intro listed u w hf inv _ _;have:=falses_pos _ _ (at_false (inv.tail n (Nat.le_refl _) Om));omega
 | succ fuel ih =>
  intro listed u w hf inv hS hφ;have hn:=inv.tail n (Nat.le_refl _) Om;refine⟨fun h=>absurd h (ready_ne hup inv.size n hn),fun i hi=>?_⟩;have hi' := mem_ready.1 hi;obtain⟨hun,oi,hoi,hall⟩:=hi';have hisz:i<n+1:=by rw[←hz];exact(Array.getElem?_eq_some_iff.1 hoi).1
  by_cases hin:i<n
  · obtain ⟨o, ho, h⟩ := step i hin u w hS (fun j hj => by
     obtain⟨oj,hoj,e,he,hb,hon⟩:=Region.waitsFor_spec hj;have e1:oj=oi:=Option.some.inj (hoj.symm.trans hoi);subst e1;have h1:=hall e he hb;have h2:=upB_spec hup hoj e he;rw[hon]at h1 h2
     exact hφ j Om h1)
    refine wpOp_step ho fun K' hK=>h K' fun v w' hS' hst hv=>hK _ _ ?_;rw[hput i hin];refine ih _ _ _ ?_ (inv.set hi hin) hS' fun j hj hl=>?_
    · have:=falses_set _ _ (at_false hun);simp only[Array.toList_setIfInBounds];omega
    by_cases e:i=j
    · subst e;rw[upd_same];exact hv
    rw[getD_set_ne false e]at hl;rw[upd_ne _ _ (fun e'=>e (hinj i j hin hj e'.symm))];exact hst j _ (hφ j hj hl)
  have e:i=n:=by omega
  subst e
  have hlall:∀j,j<i→listed.getD j false=true:=by
   intro j hj
   cases hb:listed.getD j false with
   | true=>rfl
   | false=>exact absurd hi (tail_waits hE.sink hE.chain hE.lt inv _ j rfl hj (getD_in (by rw[inv.size];omega) hb) i (Nat.le_refl _))
  obtain⟨o,ho,h⟩:=last u w hS (fun j hj=>hφ j hj (hlall j hj));refine wpOp_step ho fun K' hK=>h K' fun a' w' hq=>hK _ _ ?_
  have hd:Region.ready .any ops (listed.setIfInBounds i true)=[]:=by
   cases hr:Region.ready .any ops (listed.setIfInBounds i true) with
   | nil=>rfl
   | cons k l =>
    have hk:k∈Region.ready .any ops (listed.setIfInBounds i true):=by rw[hr];exact List.mem_cons_self
    obtain⟨h1,ok,hok,_⟩:=mem_ready.1 hk;have hklt:k<i+1:=by rw[←hz];exact(Array.getElem?_eq_some_iff.1 hok).1
    by_cases e:k=i
    · subst e;have:k<listed.size:=by rw[inv.size];omega
      simp[this]at h1
    rw[getD_set_ne true (Ne.symm e)]at h1;have h2:=hlall k Om;rw[getD_both h1]at h2;cases h2
  cases fuel with
  | zero=>exact⟨hd,hq⟩
  | succ f=>exact⟨fun _=>hq,fun k hk=>by rw[hd]at hk;cases hk⟩
theorem region_inv {id:Nat} {a:Act} {w:World} (A:(Nat→Value)→Act) (s:Nat→Nat) (φ:Nat→Value→World→Prop) (S:World→Prop) (n:Nat) (u0:Nat→Value) (ha:a=A u0)
  (hm:P.follows .mixedOrders=true) (hz:ops.size=n+1) (hE:LastOf ops n) (hup:upB ops=true) (hS:S w.drew)
  (hput:∀i,i<n→∀u v,(A u).put (some (s i)) v=A (upd u (s i) v)) (hinj:∀i j,i<n→j<n→s i=s j→i=j)
  (step:∀i,i<n→∀u w,S w→(∀j,Region.waitsFor .any ops i j=true→φ j (u (s j)) w)→∃o,ops[i]? = some o∧∀K':Act→World→Prop,Shut (∀v w',S w'→(∀j v',φ j v' w→φ j v' w')→φ i v w'→K' ((A u).put (some (s i)) v) w')→if Region.wanted o (yielded ops (A u).tmps)=true then Oper.wp P o (A u) w K' Q else K' ((A u).put o.dst undef) w)
  (last:∀u w,S w→(∀j,j<n→φ j (u (s j)) w)→∃o,ops[n]? = some o∧∀K':Act→World→Prop,Shut (∀a w,Q .normal a w→K' a w)→if Region.wanted o (yielded ops (A u).tmps)=true then Oper.wp P o (A u) w K' Q else K' ((A u).put o.dst undef) w) :
  (Code.region id ops true).wp P Q a w:=by
 subst ha;refine wp_region_any hm ?_;rw[hz];refine any_inv hz hE hup hput hinj step last _ _ _ _ ?_ ⟨by simp[hz],fun j oj _ hl=>(by rw[getD_replicate_false]at hl;cases hl),fun t _ ht=>getD_in (by simp;omega) (getD_replicate_false _ _)⟩ hS (fun j _ hl=>(by rw[getD_replicate_false]at hl;cases hl));simp[falses_replicate]
open Go.RowKit in
theorem region_below {id:Nat} {a:Act} {w:World} (A:(Nat→Value)→Act) (s:Nat→Nat) (φ:Nat→Value→World→Prop) (W:World) (n:Nat) (u0:Nat→Value) (ha:a=A u0)
  (hm:P.follows .mixedOrders=true) (hz:ops.size=n+1) (hE:LastOf ops n) (hup:upB ops=true) (hW:Below W.heap.size W w)
  (hput:∀i,i<n→∀u v,(A u).put (some (s i)) v=A (upd u (s i) v)) (hinj:∀i j,i<n→j<n→s i=s j→i=j)
  (stable:∀i v w w',Below w.heap.size w w'→φ i v w→φ i v w')
  (step:∀i,i<n→∀u w,Below W.heap.size W w→(∀j,Region.waitsFor .any ops i j=true→φ j (u (s j)) w)→∃o,ops[i]? = some o∧∀K':Act→World→Prop,Shut (∀v w',Below w.heap.size w w'→φ i v w'→K' ((A u).put (some (s i)) v) w')→if Region.wanted o (yielded ops (A u).tmps)=true then Oper.wp P o (A u) w K' Q else K' ((A u).put o.dst undef) w)
  (last:∀u w,Below W.heap.size W w→(∀j,j<n→φ j (u (s j)) w)→∃o,ops[n]? = some o∧∀K':Act→World→Prop,Shut (∀a w,Q .normal a w→K' a w)→if Region.wanted o (yielded ops (A u).tmps)=true then Oper.wp P o (A u) w K' Q else K' ((A u).put o.dst undef) w) :
  (Code.region id ops true).wp P Q a w:=by
 refine region_inv A s φ (fun w=>Below W.heap.size W w) n u0 ha hm hz hE hup hW.drew hput hinj ?_ last;intro i hi u w8 hS8 hdep;obtain⟨o,ho,h⟩:=step i hi u w8 hS8 hdep;refine⟨o,ho,fun K' hK=>h K' fun v w' hb hv=>hK.out v w' (hS8.trans (hb.mono hS8.size)) (fun j v' h'=>stable j v' _ _ hb h') hv⟩
theorem slots_inj (l:List Nat) (h:l.Nodup) {i j:Nat} (hi:i<l.length) (hj:j<l.length) (e:l.getD i 0=l.getD j 0):i=j:=by
 rw[List.getD_eq_getElem?_getD,List.getD_eq_getElem?_getD,List.getElem?_eq_getElem hi,List.getElem?_eq_getElem hj]at e;exact(List.getElem_inj h).1 e
end Go.Proofs.YtcnoemjeijjnjaaGreat.drawn
namespace Go.Proofs.YtcnoemjeijjnjaaGreat.drawnLin
open Go heldStore drawn
variable {P : Program} {ops : Array Oper} {Q : Exit→Act→World→Prop}
variable {A : (Nat→Value)→Act} {s : Nat→Nat} {Inv : (Nat→Bool)→(Nat→Value)→World→Prop} {n : Nat}
def come (L : Nat→Bool) (i : Nat) : Nat→Bool := fun j=>if j=i then true else L j
theorem come_same (L:Nat→Bool) (i:Nat):come L i i=true:=if_pos rfl
theorem come_old {L:Nat→Bool} {i j:Nat} (h:L j=true):come L i j=true:=by
 unfold come;split<;>first|rfl|exact h
theorem come_ne {L:Nat→Bool} {i j:Nat} (e:j≠i):come L i j=L j:=if_neg e
theorem any_all (hz:ops.size=n+1) (hE:LastOf ops n) (hup:upB ops=true)
  (hput:∀i,i<n→∀u v,(A u).put (some (s i)) v=A (upd u (s i) v))
  (step:∀i,i<n→∀L u w,L i=false→(∀j,Region.waitsFor .any ops i j=true→L j=true)→Inv L u w→∃o,ops[i]? = some o∧∀K':Act→World→Prop,Shut (∀v w',Inv (come L i) (upd u (s i) v) w'→K' ((A u).put (some (s i)) v) w')→if Region.wanted o (yielded ops (A u).tmps)=true then Oper.wp P o (A u) w K' Q else K' ((A u).put o.dst undef) w)
  (last:∀L u w,(∀j,j<n→L j=true)→Inv L u w→∃o,ops[n]? = some o∧∀K':Act→World→Prop,Shut (∀a w,Q .normal a w→K' a w)→if Region.wanted o (yielded ops (A u).tmps)=true then Oper.wp P o (A u) w K' Q else K' ((A u).put o.dst undef) w) :
  ∀(fuel:Nat) (listed:Array Bool) (u:Nat→Value) (w:World),falses listed.toList≤fuel→HeadInv .any ops n listed→Inv (fun j=>listed.getD j false) u w →
   wpAny P .any ops Q fuel listed (A u) w:=by
 intro fuel
 induction fuel with
 | zero =>
  intro listed u w hf inv _;have:=falses_pos _ _ (at_false (inv.tail n (Nat.le_refl _) Om));omega
 | succ fuel ih =>
  intro listed u w hf inv hI;have hn:=inv.tail n (Nat.le_refl _) Om;refine⟨fun h=>absurd h (ready_ne hup inv.size n hn),fun i hi=>?_⟩;have hi' := mem_ready.1 hi;obtain⟨hun,oi,hoi,hall⟩:=hi';have hisz:i<n+1:=by rw[←hz];exact(Array.getElem?_eq_some_iff.1 hoi).1
  by_cases hin:i<n
  · obtain ⟨o, ho, h⟩ := step i hin (fun j => listed.getD j false) u w (getD_both hun) (fun j hj => by
     obtain⟨oj,hoj,e,he,hb,hon⟩:=Region.waitsFor_spec hj;have e1:oj=oi:=Option.some.inj (hoj.symm.trans hoi);subst e1;have h1:=hall e he hb;rw[hon]at h1
     exact h1) hI
    refine wpOp_step ho fun K' hK=>h K' fun v w' hI'=>hK _ _ ?_;rw[hput i hin];refine ih _ _ _ ?_ (inv.set hi hin) ?_
    · have:=falses_set _ _ (at_false hun);simp only[Array.toList_setIfInBounds];omega
    have:(fun j=>(listed.setIfInBounds i true).getD j false)=come (fun j=>listed.getD j false) i:=by
     funext j
     unfold come;by_cases e:j=i
     · subst e;rw[if_pos rfl];have:j<listed.size:=by rw[inv.size,hz];omega
       simp[this]
     rw[if_neg e,getD_set_ne false (Ne.symm e)]
    rw[this];exact hI'
  have e:i=n:=by omega
  subst e
  have hlall:∀j,j<i→listed.getD j false=true:=by
   intro j hj
   cases hb:listed.getD j false with
   | true=>rfl
   | false=>exact absurd hi (tail_waits hE.sink hE.chain hE.lt inv _ j rfl hj (getD_in (by rw[inv.size];omega) hb) i (Nat.le_refl _))
  obtain⟨o,ho,h⟩:=last _ u w hlall hI;refine wpOp_step ho fun K' hK=>h K' fun a' w' hq=>hK _ _ ?_
  have hd:Region.ready .any ops (listed.setIfInBounds i true)=[]:=by
   cases hr:Region.ready .any ops (listed.setIfInBounds i true) with
   | nil=>rfl
   | cons k l =>
    have hk:k∈Region.ready .any ops (listed.setIfInBounds i true):=by rw[hr];exact List.mem_cons_self
    obtain⟨h1,ok,hok,_⟩:=mem_ready.1 hk;have hklt:k<i+1:=by rw[←hz];exact(Array.getElem?_eq_some_iff.1 hok).1
    by_cases e:k=i
    · subst e;have:k<listed.size:=by rw[inv.size];omega
      simp[this]at h1
    rw[getD_set_ne true (Ne.symm e)]at h1;have h2:=hlall k Om;rw[getD_both h1]at h2;cases h2
  cases fuel with
  | zero=>exact⟨hd,hq⟩
  | succ f=>exact⟨fun _=>hq,fun k hk=>by rw[hd]at hk;cases hk⟩
theorem region_all {id:Nat} {a:Act} {w:World} (A:(Nat→Value)→Act) (s:Nat→Nat) (Inv:(Nat→Bool)→(Nat→Value)→World→Prop) (n:Nat) (u0:Nat→Value) (ha:a=A u0)
  (hm:P.follows .mixedOrders=true) (hz:ops.size=n+1) (hE:LastOf ops n) (hup:upB ops=true) (hS:Inv (fun _=>false) u0 w.drew)
  (hput:∀i,i<n→∀u v,(A u).put (some (s i)) v=A (upd u (s i) v))
  (step:∀i,i<n→∀L u w,L i=false→(∀j,Region.waitsFor .any ops i j=true→L j=true)→Inv L u w→∃o,ops[i]? = some o∧∀K':Act→World→Prop,Shut (∀v w',Inv (come L i) (upd u (s i) v) w'→K' ((A u).put (some (s i)) v) w')→if Region.wanted o (yielded ops (A u).tmps)=true then Oper.wp P o (A u) w K' Q else K' ((A u).put o.dst undef) w)
  (last:∀L u w,(∀j,j<n→L j=true)→Inv L u w→∃o,ops[n]? = some o∧∀K':Act→World→Prop,Shut (∀a w,Q .normal a w→K' a w)→if Region.wanted o (yielded ops (A u).tmps)=true then Oper.wp P o (A u) w K' Q else K' ((A u).put o.dst undef) w) :
  (Code.region id ops true).wp P Q a w:=by
 subst ha;refine wp_region_any hm ?_;rw[hz];refine any_all hz hE hup hput step last _ _ _ _ ?_ ⟨by simp[hz],fun j oj _ hl=>(by rw[getD_replicate_false]at hl;cases hl),fun t _ ht=>getD_in (by simp;omega) (getD_replicate_false _ _)⟩ ?_
 · simp[falses_replicate]
 have:(fun j=>(Array.replicate (n+1) false).getD j false)=fun _=>false:=by funext j;exact getD_replicate_false _ _
 rw[this];exact hS
def chainB (ops : Array Oper) (nx : List Nat) (n : Nat) : Bool := (List.range n).all fun j=>decide (j<nx.getD j 0)&&decide (nx.getD j 0≤n)&&Region.waitsFor .any ops (nx.getD j 0) j
theorem chain_all {nx:List Nat} (h:chainB ops nx n=true) {L:Nat→Bool} (hc:∀j k,L j=true→Region.waitsFor .any ops j k=true→L k=true) (hn:L n=true):∀d j,n - j≤d→j<n→L j=true:=by
 intro d
 induction d with
 | zero=>intro j h1 h2;omega
 | succ d ih =>
  intro j h1 h2;have h3:=List.all_eq_true.1 h j (List.mem_range.2 h2);simp only[Bool.and_eq_true,decide_eq_true_eq]at h3;obtain⟨⟨h4,h5⟩,h6⟩:=h3;refine hc _ _ ?_ h6;by_cases e:nx.getD j 0=n
  · rw[e];exact hn
  exact ih _ Om Om
open Go.RowKit in
structure Chg (X : Nat→Prop) (w w' : World) : Prop where
 os:w'.os=w.os
 tape:w'.tape=w.tape
 output:w'.output=w.output
 size:w.heap.size≤w'.heap.size
 block:∀k,k<w.heap.size→¬X k→w'.heap[k]? = w.heap[k]?
theorem Chg.refl (X:Nat→Prop) (w:World):Chg X w w:=⟨rfl,rfl,rfl,Nat.le_refl _,fun _ _ _=>rfl⟩
open Go.RowKit in
theorem Chg.of_below {X:Nat→Prop} {w w':World} (h:Below w.heap.size w w'):Chg X w w' := ⟨h.os,h.tape,h.output,h.size,fun k hk _=>h.block k hk⟩
theorem Chg.of_grown {X:Nat→Prop} {w w':World} {row:Option Nat} (h:w.grownBy w' row) (hX:∀k,row=some k→X k):Chg X w w' := ⟨h.os,h.tape,h.output,h.size,fun k hk hn=>h.block k hk (fun e=>hn (hX k e.symm))⟩
open Go.RowKit in
theorem region_lin {id:Nat} {a:Act} {w:World} (A:(Nat→Value)→Act) (s:Nat→Nat) (φ:Nat→Value→World→Prop) (fp:Nat→Value→World→Nat→Prop) (ψ:Value→World→Prop) (W:World) (n:Nat) (con:List Nat) (u0:Nat→Value) (ha:a=A u0)
  (hm:P.follows .mixedOrders=true) (hz:ops.size=n+2) (hE:LastOf ops (n+1)) (hup:upB ops=true) (hch:chainB ops con n=true) (hW:Below W.heap.size W w)
  (hput:∀i,i<n+1→∀u v,(A u).put (some (s i)) v=A (upd u (s i) v)) (hinj:∀i j,i<n+1→j<n+1→s i=s j→i=j)
  (stable:∀i v w w',Below W.heap.size w w'→(∀k,fp i v w k→k<w.heap.size∧w'.heap[k]? = w.heap[k]?)→φ i v w→φ i v w'∧∀k,fp i v w' k→fp i v w k)
  (step:∀i,i<n→∀u w,Below W.heap.size W w→(∀j,con.getD j 0=i→j<i→φ j (u (s j)) w∧∀k,fp j (u (s j)) w k→W.heap.size≤k∧k<w.heap.size)→∃o,ops[i]? = some o∧∀K':Act→World→Prop,Shut (∀v w',Chg (fun k=>∃j,con.getD j 0=i∧j<i∧fp j (u (s j)) w k) w w'→φ i v w'→(∀k,fp i v w' k→k<w'.heap.size∧((∃j,con.getD j 0=i∧j<i∧fp j (u (s j)) w k)∨w.heap.size≤k))→K' ((A u).put (some (s i)) v) w')→if Region.wanted o (yielded ops (A u).tmps)=true then Oper.wp P o (A u) w K' Q else K' ((A u).put o.dst undef) w)
  (pre:∀u w,Below W.heap.size W w→(∀j,con.getD j 0=n→j<n→φ j (u (s j)) w∧∀k,fp j (u (s j)) w k→W.heap.size≤k∧k<w.heap.size)→∃o,ops[n]? = some o∧∀K':Act→World→Prop,Shut (∀v w',ψ v w'→K' ((A u).put (some (s n)) v) w')→if Region.wanted o (yielded ops (A u).tmps)=true then Oper.wp P o (A u) w K' Q else K' ((A u).put o.dst undef) w)
  (last:∀u w,ψ (u (s n)) w→∃o,ops[n+1]? = some o∧∀K':Act→World→Prop,Shut (∀a w,Q .normal a w→K' a w)→if Region.wanted o (yielded ops (A u).tmps)=true then Oper.wp P o (A u) w K' Q else K' ((A u).put o.dst undef) w) :
  (Code.region id ops true).wp P Q a w:=by
 have hcon:∀j,j<n→j<con.getD j 0∧con.getD j 0≤n∧Region.waitsFor .any ops (con.getD j 0) j=true:=fun j hj=>by
  have h3:=List.all_eq_true.1 hch j (List.mem_range.2 hj);simp only[Bool.and_eq_true,decide_eq_true_eq]at h3;exact⟨h3.1.1,h3.1.2,h3.2⟩
 refine region_all A s (fun L u w=>(∀j k,L j=true→Region.waitsFor .any ops j k=true→L k=true)∧(L n=true→ψ (u (s n)) w)∧(L n=false→Below W.heap.size W w∧(∀j,j<n→L j=true→L (con.getD j 0)=false→φ j (u (s j)) w∧∀k,fp j (u (s j)) w k→W.heap.size≤k∧k<w.heap.size)∧∀j j',j<n→j' < n→j≠j'→L j=true→L (con.getD j 0)=false→L j' = true→L (con.getD j' 0)=false→∀k,fp j (u (s j)) w k→¬fp j' (u (s j')) w k)) (n+1) u0 ha hm hz hE hup ⟨fun j k h=>(by cases h),fun h=>(by cases h),fun _=>⟨hW.drew,fun j _ h=>(by cases h),fun j j' _ _ _ h=>(by cases h)⟩⟩ hput ?_ ?_
 · intro i hi L u w8 hLi hwait hI;obtain⟨hcl,hdone,hopen⟩:=hI
   have hcl':∀j k,come L i j=true→Region.waitsFor .any ops j k=true→come L i k=true:=by
    intro j k hj hw;by_cases e:j=i
    · subst e;exact come_old (hwait k hw)
    rw[come_ne e]at hj;exact come_old (hcl j k hj hw)
   have hLn:L n=false:=by
    by_cases hin:i<n
    · cases hb:L n with
      | false=>rfl
      | true=>rw[chain_all hch hcl hb (n - i) i (Nat.le_refl _) hin]at hLi;cases hLi
    have e:i=n:=by omega
    rw[←e];exact hLi
   obtain⟨hS8,hφ,hdis⟩:=hopen hLn
   have used:∀j,con.getD j 0=i→j<i→L j=true:=fun j hj hji=>hwait j (by
    have:=(hcon j Om).2.2;rw[hj]at this
    exact this)
   by_cases hin:i<n
   · obtain⟨o,ho,h⟩:=step i hin u w8 hS8 (fun j hj hji=>hφ j Om (used j hj hji) (by rw[hj];exact hLi));refine⟨o,ho,fun K' hK=>h K' fun v w' hc hv hf=>hK.out v w' ⟨hcl',fun h1=>?_,fun _=>?_⟩⟩
     · rw[come_ne Om,hLn]at h1;cases h1
     have hXW:∀k,(∃j,con.getD j 0=i∧j<i∧fp j (u (s j)) w8 k)→W.heap.size≤k:=fun k hk=>by
      obtain⟨j,hj,hji,hk⟩:=hk;exact((hφ j Om (used j hj hji) (by rw[hj];exact hLi)).2 k hk).1
     have hb:Below W.heap.size w8 w' := ⟨hc.os,hc.tape,hc.output,hc.size,fun k hk=>hc.block k (Nat.lt_of_lt_of_le hk hS8.size) (fun hx=>by have:=hXW k hx;omega)⟩
     -- an older operation that is still to be used
     have alive:∀j,j<n→j≠i→come L i j=true→come L i (con.getD j 0)=false→L j=true∧L (con.getD j 0)=false∧con.getD j 0≠i:=fun j hj e h1 h2=>by
      rw[come_ne e]at h1;have h3:con.getD j 0≠i:=fun e'=>by rw[e',come_same]at h2;cases h2
      rw[come_ne h3]at h2;exact⟨h1,h2,h3⟩
     have apart:∀j,j<n→L j=true→L (con.getD j 0)=false→con.getD j 0≠i→∀k,fp j (u (s j)) w8 k→¬ ∃j',con.getD j' 0=i∧j' < i∧fp j' (u (s j')) w8 k:=fun j hj h1 h2 h3 k hk hx=>by
      obtain⟨j',hj',hji,hk'⟩:=hx;exact hdis j j' hj Om (fun e=>h3 (by rw[e];exact hj')) h1 h2 (used j' hj' hji) (by rw[hj'];exact hLi) k hk hk'
     have sub:∀j,j<n→L j=true→L (con.getD j 0)=false→con.getD j 0≠i→∀k,fp j (u (s j)) w' k→fp j (u (s j)) w8 k:=fun j hj h1 h2 h3=>by
      obtain⟨hp,hk⟩:=hφ j hj h1 h2;exact(stable j _ _ _ hb (fun k hk'=>⟨(hk k hk').2,hc.block k (hk k hk').2 (apart j hj h1 h2 h3 k hk')⟩) hp).2
     refine⟨hS8.trans hb,fun j hj h1 h2=>?_,fun j j' hj hj' hne h1 h2 h1' h2' k hk=>?_⟩
     · by_cases e:j=i
       · subst e;rw[upd_same];refine⟨hv,fun k hk=>⟨?_,(hf k hk).1⟩⟩;rcases (hf k hk).2 with hx|hx
         · exact hXW k hx
         exact Nat.le_trans hS8.size hx
       obtain⟨h1,h2,h3⟩:=alive j hj e h1 h2;rw[upd_ne _ _ (fun e'=>e (hinj j i Om hi e'))];obtain⟨hp,hk⟩:=hφ j hj h1 h2;obtain⟨hp',hsub⟩:=stable j _ _ _ hb (fun k hk'=>⟨(hk k hk').2,hc.block k (hk k hk').2 (apart j hj h1 h2 h3 k hk')⟩) hp;exact⟨hp',fun k hk'=>⟨(hk k (hsub k hk')).1,Nat.lt_of_lt_of_le (hk k (hsub k hk')).2 hc.size⟩⟩
     by_cases e:j=i
     · subst e;have e':j'≠j:=fun e=>hne e.symm;obtain⟨h1',h2',h3'⟩:=alive j' hj' e' h1' h2';rw[upd_same]at hk;rw[upd_ne _ _ (fun e''=>e' (hinj j' j Om hi e''))];intro hk';have hk' := sub j' hj' h1' h2' h3' k hk';rcases (hf k hk).2 with hx|hx
       · exact apart j' hj' h1' h2' h3' k hk' hx
       have:=((hφ j' hj' h1' h2').2 k hk').2;omega
     obtain⟨g1,g2,g3⟩:=alive j hj e h1 h2;rw[upd_ne _ _ (fun e''=>e (hinj j i Om hi e''))]at hk;have hk:=sub j hj g1 g2 g3 k hk;by_cases e':j' = i
     · subst e';rw[upd_same];intro hk';rcases (hf k hk').2 with hx|hx
       · exact apart j hj g1 g2 g3 k hk hx
       have:=((hφ j hj g1 g2).2 k hk).2;omega
     obtain⟨h1',h2',h3'⟩:=alive j' hj' e' h1' h2';rw[upd_ne _ _ (fun e''=>e' (hinj j' i Om hi e''))];exact fun hk'=>hdis j j' hj hj' hne g1 g2 h1' h2' k hk (sub j' hj' h1' h2' h3' k hk')
   have e:i=n:=by omega
   subst e;obtain⟨o,ho,h⟩:=pre u w8 hS8 (fun j hj hji=>hφ j hji (used j hj hji) (by rw[hj];exact hLi));refine⟨o,ho,fun K' hK=>h K' fun v w' hv=>hK.out v w' ⟨hcl',fun _=>?_,fun h1=>?_⟩⟩
   · rw[upd_same];exact hv
   rw[come_same]at h1;cases h1
 intro L u w8 hall hI;exact last u w8 (hI.2.1 (hall n Om))
end Go.Proofs.YtcnoemjeijjnjaaGreat.drawnLin
