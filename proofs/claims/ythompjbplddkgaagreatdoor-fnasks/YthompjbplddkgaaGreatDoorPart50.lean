import Derived.Test.YthompjbplddkgaaGreatDoorNetDraw
import Derived.ProofKit
import Derived.OpenShut
import Derived.ShutString
import Derived.ChangeOld
import Derived.Lib.SmallJoins
import Derived.Deep.Slices
set_option linter.unusedVariables false
namespace Go.Proofs.YthompjbplddkgaaGreatDoor.netOf
open Go.RowKit Go.Deep Go base names netSem intsOwn source netMath netDraw
theorem fro_of {w w':World} {b x:Nat} (h:w'.heap[b]? = w.heap[b]?):w'.frozen? ⟨b,x,none⟩=w.frozen? ⟨b,x,none⟩:=by simp [World.frozen?,h]
theorem cel_of {w w':World} {b x:Nat} {v:Value} (h:w'.heap[b]? = w.heap[b]?) (hc:w.cell? ⟨b,x,none⟩=some v):w'.cell? ⟨b,x,none⟩=some v:=(World.cell?_of_block (a:=⟨b,x,none⟩) h).trans hc
set_option maxHeartbeats 1600000 in
set_option maxRecDepth 8000 in
theorem netOf_spec (a:Option Addr) (len cap:Nat) (w:World) (hb:Bytes w a len) (hl:len≤1048576) :
  Calls Tryz.prog 4 #[.slice a len cap] w fun e' w'=>∃ (p:Nat→Option Addr) (l c:Nat→Nat) (g:R) (o e:List Int) (x f:R),e' = .returned (netV p l c)∧NetIs w' p l sN g o e x f∧netB l sN g o e x f=true∧(l 0≤c 0∧l 1≤c 1)∧Below w.heap.size w w' := by
 have HB:=hid hb
 clear hb
 go_enter Tryz.func4,Tryz.ntmps4
 go_wp2_with fail
 have HA:Hid (Below w.heap.size w (w.alloc (.cells #[.slice none 0 0,.slice none 0 0,.slice none 0 0,.slice none 0 0,.slice none 0 0,.slice none 0 0] 29))):=Bl
 refine (source_spec a len cap _ (fun i hi=>by
  obtain ⟨bb,off,e,x,hx,hc⟩:=HB.out i hi
  exact ⟨bb,off,e,x,hx,keep HA.out hc⟩) hl).mono ?_
 rintro e' w1 ⟨b,rfl,hbe,hb1,hs,hbel⟩
 have hbb:w.heap.size<b:=by rw [hbe];simp
 have HS:=hid hs
 have hd:∀ i,i<6→w1.cell? ⟨w.heap.size,i,none⟩=some (.slice none 0 0):=fun i hi=>keep hbel (by
  match i,hi with
  | 0,_=>simp [go_sem]
  | 1,_=>simp [go_sem]
  | 2,_=>simp [go_sem]
  | 3,_=>simp [go_sem]
  | 4,_=>simp [go_sem]
  | 5,_=>simp [go_sem]
  | i+6,hi=>exact absurd hi (by omega))
 have hfz:∀ x,w1.frozen? ⟨w.heap.size,x,none⟩=false:=fun x=>(hbel.frozen (p:=⟨w.heap.size,x,none⟩) (by simp)).trans (by simp [go_sem])
 have HD:=hid hd
 have HFz:=hid hfz
 have HB1:=hid (HA.out.trans (hbel.mono (by simp)))
 have hw1:w.heap.size<w1.heap.size:=by omega
 clear hs hbel hbe hd hfz
 go_wp2_with fail
 refine (net_src b a len cap _ HS.out).mono ?_
 rintro e' w2 ⟨p,l,c,g,o,e,x,f,rfl,hn,hnb,hc0,hc1,-,hg⟩
 have hbl:w2.heap[w.heap.size]? = w1.heap[w.heap.size]?:=hg.block _ hw1 (fun e=>by injection e with e;omega)
 have d0:=cel_of hbl (HD.out 0 (by omega))
 have d1:=cel_of hbl (HD.out 1 (by omega))
 have d2:=cel_of hbl (HD.out 2 (by omega))
 have d3:=cel_of hbl (HD.out 3 (by omega))
 have d4:=cel_of hbl (HD.out 4 (by omega))
 have d5:=cel_of hbl (HD.out 5 (by omega))
 have z0:=(fro_of hbl).trans (HFz.out 0)
 have z1:=(fro_of hbl).trans (HFz.out 1)
 have z2:=(fro_of hbl).trans (HFz.out 2)
 have z3:=(fro_of hbl).trans (HFz.out 3)
 have z4:=(fro_of hbl).trans (HFz.out 4)
 have z5:=(fro_of hbl).trans (HFz.out 5)
 have HB2:Hid (Below w.heap.size w w2):=⟨hg.os.trans HB1.out.os,hg.tape.trans HB1.out.tape,hg.output.trans HB1.out.output,Nat.le_trans HB1.out.size hg.size,fun j hj=>(hg.block j (by omega) (fun e=>by injection e with e;omega)).trans (HB1.out.block j hj)⟩
 have HN:=hid hn
 have HNb:=hid hnb
 have HC:=hid (And.intro hc0 hc1)
 clear hn hnb hc0 hc1 hg hbl
 unfold netV
 go_wp2
 refine bodyPost_ret (v:=netV p l c) (by simp [results,Tryz.results4,go_sem,d0,d1,d2,d3,d4,d5,netV]) rfl ?_
 have hk1:∀ (W:World) (o:Nat) (v:Value) (q:Nat),q≠w.heap.size→(W.setCell ⟨w.heap.size,o,none⟩ v).heap[q]? = W.heap[q]?:=fun W o v q hq=>Below.heap_setCell _ _ _ _ (by dsimp only;exact hq)
 refine ⟨p,l,c,g,o,e,x,f,rfl,HN.out _ (fun q h1 h2=>?_),HNb.out,HC.out,?_⟩
 · have hq:q≠w.heap.size:=by omega
   rw [hk1 _ _ _ q hq,hk1 _ _ _ q hq,hk1 _ _ _ q hq,hk1 _ _ _ q hq,hk1 _ _ _ q hq,hk1 _ _ _ q hq]
 · exact ((((((HB2.out.setCell (Nat.le_refl _) _).setCell (Nat.le_refl _) _).setCell (Nat.le_refl _) _).setCell (Nat.le_refl _) _).setCell (Nat.le_refl _) _).setCell (Nat.le_refl _) _)
end Go.Proofs.YthompjbplddkgaaGreatDoor.netOf
namespace Go.Proofs.YthompjbplddkgaaGreatDoor.args
open Go.ChangeShapes Go.WideShapes Go.ChangeAt Go.RowKit Go.Deep Go.Joins base
variable {H : Type} {enc : TypeId × Value→H} {P : Program} {w : World} {base : Nat} {held : Bool}
theorem at_none {x:Addr} {i:Nat} {v v0:Value} (h0:w.cell? (x.add 0)=some v0) (h:w.cell? (x.add i)=some v):x=⟨x.block,x.off,none⟩∧w.cell? ⟨x.block,x.off+i,none⟩=some v:=by
 have hs:=World.cell?_spot h0
 obtain ⟨b,o,s⟩:=x
 have hs':s=none:=by simpa [Addr.add] using hs
 subst hs'
 refine ⟨rfl,?_⟩
 by_cases e:i=0
 · subst e;simpa [Addr.add] using h
 · simpa [Addr.add,e] using h
end Go.Proofs.YthompjbplddkgaaGreatDoor.args
namespace Go.Proofs.YthompjbplddkgaaGreatDoor.byteArgs
open Go.ChangeShapes Go.WideShapes Go.ChangeAt Go.RowKit Go.Deep Go.Joins base args
theorem bytes_of_trod {H:Type} {enc:TypeId × Value→H} {P:Program} {w:World} {base:Nat} {held:Bool} {t e:TypeId} {fuel:Nat} {v:Value} {x:DataW H × List MemPlace} (ht:P.underlying t=some (.slice e)) (he:P.underlying e=some (.int .u8)) (ce:P.cellsOf e=1)
  (h:DataW.trod enc P w base (fun _=>true) held fuel t [v]=some x):∃ a len cap,v=.slice a len cap∧source.Bytes w a len∧len≤maxLen:=by
 rcases open_ints ht he ce h with ⟨hcs,_⟩|⟨x,l,c,zs,hcs,_,hl,hm,hz,_,hcell,hwz⟩
 · exact ⟨none,0,0,by simpa using hcs,fun i hi=>absurd hi (Nat.not_lt_zero _),Nat.zero_le _⟩
 · simp only [if_true] at hz
   refine ⟨some x,l,c,by simpa using hcs,fun i hi=>?_,Nat.le_trans hl hm⟩
   obtain ⟨e1,e2⟩:=at_none (hcell 0 (by omega)) (hcell i (by omega))
   have hi':i<zs.length:=by omega
   have hw:=hwz zs[i] (List.getElem_mem hi')
   have hr:0≤zs[i]∧zs[i]<256:=by
    simp [Lit.wf,IntKind.min,IntKind.max,IntKind.bits,IntKind.signed] at hw
    omega
   obtain ⟨y,hy⟩:=Int.eq_ofNat_of_zero_le hr.1
   refine ⟨x.block,x.off,by rw [← e1],y,by omega,?_⟩
   rw [e2,List.getD_eq_getElem?_getD,List.getElem?_eq_getElem hi',Option.getD_some,hy]
end Go.Proofs.YthompjbplddkgaaGreatDoor.byteArgs
