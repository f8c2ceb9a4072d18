import Derived.Test.YthompjbplddkgaaGreatDoorPart12
import Derived.Laws.ResultCell
import Derived.BigRegion
set_option linter.unusedVariables false
namespace Go.Proofs.YthompjbplddkgaaGreatDoor.askSpec
open Go.RowKit Go.Deep Go base names drawn netSem netSpec numbers askWords askSem
theorem results_cell_two {fn:Func} {p u v:Tmp} {ty:TypeId} (h:fn.results=#[.cell p ty,.tmp u,.tmp v]) (tmps:Array Value) (P:Program) (w:World) :
  (results fn tmps).run P w =
   ((asAddr (tmps.getD p undef)).run P w).andThen fun a w₁=>((loadVar ty a).run P w₁).andThen fun x w₂=>.ok (.tuple #[x,tmps.getD u undef,tmps.getD v undef]) w₂:=by
 simp only [results,h]
 simp [Sem.run_bind,Result.andThen]
def pc (k f p y : Int) (i : Nat) : Value := match i with
 | 0=>.int .i64 k
 | 1=>.int .i64 f
 | 2=>.int .i64 p
 | _=>.int .i64 y
theorem prow_new (w:World) (k f p y:Int):(w.alloc (.cells #[.int .i64 k,.int .i64 f,.int .i64 p,.int .i64 y] 33)).rowIs w.heap.size 33 4 (pc k f p y) :=
 World.rowIs_alloc w #[.int .i64 k,.int .i64 f,.int .i64 p,.int .i64 y] 33 (pc k f p y) (fun i hi=>by
  match i,hi with
  | 0,_=>rfl
  | 1,_=>rfl
  | 2,_=>rfl
  | 3,_=>rfl
  | i+4,hi=>exact absurd hi (by simp))
theorem prow_cells {w:World} {N:Nat} {k f p y:Int} (h:w.rowIs N 33 4 (pc k f p y)):w.cell? ⟨N,0,none⟩=some (.int .i64 k)∧w.cell? ⟨N,1,none⟩=some (.int .i64 f)∧w.cell? ⟨N,2,none⟩=some (.int .i64 p)∧w.cell? ⟨N,3,none⟩=some (.int .i64 y) :=
 ⟨h.cell (i:=0) (by omega),h.cell (i:=1) (by omega),h.cell (i:=2) (by omega),h.cell (i:=3) (by omega)⟩
theorem prow_set {w:World} {N:Nat} {a b c d k f p y:Int} (h:w.rowIs N 33 4 (pc a b c d)):((((w.setCell ⟨N,0,none⟩ (.int .i64 k)).setCell ⟨N,1,none⟩ (.int .i64 f)).setCell ⟨N,2,none⟩ (.int .i64 p)).setCell ⟨N,3,none⟩ (.int .i64 y)).rowIs N 33 4 (pc k f p y):=by
 refine World.rowIs.congr ((((h.set 0 _).set 1 _).set 2 _).set 3 _) fun i hi=>?_
 match i,hi with
 | 0,_=>rfl
 | 1,_=>rfl
 | 2,_=>rfl
 | 3,_=>rfl
 | i+4,hi=>exact absurd hi (by omega)
theorem prow_way {w:World} {N:Nat} {a b c d:Int} (y:Int) (h:w.rowIs N 33 4 (pc a b c d)):(w.setCell ⟨N,3,none⟩ (.int .i64 y)).rowIs N 33 4 (pc a b c y):=by
 refine World.rowIs.congr (h.set 3 _) fun i hi=>?_
 match i,hi with
 | 0,_=>rfl
 | 1,_=>rfl
 | 2,_=>rfl
 | 3,_=>rfl
 | i+4,hi=>exact absurd hi (by omega)
theorem prow_port {w:World} {N:Nat} {a b c d:Int} (y:Int) (h:w.rowIs N 33 4 (pc a b c d)):(w.setCell ⟨N,2,none⟩ (.int .i64 y)).rowIs N 33 4 (pc a b y d):=by
 refine World.rowIs.congr (h.set 2 _) fun i hi=>?_
 match i,hi with
 | 0,_=>rfl
 | 1,_=>rfl
 | 2,_=>rfl
 | 3,_=>rfl
 | i+4,hi=>exact absurd hi (by omega)
theorem far {w:World} {b N o q:Nat} {v x:Value} (h:b≠N) (hc:w.cell? ⟨b,o,none⟩=some x):(w.setCell ⟨N,q,none⟩ v).cell? ⟨b,o,none⟩=some x:=by
 rw [World.cell?_of_block (w:=w) (a:=⟨b,o,none⟩) (heap_setCell_other w ⟨N,q,none⟩ b v h)]
 exact hc
def viaR (nm : Wd→Int) (f : Int) : List Wd→askSem.Ask
 | x::y::r=>if x=wVia then (if nm y<0 then bad 9 else fin0 ⟨3,f,-1,nm y,0,0⟩ r) else bad 4
 | _=>bad 4
theorem via_three (nm:Wd→Int) (f:Int) (R:List Wd):viaA nm ⟨3,f,-1,0,0,0⟩ R=viaR nm f R:=by
 unfold viaA
 rw [if_pos rfl]
 rcases R with _|⟨x,_|⟨y,r⟩⟩
 · rfl
 · rfl
 · rfl
def NewP (B : Nat) (w : World) (v : Value) : Prop := ∃ N,v=.pointer (some ⟨N,0,none⟩)∧B≤N∧w.rowIs N 33 4 (pc 0 0 0 0)
theorem NewP.below {B:Nat} {w w':World} {v:Value} (h:NewP B w v) (hb:Below w.heap.size w w'):NewP B w' v:=by
 obtain ⟨N,e,hN,hr⟩:=h
 exact ⟨N,e,hN,hr.of_block (hb.block _ hr.lt)⟩
def KindV (w : World) (v : Value) : Prop := ∃ N,v=.slice (some ⟨N,0,none⟩) 5 5∧StrRow w (some ⟨N,0,none⟩) 5 kS
theorem KindV.below {w w':World} {v:Value} (h:KindV w v) (hb:Below w.heap.size w w'):KindV w' v:=by
 obtain ⟨N,e,hr⟩:=h
 exact ⟨N,e,hr.below hb⟩theorem kinds {w:World} {N:Nat} (h0:w.cell? ⟨N,0,none⟩=some (.string ⟨#[]⟩)) (h1:w.cell? ⟨N,1,none⟩=some (.string ⟨#[114,101,97,99,104]⟩)) (h2:w.cell? ⟨N,2,none⟩=some (.string ⟨#[110,101,118,101,114]⟩)) (h3:w.cell? ⟨N,3,none⟩=some (.string ⟨#[119,97,121]⟩)) (h4:w.cell? ⟨N,4,none⟩=some (.string ⟨#[111,119,110]⟩)):StrRow w (some ⟨N,0,none⟩) 5 kS :=
 ⟨by unfold maxLen;omega,fun i hi=>by
  match i,hi with
  | 0,_=>decide
  | 1,_=>decide
  | 2,_=>decide
  | 3,_=>decide
  | 4,_=>decide,fun i hi=>⟨N,0,rfl,by
  match i,hi with
  | 0,_=>exact h0
  | 1,_=>exact h1
  | 2,_=>exact h2
  | 3,_=>exact h3
  | 4,_=>exact h4⟩⟩
set_option maxHeartbeats 25600000 in
set_option maxRecDepth 8000 in
theorem ask_spec (p:Nat→Option Addr) (l c:Nat→Nat) (s:Ss) (a:Option Addr) (cw:Nat) (W:List Wd) (w:World) (hs:StrRow w (p 0) (l 0) s) (ht:TRow w.heap.size w a cw W) :
  Calls Tryz.prog 19 #[netV p l c,.slice a W.length cw] w fun e w'=>e=.returned (askV (askA (fun x=>nameAt s (l 0) (piece x)) W))∧Below w.heap.size w w' := by
 have HS:=hid hs
 have HT:=hid ht
 have hcap:=ht.cap
 have hmost:=ht.most
 unfold maxLen at hmost
 clear hs ht
 unfold netV
 by_cases hlen:W.length<3
 · have HA : Hid (askA (fun x => nameAt s (l 0) (piece x)) W = bad 4) := by
    show _=_
    rcases W with _|⟨x,_|⟨y,_|⟨z,R⟩⟩⟩
    · rfl
    · rfl
    · rfl
    · simp at hlen;omega
   have hd:decide ((W.length:Int)<3)=true:=decide_eq_true (by omega)
   rw [HA.out]
   clear HA
   go_enter Tryz.func19,Tryz.ntmps19
   go_wp2
   refine bodyPost_ret (v:=askV (bad 4)) (by rw [results_cell_two rfl];go_simp;rfl) rfl ?_
   exact ⟨rfl,Bl⟩
 · obtain ⟨x, y, z, R, rfl⟩ : ∃ x y z R, W = x :: y :: z :: R := by
    rcases W with _|⟨x,_|⟨y,_|⟨z,R⟩⟩⟩
    · simp at hlen
    · simp at hlen
    · simp at hlen
    · exact ⟨x,y,z,R,rfl⟩
   obtain ⟨g,off,rfl,hg,hc0⟩:=HT.out.head
   obtain ⟨g1,off1,e1,-,hc1⟩:=HT.out.cell 1 y rfl
   obtain ⟨g2,off2,e2,-,hc2⟩:=HT.out.cell 2 z rfl
   simp only [Option.some.injEq,Addr.mk.injEq,and_true] at e1 e2
   obtain ⟨rfl,rfl⟩:=e1
   obtain ⟨rfl,rfl⟩:=e2
   have hn:(x::y::z::R).length=R.length+3:=rfl
   rw [hn] at hcap ⊢
   have hd:decide ((R.length:Int)+3<3)=false:=decide_eq_false (by omega)
   clear hlen hn
   have hg1:g<w.heap.size+1:=by omega
   have hg2:g<w.heap.size+1+1:=by omega
   have HA:Hid (askA (fun x=>nameAt s (l 0) (piece x)) (x::y::z::R)=if x=wVerify then (if nameAt kS 5 (piece y)<1 then bad 4 else if nameAt s (l 0) (piece z)<0 then bad 9 else viaA (fun x=>nameAt s (l 0) (piece x)) ⟨nameAt kS 5 (piece y),nameAt s (l 0) (piece z),-1,0,0,0⟩ R) else bad 4):=rfl
   rw [HA.out]
   clear HA
   by_cases hx:x=wVerify
   · subst hx
     have hq:((piece wVerify).toList == [118,101,114,105,102,121])=true:=by rw [piece_ne];rfl
     rw [if_pos rfl]
     generalize piece wVerify=X at *
     generalize piece y=Y at *
     generalize piece z=Z at *
     obtain ⟨KD,hKD⟩:∃ KD,nameAt kS 5 Y=KD:=⟨_,rfl⟩
     obtain ⟨FR,hFR⟩:∃ FR,nameAt s (l 0) Z=FR:=⟨_,rfl⟩
     have HKD:=hid hKD
     have HFR:=hid hFR
     rw [hKD,hFR]
     clear hKD hFR
     obtain ⟨AN,hAN⟩:∃ AN,(if KD<1 then bad 4 else if FR<0 then bad 9 else viaA (fun x=>nameAt s (l 0) (piece x)) ⟨KD,FR,-1,0,0,0⟩ R)=AN:=⟨_,rfl⟩
     have HAN:=hid hAN.symm
     rw [hAN]
     clear hAN
     go_enter Tryz.func19,Tryz.ntmps19
     go_wp2_with fail
     have HW:Hid (∀ w8:World,Below (((w.alloc (.cells #[.slice (p 0) (l 0) (c 0),.slice (p 1) (l 1) (c 1),.slice (p 2) (l 2) (c 2),.slice (p 3) (l 3) (c 3),.slice (p 4) (l 4) (c 4),.slice (p 5) (l 5) (c 5)] 29)).alloc (.cells #[.int .i64 0,.int .i64 0,.int .i64 0,.int .i64 0] 33)).alloc (.cells #[.int .i64 0,.int .i64 0,.int .i64 0,.int .i64 0] 33)).heap.size (((w.alloc (.cells #[.slice (p 0) (l 0) (c 0),.slice (p 1) (l 1) (c 1),.slice (p 2) (l 2) (c 2),.slice (p 3) (l 3) (c 3),.slice (p 4) (l 4) (c 4),.slice (p 5) (l 5) (c 5)] 29)).alloc (.cells #[.int .i64 0,.int .i64 0,.int .i64 0,.int .i64 0] 33)).alloc (.cells #[.int .i64 0,.int .i64 0,.int .i64 0,.int .i64 0] 33)) w8→w8.cell? ⟨w.heap.size,0,none⟩=some (.slice (p 0) (l 0) (c 0))∧w8.cell? ⟨g,off+1,none⟩=some (.string Y)∧w8.cell? ⟨g,off+2,none⟩=some (.string Z)∧StrRow w8 (p 0) (l 0) s∧TRow w.heap.size w8 (some ⟨g,off,none⟩) cw (wVerify::y::z::R)∧w8.rowIs (w.heap.size+1) 33 4 (pc 0 0 0 0)∧w8.rowIs (w.heap.size+1+1) 33 4 (pc 0 0 0 0)∧Below w.heap.size w w8):=hid (fun w8 hb=>by
      have hb0:Below w.heap.size w (((w.alloc (.cells #[.slice (p 0) (l 0) (c 0),.slice (p 1) (l 1) (c 1),.slice (p 2) (l 2) (c 2),.slice (p 3) (l 3) (c 3),.slice (p 4) (l 4) (c 4),.slice (p 5) (l 5) (c 5)] 29)).alloc (.cells #[.int .i64 0,.int .i64 0,.int .i64 0,.int .i64 0] 33)).alloc (.cells #[.int .i64 0,.int .i64 0,.int .i64 0,.int .i64 0] 33)):=Bl
      have hb8:=hb0.trans (hb.mono hb0.size)
      have hrow1:=prow_new (w.alloc (.cells #[.slice (p 0) (l 0) (c 0),.slice (p 1) (l 1) (c 1),.slice (p 2) (l 2) (c 2),.slice (p 3) (l 3) (c 3),.slice (p 4) (l 4) (c 4),.slice (p 5) (l 5) (c 5)] 29)) 0 0 0 0
      have hrow2:=prow_new ((w.alloc (.cells #[.slice (p 0) (l 0) (c 0),.slice (p 1) (l 1) (c 1),.slice (p 2) (l 2) (c 2),.slice (p 3) (l 3) (c 3),.slice (p 4) (l 4) (c 4),.slice (p 5) (l 5) (c 5)] 29)).alloc (.cells #[.int .i64 0,.int .i64 0,.int .i64 0,.int .i64 0] 33)) 0 0 0 0
      rw [World.size_alloc] at hrow1
      rw [World.size_alloc,World.size_alloc] at hrow2
      have hrow1:(((w.alloc (.cells #[.slice (p 0) (l 0) (c 0),.slice (p 1) (l 1) (c 1),.slice (p 2) (l 2) (c 2),.slice (p 3) (l 3) (c 3),.slice (p 4) (l 4) (c 4),.slice (p 5) (l 5) (c 5)] 29)).alloc (.cells #[.int .i64 0,.int .i64 0,.int .i64 0,.int .i64 0] 33)).alloc (.cells #[.int .i64 0,.int .i64 0,.int .i64 0,.int .i64 0] 33)).rowIs (w.heap.size+1) 33 4 (pc 0 0 0 0):=World.rowIs.of_block hrow1 (Below.block ((Below.refl _ _).alloc (Nat.le_refl _) _) _ (by simp))
      exact ⟨keep hb (by simp [go_sem]),keep hb8 hc1,keep hb8 hc2,HS.out.below hb8,HT.out.under hb8,World.rowIs.of_block hrow1 (hb.block _ (by simp)),World.rowIs.of_block hrow2 (hb.block _ (by simp)),hb8⟩)
     have hz8:(((w.alloc (.cells #[.slice (p 0) (l 0) (c 0),.slice (p 1) (l 1) (c 1),.slice (p 2) (l 2) (c 2),.slice (p 3) (l 3) (c 3),.slice (p 4) (l 4) (c 4),.slice (p 5) (l 5) (c 5)] 29)).alloc (.cells #[.int .i64 0,.int .i64 0,.int .i64 0,.int .i64 0] 33)).alloc (.cells #[.int .i64 0,.int .i64 0,.int .i64 0,.int .i64 0] 33)).heap.size=w.heap.size+3:=by simp
     clear hc0 hc1 hc2 hg1 hg2 HS HT
     generalize (((w.alloc (.cells #[.slice (p 0) (l 0) (c 0),.slice (p 1) (l 1) (c 1),.slice (p 2) (l 2) (c 2),.slice (p 3) (l 3) (c 3),.slice (p 4) (l 4) (c 4),.slice (p 5) (l 5) (c 5)] 29)).alloc (.cells #[.int .i64 0,.int .i64 0,.int .i64 0,.int .i64 0] 33)).alloc (.cells #[.int .i64 0,.int .i64 0,.int .i64 0,.int .i64 0] 33))=W8 at *
     refine region_below (fun u=>⟨#[.agg #[.slice (p 0) (l 0) (c 0),.slice (p 1) (l 1) (c 1),.slice (p 2) (l 2) (c 2),.slice (p 3) (l 3) (c 3),.slice (p 4) (l 4) (c 4),.slice (p 5) (l 5) (c 5)],.slice (some ⟨g,off,none⟩) (R.length+3) cw,.pointer (some ⟨w.heap.size,0,none⟩),undef,.pointer (some ⟨w.heap.size+1,0,none⟩),.int .i64 0,.int .i64 0,.pointer (some ⟨w.heap.size+1+1,0,none⟩),u 8,undef,undef,undef,undef,undef,undef,undef,.agg #[.int .i64 0,.int .i64 0,.int .i64 0,.int .i64 0],.slice (some ⟨g,off,none⟩) (R.length+3) cw,.int .i64 ((R.length:Int)+3),.bool false,.bool false,.slice (some ⟨g,off,none⟩) (R.length+3) cw,.pointer (some ⟨g,off,none⟩),.string X,.bool false,.bool false,undef,u 27,u 28,u 29,u 30,u 31,u 32,u 33,u 34,u 35,u 36,u 37,u 38,undef,undef,undef,undef,undef,undef,undef,undef,undef,undef,undef,undef,undef,undef,undef,undef,undef,undef,undef,undef,undef,undef,undef,undef,undef,undef,undef,undef,undef,undef,undef,undef,undef,undef,undef,undef,undef,undef,undef,undef,undef,undef,undef,undef,undef,undef,undef,undef,undef,undef,undef,undef,undef,undef,undef,undef,undef,undef,undef,undef,undef,undef,undef,undef,undef,undef,undef,undef,undef,undef,undef,undef,undef,undef,undef,undef,undef,undef,undef,undef,undef,undef,undef,undef,undef,undef],[]⟩) (fun i=>[27,28,29,30,31,32,33,34,35,36,37,38,8].getD i 0) (fun i v w8=>match i with|0=>KindV w8 v|1=>v=.slice (some ⟨g,off,none⟩) (R.length+3) cw|2=>v=.pointer (some ⟨g,off+1,none⟩)|3=>v=.string Y|4=>v=.int .i64 KD|5=>v=.pointer (some ⟨w.heap.size,0,none⟩)|6=>v=.slice (p 0) (l 0) (c 0)|7=>v=.slice (some ⟨g,off,none⟩) (R.length+3) cw|8=>v=.pointer (some ⟨g,off+2,none⟩)|9=>v=.string Z|10=>v=.int .i64 FR|11=>v=.agg #[.int .i64 KD,.int .i64 FR,.int .i64 (-1),.int .i64 0]|12=>NewP W8.heap.size w8 v|_=>True) W8 13 (fun k=>match k with|27=>undef|28=>undef|29=>undef|30=>undef|31=>undef|32=>undef|33=>undef|34=>undef|35=>undef|36=>undef|37=>undef|38=>undef|8=>undef|_=>undef) (by rfl) (by kernel_rfl) (by rfl) ⟨by kernel_rfl,by kernel_rfl,by kernel_rfl,by decide⟩ (by kernel_rfl) (Below.refl _ _) ?hput ?hinj ?stable ?step ?last
     case hput =>
      intro i hi u v
      match i,hi with
      | 0,_=>rfl
      | 1,_=>rfl
      | 2,_=>rfl
      | 3,_=>rfl
      | 4,_=>rfl
      | 5,_=>rfl
      | 6,_=>rfl
      | 7,_=>rfl
      | 8,_=>rfl
      | 9,_=>rfl
      | 10,_=>rfl
      | 11,_=>rfl
      | 12,_=>rfl
      | i+13,hi=>exact absurd hi (by omega)
     case hinj =>
      intro i j hi hj h
      exact slots_inj [27,28,29,30,31,32,33,34,35,36,37,38,8] (by decide) hi hj h
     case stable =>
      intro i v w8 w9 hb h
      match i,h with
      | 0,h=>exact h.below hb
      | 1,h=>exact h
      | 2,h=>exact h
      | 3,h=>exact h
      | 4,h=>exact h
      | 5,h=>exact h
      | 6,h=>exact h
      | 7,h=>exact h
      | 8,h=>exact h
      | 9,h=>exact h
      | 10,h=>exact h
      | 11,h=>exact h
      | 12,h=>exact h.below hb
      | _+13,h=>trivial
     case step =>
      intro i hi u w8 S8 hdep
      match i,hi with
      | 0,_ =>
       clear hdep
       refine ⟨_,rfl,fun K' hK=>?_⟩
       go_simp
       exact hK.out _ _ Bl ⟨w8.heap.size,rfl,kinds (by simp [go_sem]) (by simp [go_sem]) (by simp [go_sem]) (by simp [go_sem]) (by simp [go_sem])⟩
      | 1,_ =>
       clear hdep
       refine ⟨_,rfl,fun K' hK=>?_⟩
       go_simp
       exact hK.out _ _ (Below.refl _ _) rfl
      | 2,_ =>
       have h1:(u 28)=.slice (some ⟨g,off,none⟩) (R.length+3) cw:=hdep 1 (by kernel_rfl)
       clear hdep
       refine ⟨_,rfl,fun K' hK=>?_⟩
       have i1:(1:Int)<(R.length:Int)+3:=by omega
       simp only [h1] at hK ⊢
       go_simp
       exact hK.out _ _ (Below.refl _ _) rfl
      | 3,_ =>
       have h2:(u 29)=.pointer (some ⟨g,off+1,none⟩):=hdep 2 (by kernel_rfl)
       clear hdep
       refine ⟨_,rfl,fun K' hK=>?_⟩
       obtain ⟨q0,q1,q2,-⟩:=HW.out w8 S8
       simp only [h2] at hK ⊢
       go_simp
       exact hK.out _ _ (Below.refl _ _) rfl
      | 4,_ =>
       have h0:KindV w8 (u 27):=hdep 0 (by kernel_rfl)
       have h3:(u 30)=.string Y:=hdep 3 (by kernel_rfl)
       clear hdep
       refine ⟨_,rfl,fun K' hK=>?_⟩
       obtain ⟨K0,e0,hk0⟩:=h0
       simp only [e0,h3] at hK ⊢
       go_simp
       refine (place_spec _ _ _ kS Y _ hk0).mono ?_
       rintro e w9 ⟨rfl,rfl⟩
       exact hK.out _ _ (Below.refl _ _) (by rw [HKD.out])
      | 5,_ =>
       clear hdep
       refine ⟨_,rfl,fun K' hK=>?_⟩
       go_simp
       exact hK.out _ _ (Below.refl _ _) rfl
      | 6,_ =>
       have h5:(u 32)=.pointer (some ⟨w.heap.size,0,none⟩):=hdep 5 (by kernel_rfl)
       clear hdep
       refine ⟨_,rfl,fun K' hK=>?_⟩
       obtain ⟨q0,q1,q2,-⟩:=HW.out w8 S8
       simp only [h5] at hK ⊢
       go_simp
       exact hK.out _ _ (Below.refl _ _) rfl
      | 7,_ =>
       clear hdep
       refine ⟨_,rfl,fun K' hK=>?_⟩
       go_simp
       exact hK.out _ _ (Below.refl _ _) rfl
      | 8,_ =>
       have h7:(u 34)=.slice (some ⟨g,off,none⟩) (R.length+3) cw:=hdep 7 (by kernel_rfl)
       clear hdep
       refine ⟨_,rfl,fun K' hK=>?_⟩
       have i2:(2:Int)<(R.length:Int)+3:=by omega
       simp only [h7] at hK ⊢
       go_simp
       exact hK.out _ _ (Below.refl _ _) rfl
      | 9,_ =>
       have h8:(u 35)=.pointer (some ⟨g,off+2,none⟩):=hdep 8 (by kernel_rfl)
       clear hdep
       refine ⟨_,rfl,fun K' hK=>?_⟩
       obtain ⟨q0,q1,q2,-⟩:=HW.out w8 S8
       simp only [h8] at hK ⊢
       go_simp
       exact hK.out _ _ (Below.refl _ _) rfl
      | 10,_ =>
       have h6:(u 33)=.slice (p 0) (l 0) (c 0):=hdep 6 (by kernel_rfl)
       have h9:(u 36)=.string Z:=hdep 9 (by kernel_rfl)
       clear hdep
       refine ⟨_,rfl,fun K' hK=>?_⟩
       simp only [h6,h9] at hK ⊢
       go_simp
       refine (place_spec _ _ _ s Z _ (HW.out w8 S8).2.2.2.1).mono ?_
       rintro e w9 ⟨rfl,rfl⟩
       exact hK.out _ _ (Below.refl _ _) (by rw [HFR.out])
      | 11,_ =>
       have h4:(u 31)=.int .i64 KD:=hdep 4 (by kernel_rfl)
       have h10:(u 37)=.int .i64 FR:=hdep 10 (by kernel_rfl)
       clear hdep
       refine ⟨_,rfl,fun K' hK=>?_⟩
       simp only [h4,h10] at hK ⊢
       go_simp
       exact hK.out _ _ (Below.refl _ _) rfl
      | 12,_ =>
       clear hdep
       refine ⟨_,rfl,fun K' hK=>?_⟩
       go_simp
       exact hK.out _ _ Bl ⟨w8.heap.size,rfl,S8.size,prow_new w8 0 0 0 0⟩
      | i+13,hi=>exact absurd hi (by omega)
     case last =>
      intro u w8 S8 hall
      have h11:(u 38)=.agg #[.int .i64 KD,.int .i64 FR,.int .i64 (-1),.int .i64 0]:=hall 11 (by decide)
      have h12:NewP W8.heap.size w8 (u 8):=hall 12 (by decide)
      clear hall
      refine ⟨_,rfl,fun K' hK=>?_⟩
      obtain ⟨N,e8,hN,hrow⟩:=h12
      simp only [h11,e8] at hK ⊢
      obtain ⟨y0,y1,y2,y3⟩:=prow_cells hrow
      have z0:=hrow.frozen 0
      have z1:=hrow.frozen 1
      have z2:=hrow.frozen 2
      have z3:=hrow.frozen 3
      go_simp
      refine hK.out _ _ ?_
      have HO:Hid (((((w8.setCell ⟨N,0,none⟩ (.int .i64 KD)).setCell ⟨N,1,none⟩ (.int .i64 FR)).setCell ⟨N,2,none⟩ (.int .i64 (-1))).setCell ⟨N,3,none⟩ (.int .i64 0)).rowIs N 33 4 (pc KD FR (-1) 0)):=hid (prow_set hrow)
      have B9:Hid (Below W8.heap.size W8 ((((w8.setCell ⟨N,0,none⟩ (.int .i64 KD)).setCell ⟨N,1,none⟩ (.int .i64 FR)).setCell ⟨N,2,none⟩ (.int .i64 (-1))).setCell ⟨N,3,none⟩ (.int .i64 0))):=hid ((((S8.setCell (by exact hN) _).setCell (by exact hN) _).setCell (by exact hN) _).setCell (by exact hN) _)
      clear hK K' h11 y0 y1 y2 y3 z0 z1 z2 z3 hrow S8
      (try simp only [Exit.then])
      (try dsimp only at HO)
      generalize (((w8.setCell ⟨N,0,none⟩ (.int .i64 KD)).setCell ⟨N,1,none⟩ (.int .i64 FR)).setCell ⟨N,2,none⟩ (.int .i64 (-1))).setCell ⟨N,3,none⟩ (.int .i64 0)=w9 at *
      obtain ⟨t0,t1,t2,t3⟩:=prow_cells HO.out
      obtain ⟨q0,-,-,hsr,htr,hr1,hr2,hbw⟩:=HW.out w9 B9.out
      have HSr:=hid hsr
      have HTr:=hid htr
      have HBw:=hid hbw
      obtain ⟨a0,a1,a2,a3⟩:=prow_cells hr1
      obtain ⟨b0,b1,b2,b3⟩:=prow_cells hr2
      have z0:=hr1.frozen 0
      have z1:=hr1.frozen 1
      have z2:=hr1.frozen 2
      have z3:=hr1.frozen 3
      have HR1:=hid hr1
      clear hsr htr hr1 hr2 hbw
      by_cases hk1:KD<1
      · have eA:AN=bad 4:=by rw [HAN.out,if_pos hk1]
        subst eA
        have dk:decide (KD<1)=true:=decide_eq_true hk1
        go_wp2
        (try simp only [Exit.inBlock,Exit.then])
        refine bodyPost_ret (v:=askV (bad 4)) (by rw [results_cell_two rfl];go_simp;rfl) rfl ?_
        exact ⟨rfl,by have hbb:=HBw.out;exact Bl⟩
      rw [if_neg hk1] at HAN
      have dk:decide (KD<1)=false:=decide_eq_false hk1
      by_cases hf1:FR<0
      · have eA:AN=bad 9:=by rw [HAN.out,if_pos hf1]
        subst eA
        have df:decide (FR<0)=true:=decide_eq_true hf1
        go_wp2
        (try simp only [Exit.inBlock,Exit.then])
        refine bodyPost_ret (v:=askV (bad 9)) (by rw [results_cell_two rfl];go_simp;rfl) rfl ?_
        exact ⟨rfl,by have hbb:=HBw.out;exact Bl⟩
      rw [if_neg hf1] at HAN
      have df:decide (FR<0)=false:=decide_eq_false hf1
      have hwn:=HO.out.lt
      have HHead:=hid HTr.out.head
      by_cases hcw:cw=3
      · have e0:R=[]:=List.length_eq_zero_iff.1 (by omega)
        subst e0
        have HT3:Hid (TRow w.heap.size w9 (some ⟨g,off,none⟩) 0 []):=TRow.nil (Nat.zero_le _)
        by_cases hk3:KD=3
        · subst hk3
          have HV:Hid (AN=viaR (fun x=>nameAt s (l 0) (piece x)) FR (([]:List Wd))):=by
           show _=_
           exact HAN.out.trans (via_three _ _ _)
          clear HAN
          have eA:AN=bad 4:=HV.out
          subst eA
          clear HV
          go_wp2
          (try simp only [Exit.inBlock,Exit.then])
          refine bodyPost_ret (v:=askV (bad 4)) (by rw [results_cell_two rfl];go_simp;rfl) rfl ?_
          exact ⟨rfl,by have hbb:=HBw.out;exact Bl⟩
        · have dk3:(KD == 3)=false:=by simp [hk3]
          have HAN:Hid (AN=fin0 ⟨KD,FR,-1,0,0,0⟩ (([]:List Wd))):=by
           show _=_
           rw [HAN.out]
           unfold viaA
           rw [if_neg hk3]
          clear hk3
          have hNw:w.heap.size≤N:=by omega
          have hw0:w9.heap.size≠N:=by omega
          have hw1:w9.heap.size+1≠N:=by omega
          go_wp2
          clear q0 a0 a1 a2 a3 b0 b1 b2 b3 z0 z1 z2 z3 HR1 HBw t0 t1 t2 t3 HSr HTr
          go_loopw [9,10,13] (fun rest kk i wr=>∃ (I:Int) (Q:List Wd) (ar:Option Addr) (cr:Nat) (po k':Int),i=.int .i64 I∧rest=.slice ar Q.length cr∧kk=.int .i64 k'∧TRow w.heap.size wr ar cr Q∧Below W8.heap.size W8 wr∧wr.rowIs N 33 4 (pc KD FR po 0)∧(wr.cell? ⟨w9.heap.size,0,none⟩=some (.string ⟨#[112,111,114,116]⟩)∧wr.cell? ⟨w9.heap.size,1,none⟩=some (.string ⟨#[102,97,105,108]⟩)∧wr.cell? ⟨w9.heap.size+1,0,none⟩=some (.int .i64 15)∧wr.cell? ⟨w9.heap.size+1,1,none⟩=some (.int .i64 2))∧(I=0∧AN=fin0 ⟨KD,FR,po,0,k',0⟩ Q∨I=1∧AN=fin1 ⟨KD,FR,po,0,k',0⟩ Q∨I=2∧AN=fin2 ⟨KD,FR,po,0,k',0⟩ Q)) (fun _ _ i _=>2 - (intOf i).toNat)
          case atStart=>exact ⟨0,([]:List Wd),_,_,-1,0,rfl,rfl,rfl,HT3.out.under (Below.mono (show Below w9.heap.size w9 _ from Bl) (by omega)),B9.out.trans ((show Below w9.heap.size w9 _ from Bl).mono B9.out.size),World.rowIs.of_block HO.out (Below.block (show Below w9.heap.size w9 _ from Bl) _ HO.out.lt),⟨by simp [go_sem],by simp [go_sem],by simp [go_sem],by simp [go_sem]⟩,.inl ⟨rfl,HAN.out⟩⟩
          case round =>
           clear HAN
           obtain ⟨I,Q,ar,cr,po,k',rfl,rfl,rfl,htq,hbl,hro,⟨cp0,cp1,ct0,ct1⟩,hI⟩:=hrel
           have HTQ:=hid htq
           have HBl:=hid hbl
           have HRo:=hid hro
           obtain ⟨t0,t1,t2,t3⟩:=prow_cells hro
           have zp:=hro.frozen 2
           clear htq hbl hro
           obtain ⟨q0,-,-,hsr,htr,hr1,hr2,hbw⟩:=HW.out wr HBl.out
           have HSr:=hid hsr
           have HTr:=hid htr
           have HBw:=hid hbw
           obtain ⟨a0,a1,a2,a3⟩:=prow_cells hr1
           obtain ⟨b0,b1,b2,b3⟩:=prow_cells hr2
           have z0:=hr1.frozen 0
           have z1:=hr1.frozen 1
           have z2:=hr1.frozen 2
           have z3:=hr1.frozen 3
           have HR1:=hid hr1
           clear hsr htr hr1 hr2 hbw
           rcases hI with ⟨rfl,hF⟩|⟨rfl,hF⟩|⟨rfl,hF⟩
           · have HF:=hid hF
             clear hF
             rcases Q with _|⟨x,_|⟨yy,rr⟩⟩
             · have hn2:([]:List Wd).length=0:=rfl
               rw [hn2]
               go_wp2_with fail
               go_region
               go_wp2
               go_roundw
               case rel=>exact ⟨1,[],ar,cr,po,k',rfl,rfl,rfl,HTQ.out.under Bl,HBl.out.drew,World.rowIs.of_block HRo.out rfl,⟨cp0,cp1,ct0,ct1⟩,.inr (.inl ⟨rfl,HF.out⟩)⟩
               case measure=>simp [intOf]
             · have hn2:([x]:List Wd).length=1:=rfl
               rw [hn2]
               go_wp2_with fail
               go_region
               go_wp2
               go_roundw
               case rel=>exact ⟨1,[x],ar,cr,po,k',rfl,rfl,rfl,HTQ.out.under Bl,HBl.out.drew,World.rowIs.of_block HRo.out rfl,⟨cp0,cp1,ct0,ct1⟩,.inr (.inl ⟨rfl,HF.out⟩)⟩
               case measure=>simp [intOf]
             · obtain ⟨gq,oq,rfl,hgq,d0⟩:=HTQ.out.head
               obtain ⟨g1,o1,e1,-,d1⟩:=HTQ.out.cell 1 yy rfl
               simp only [Option.some.injEq,Addr.mk.injEq,and_true] at e1
               obtain ⟨rfl,rfl⟩:=e1
               have hn2:(x::yy::rr).length=rr.length+2:=rfl
               have hcr:=HTQ.out.cap
               have hcm:=HTQ.out.most
               unfold maxLen at hcm
               rw [hn2] at hcr ⊢
               have dl:decide ((rr.length:Int)+2<2)=false:=decide_eq_false (by omega)
               have i1:(1:Int)<(rr.length:Int)+2:=by omega
               have i0:(0:Int)<(rr.length:Int)+2:=by omega
               have HFx:Hid (AN=if x=wPort then (if isNum (piece yy) then (if inB (numS (piece yy)) 0 15 then fin1 ⟨KD,FR,numS (piece yy),0,k',0⟩ rr else bad 5) else bad 4) else fin1 ⟨KD,FR,po,0,k',0⟩ (x::yy::rr)):=HF.out
               clear HF
               by_cases hx:x=wPort
               · subst hx
                 rw [if_pos rfl] at HFx
                 have hq:((piece wPort).toList == [112,111,114,116])=true:=by rw [piece_ne];rfl
                 generalize piece wPort=X9 at *
                 have hsm:(piece yy).size≤maxLen:=by rw [piece_size];exact Nat.le_trans (HTQ.out.small yy (by simp)) (by unfold maxLen;omega)
                 have HSm:=hid hsm
                 clear hsm
                 go_wp2_with fail
                 go_region
                 go_wp2_with fail
                 refine (number_spec (piece yy) _ HSm.out).mono ?_
                 rintro e' w11 ⟨rfl,hw11⟩
                 have hw11:=hw11.symm
                 subst hw11
                 obtain ⟨NU,hNU⟩:∃ q,numS (piece yy)=q:=⟨_,rfl⟩
                 obtain ⟨IS,hIS⟩:∃ q,isNum (piece yy)=q:=⟨_,rfl⟩
                 rw [hNU,hIS] at HFx ⊢
                 clear hNU hIS HSm
                 cases IS with
                 | false =>
                  have eA:AN=bad 4:=HFx.out
                  subst eA
                  clear HFx
                  go_wp2
                  (try simp only [Exit.inBlock,Exit.then])
                  refine bodyPost_ret (v:=askV (bad 4)) (by rw [results_cell_two rfl];go_simp;rfl) rfl ?_
                  exact ⟨rfl,by have hbb:=HBw.out;exact Bl⟩
                 | true =>
                  rw [if_pos rfl] at HFx
                  go_wp2_with fail
                  refine (in_spec NU 0 15 _).mono ?_
                  rintro e' w12 ⟨rfl,hw12⟩
                  have hw12:=hw12.symm
                  subst hw12
                  obtain ⟨IB,hIB⟩:∃ q,inB NU 0 15=q:=⟨_,rfl⟩
                  rw [hIB] at HFx ⊢
                  clear hIB
                  cases IB with
                  | false =>
                   have eA:AN=bad 5:=HFx.out
                   subst eA
                   clear HFx
                   go_wp2
                   (try simp only [Exit.inBlock,Exit.then])
                   refine bodyPost_ret (v:=askV (bad 5)) (by rw [results_cell_two rfl];go_simp;rfl) rfl ?_
                   exact ⟨rfl,by have hbb:=HBw.out;exact Bl⟩
                  | true =>
                   rw [if_pos rfl] at HFx
                   by_cases hc2:cr=2
                   · have e0:rr=[]:=List.length_eq_zero_iff.1 (by omega)
                     subst e0
                     go_wp2
                     go_roundw
                     case rel=>exact ⟨1,[],_,0,NU,k',rfl,rfl,rfl,TRow.nil (Nat.zero_le _),HBl.out.drew.setCell (by exact hN) _,prow_port _ (World.rowIs.of_block HRo.out rfl),⟨far hw0 cp0,far hw0 cp1,far hw1 ct0,far hw1 ct1⟩,.inr (.inl ⟨rfl,HFx.out⟩)⟩
                     case measure=>simp [intOf]
                   · have HT2:Hid (TRow w.heap.size wr (some ⟨gq,oq+2,none⟩) (cr - 2) rr):=HTQ.out.tail.tail
                     go_wp2
                     go_roundw
                     case rel=>exact ⟨1,rr,_,cr - 2,NU,k',rfl,rfl,rfl,HT2.out.under ((Below.refl _ _).drew.setCell (by exact hNw) _),HBl.out.drew.setCell (by exact hN) _,prow_port _ (World.rowIs.of_block HRo.out rfl),⟨far hw0 cp0,far hw0 cp1,far hw1 ct0,far hw1 ct1⟩,.inr (.inl ⟨rfl,HFx.out⟩)⟩
                     case measure=>simp [intOf]
               · rw [if_neg hx] at HFx
                 have hq:((piece x).toList == [112,111,114,116])=false:=by rw [piece_ne];exact decide_eq_false hx
                 clear hx
                 go_wp2_with fail
                 go_region
                 go_wp2
                 go_roundw
                 case rel=>exact ⟨1,x::yy::rr,_,cr,po,k',rfl,rfl,rfl,HTQ.out.under Bl,HBl.out.drew,World.rowIs.of_block HRo.out rfl,⟨cp0,cp1,ct0,ct1⟩,.inr (.inl ⟨rfl,HFx.out⟩)⟩
                 case measure=>simp [intOf]
           · have HF:=hid hF
             clear hF
             rcases Q with _|⟨x,_|⟨yy,rr⟩⟩
             · have hn2:([]:List Wd).length=0:=rfl
               rw [hn2]
               go_wp2_with fail
               go_region
               go_wp2
               go_roundw
               case rel=>exact ⟨2,[],ar,cr,po,k',rfl,rfl,rfl,HTQ.out.under Bl,HBl.out.drew,World.rowIs.of_block HRo.out rfl,⟨cp0,cp1,ct0,ct1⟩,.inr (.inr ⟨rfl,HF.out⟩)⟩
               case measure=>simp [intOf]
             · have hn2:([x]:List Wd).length=1:=rfl
               rw [hn2]
               go_wp2_with fail
               go_region
               go_wp2
               go_roundw
               case rel=>exact ⟨2,[x],ar,cr,po,k',rfl,rfl,rfl,HTQ.out.under Bl,HBl.out.drew,World.rowIs.of_block HRo.out rfl,⟨cp0,cp1,ct0,ct1⟩,.inr (.inr ⟨rfl,HF.out⟩)⟩
               case measure=>simp [intOf]
             · obtain ⟨gq,oq,rfl,hgq,d0⟩:=HTQ.out.head
               obtain ⟨g1,o1,e1,-,d1⟩:=HTQ.out.cell 1 yy rfl
               simp only [Option.some.injEq,Addr.mk.injEq,and_true] at e1
               obtain ⟨rfl,rfl⟩:=e1
               have hn2:(x::yy::rr).length=rr.length+2:=rfl
               have hcr:=HTQ.out.cap
               have hcm:=HTQ.out.most
               unfold maxLen at hcm
               rw [hn2] at hcr ⊢
               have dl:decide ((rr.length:Int)+2<2)=false:=decide_eq_false (by omega)
               have i1:(1:Int)<(rr.length:Int)+2:=by omega
               have i0:(0:Int)<(rr.length:Int)+2:=by omega
               have HFx:Hid (AN=if x=wFail then (if isNum (piece yy) then (if inB (numS (piece yy)) 0 2 then fin2 ⟨KD,FR,po,0,numS (piece yy),0⟩ rr else bad 5) else bad 4) else fin2 ⟨KD,FR,po,0,k',0⟩ (x::yy::rr)):=HF.out
               clear HF
               by_cases hx:x=wFail
               · subst hx
                 rw [if_pos rfl] at HFx
                 have hq:((piece wFail).toList == [102,97,105,108])=true:=by rw [piece_ne];rfl
                 generalize piece wFail=X9 at *
                 have hsm:(piece yy).size≤maxLen:=by rw [piece_size];exact Nat.le_trans (HTQ.out.small yy (by simp)) (by unfold maxLen;omega)
                 have HSm:=hid hsm
                 clear hsm
                 go_wp2_with fail
                 go_region
                 go_wp2_with fail
                 refine (number_spec (piece yy) _ HSm.out).mono ?_
                 rintro e' w11 ⟨rfl,hw11⟩
                 have hw11:=hw11.symm
                 subst hw11
                 obtain ⟨NU,hNU⟩:∃ q,numS (piece yy)=q:=⟨_,rfl⟩
                 obtain ⟨IS,hIS⟩:∃ q,isNum (piece yy)=q:=⟨_,rfl⟩
                 rw [hNU,hIS] at HFx ⊢
                 clear hNU hIS HSm
                 cases IS with
                 | false =>
                  have eA:AN=bad 4:=HFx.out
                  subst eA
                  clear HFx
                  go_wp2
                  (try simp only [Exit.inBlock,Exit.then])
                  refine bodyPost_ret (v:=askV (bad 4)) (by rw [results_cell_two rfl];go_simp;rfl) rfl ?_
                  exact ⟨rfl,by have hbb:=HBw.out;exact Bl⟩
                 | true =>
                  rw [if_pos rfl] at HFx
                  go_wp2_with fail
                  refine (in_spec NU 0 2 _).mono ?_
                  rintro e' w12 ⟨rfl,hw12⟩
                  have hw12:=hw12.symm
                  subst hw12
                  obtain ⟨IB,hIB⟩:∃ q,inB NU 0 2=q:=⟨_,rfl⟩
                  rw [hIB] at HFx ⊢
                  clear hIB
                  cases IB with
                  | false =>
                   have eA:AN=bad 5:=HFx.out
                   subst eA
                   clear HFx
                   go_wp2
                   (try simp only [Exit.inBlock,Exit.then])
                   refine bodyPost_ret (v:=askV (bad 5)) (by rw [results_cell_two rfl];go_simp;rfl) rfl ?_
                   exact ⟨rfl,by have hbb:=HBw.out;exact Bl⟩
                  | true =>
                   rw [if_pos rfl] at HFx
                   by_cases hc2:cr=2
                   · have e0:rr=[]:=List.length_eq_zero_iff.1 (by omega)
                     subst e0
                     go_wp2
                     go_roundw
                     case rel=>exact ⟨2,[],_,0,po,NU,rfl,rfl,rfl,TRow.nil (Nat.zero_le _),HBl.out.drew,World.rowIs.of_block HRo.out rfl,⟨cp0,cp1,ct0,ct1⟩,.inr (.inr ⟨rfl,HFx.out⟩)⟩
                     case measure=>simp [intOf]
                   · have HT2:Hid (TRow w.heap.size wr (some ⟨gq,oq+2,none⟩) (cr - 2) rr):=HTQ.out.tail.tail
                     go_wp2
                     go_roundw
                     case rel=>exact ⟨2,rr,_,cr - 2,po,NU,rfl,rfl,rfl,HT2.out.under (Below.refl _ _).drew,HBl.out.drew,World.rowIs.of_block HRo.out rfl,⟨cp0,cp1,ct0,ct1⟩,.inr (.inr ⟨rfl,HFx.out⟩)⟩
                     case measure=>simp [intOf]
               · rw [if_neg hx] at HFx
                 have hq:((piece x).toList == [102,97,105,108])=false:=by rw [piece_ne];exact decide_eq_false hx
                 clear hx
                 go_wp2_with fail
                 go_region
                 go_wp2
                 go_roundw
                 case rel=>exact ⟨2,x::yy::rr,_,cr,po,k',rfl,rfl,rfl,HTQ.out.under Bl,HBl.out.drew,World.rowIs.of_block HRo.out rfl,⟨cp0,cp1,ct0,ct1⟩,.inr (.inr ⟨rfl,HFx.out⟩)⟩
                 case measure=>simp [intOf]
           · rcases Q with _|⟨x,rr⟩
             · have eA:AN=⟨KD,FR,po,0,k',0⟩:=hF
               subst eA
               clear hF
               go_wp2
               (try simp only [Exit.inBlock,Exit.then])
               obtain ⟨y0,y1,y2,y3⟩:=prow_cells (prow_set (k:=KD) (f:=FR) (p:=po) (y:=0) HR1.out)
               have HB20:Below w.heap.size w ((((wr.setCell ⟨w.heap.size+1,0,none⟩ (.int .i64 KD)).setCell ⟨w.heap.size+1,1,none⟩ (.int .i64 FR)).setCell ⟨w.heap.size+1,2,none⟩ (.int .i64 po)).setCell ⟨w.heap.size+1,3,none⟩ (.int .i64 0)):=by have hbb:=HBw.out;exact Bl
               generalize (((wr.setCell ⟨w.heap.size+1,0,none⟩ (.int .i64 KD)).setCell ⟨w.heap.size+1,1,none⟩ (.int .i64 FR)).setCell ⟨w.heap.size+1,2,none⟩ (.int .i64 po)).setCell ⟨w.heap.size+1,3,none⟩ (.int .i64 0)=w20 at *
               refine bodyPost_ret (v:=askV ⟨KD,FR,po,0,k',0⟩) (by rw [results_cell_two rfl];go_simp;rfl) rfl ?_
               exact ⟨rfl,HB20⟩
             · have eA:AN=bad 4:=hF
               subst eA
               have hn2:(x::rr).length=rr.length+1:=rfl
               rw [hn2]
               have dl:decide ((0:Int)<(rr.length:Int)+1)=true:=decide_eq_true (by omega)
               clear hF
               go_wp2
               (try simp only [Exit.inBlock,Exit.then])
               refine bodyPost_ret (v:=askV (bad 4)) (by rw [results_cell_two rfl];go_simp;rfl) rfl ?_
               exact ⟨rfl,by have hbb:=HBw.out;exact Bl⟩
      · have HT3:Hid (TRow w.heap.size w9 (some ⟨g,off+3,none⟩) (cw - 3) R):=HTr.out.tail.tail.tail
        by_cases hk3:KD=3
        · subst hk3
          have HV:Hid (AN=viaR (fun x=>nameAt s (l 0) (piece x)) FR (R)):=by
           show _=_
           exact HAN.out.trans (via_three _ _ _)
          clear HAN
          rcases R with _|⟨v1,_|⟨v2,R2⟩⟩
          · have eA:AN=bad 4:=HV.out
            subst eA
            have hn2:([]:List Wd).length=0:=rfl
            rw [hn2]
            clear HV
            go_wp2
            (try simp only [Exit.inBlock,Exit.then])
            refine bodyPost_ret (v:=askV (bad 4)) (by rw [results_cell_two rfl];go_simp;rfl) rfl ?_
            exact ⟨rfl,by have hbb:=HBw.out;exact Bl⟩
          · have eA:AN=bad 4:=HV.out
            subst eA
            have hn2:([v1]:List Wd).length=1:=rfl
            rw [hn2]
            clear HV
            go_wp2
            (try simp only [Exit.inBlock,Exit.then])
            refine bodyPost_ret (v:=askV (bad 4)) (by rw [results_cell_two rfl];go_simp;rfl) rfl ?_
            exact ⟨rfl,by have hbb:=HBw.out;exact Bl⟩
          · have hn2:(v1::v2::R2).length=R2.length+2:=rfl
            obtain ⟨gq,oq,e0,hgq,d0⟩:=HT3.out.head
            obtain ⟨g1,o1,e1,-,d1⟩:=HT3.out.cell 1 v2 rfl
            simp only [Option.some.injEq,Addr.mk.injEq,and_true] at e0 e1
            obtain ⟨rfl,rfl⟩:=e0
            obtain ⟨rfl,rfl⟩:=e1
            rw [hn2] at hcap hd ⊢
            have dl:decide ((R2.length:Int)+2<2)=false:=decide_eq_false (by omega)
            have i1:(1:Int)<(R2.length:Int)+2:=by omega
            have i0:(0:Int)<(R2.length:Int)+2:=by omega
            have i2:(2:Int)≤(R2.length:Int)+2:=by omega
            have HVx:Hid (AN=if v1=wVia then (if nameAt s (l 0) (piece v2)<0 then bad 9 else fin0 ⟨3,FR,-1,nameAt s (l 0) (piece v2),0,0⟩ R2) else bad 4):=HV.out
            clear HV
            by_cases hx:v1=wVia
            · subst hx
              rw [if_pos rfl] at HVx
              have hq:((piece wVia).toList == [118,105,97])=true:=by rw [piece_ne];rfl
              generalize piece wVia=X9 at *
              obtain ⟨WY,hWY⟩:∃ q,nameAt s (l 0) (piece v2)=q:=⟨_,rfl⟩
              have HWY:=hid hWY
              rw [hWY] at HVx
              clear hWY
              have zw:=HO.out.frozen 3
              go_wp2_with fail
              refine region_below (fun uu=>⟨#[.agg #[.slice (p 0) (l 0) (c 0),.slice (p 1) (l 1) (c 1),.slice (p 2) (l 2) (c 2),.slice (p 3) (l 3) (c 3),.slice (p 4) (l 4) (c 4),.slice (p 5) (l 5) (c 5)],.slice (some { block:=g,off:=off }) (R2.length+2+3) cw,.pointer (some { block:=w.heap.size,off:=0 }),undef,.pointer (some { block:=w.heap.size+1,off:=0 }),.int .i64 0,.int .i64 0,.pointer (some { block:=w.heap.size+1+1,off:=0 }),.pointer (some { block:=N,off:=0 }),.slice (some { block:=g,off:=off+3 }) (R2.length+2) (cw - 3),undef,undef,undef,undef,undef,undef,.agg #[.int .i64 0,.int .i64 0,.int .i64 0,.int .i64 0],.slice (some { block:=g,off:=off }) (R2.length+2+3) cw,.int .i64 (↑R2.length+2+3),.bool false,.bool false,.slice (some { block:=g,off:=off }) (R2.length+2+3) cw,.pointer (some { block:=g,off:=off }),.string X,.bool false,.bool false,undef,u 27,u 28,u 29,u 30,u 31,u 32,u 33,u 34,u 35,u 36,u 37,.agg #[.int .i64 3,.int .i64 FR,.int .i64 (-1),.int .i64 0],.pointer (some { block:=N,off:=0 }),.int .i64 3,.bool false,undef,.pointer (some { block:=N,off:=1 }),.int .i64 FR,.bool false,undef,.slice (some { block:=g,off:=off }) (R2.length+2+3) cw,.slice (some { block:=g,off:=off+3 }) (R2.length+2) (cw - 3),.pointer (some { block:=N,off:=0 }),.int .i64 3,.bool true,.slice (some { block:=g,off:=off+3 }) (R2.length+2) (cw - 3),.int .i64 (↑R2.length+2),.bool false,.bool false,.slice (some { block:=g,off:=off+3 }) (R2.length+2) (cw - 3),.pointer (some { block:=g,off:=off+3 }),.string X9,.bool false,.bool false,undef,uu 62,uu 63,uu 64,uu 65,uu 66,uu 67,uu 68,undef,undef,undef,undef,undef,undef,undef,undef,undef,undef,undef,undef,undef,undef,undef,undef,undef,undef,undef,undef,undef,undef,undef,undef,undef,undef,undef,undef,undef,undef,undef,undef,undef,undef,undef,undef,undef,undef,undef,undef,undef,undef,undef,undef,undef,undef,undef,undef,undef,undef,undef,undef,undef,undef,undef,undef],[]⟩) (fun i=>[62,63,64,65,66,67,68].getD i 0) (fun i v w8=>match i with|0=>v=.pointer (some ⟨w.heap.size,0,none⟩)|1=>v=.slice (p 0) (l 0) (c 0)|2=>v=.slice (some ⟨g,off+3,none⟩) (R2.length+2) (cw - 3)|3=>v=.pointer (some ⟨g,off+3+1,none⟩)|4=>v=.string (piece v2)|5=>v=.int .i64 WY|6=>v=.pointer (some ⟨N,3,none⟩)|_=>True) w9 7 (fun k=>match k with|62=>undef|63=>undef|64=>undef|65=>undef|66=>undef|67=>undef|68=>undef|_=>undef) (by rfl) (by kernel_rfl) (by rfl) ⟨by kernel_rfl,by kernel_rfl,by kernel_rfl,by decide⟩ (by kernel_rfl) (Below.refl _ _) ?hput ?hinj ?stable ?step ?last
              case hput =>
               intro i hi uu v
               match i,hi with
               | 0,_=>rfl
               | 1,_=>rfl
               | 2,_=>rfl
               | 3,_=>rfl
               | 4,_=>rfl
               | 5,_=>rfl
               | 6,_=>rfl
               | i+7,hi=>exact absurd hi (by omega)
              case hinj =>
               intro i j hi hj h
               exact slots_inj [62,63,64,65,66,67,68] (by decide) hi hj h
              case stable =>
               intro i v w8 w9 hb h
               match i,h with
               | 0,h=>exact h
               | 1,h=>exact h
               | 2,h=>exact h
               | 3,h=>exact h
               | 4,h=>exact h
               | 5,h=>exact h
               | 6,h=>exact h
               | _+7,h=>trivial
              case step =>
               intro i hi uu w8 S8 hdep
               match i,hi with
               | 0,_ =>
                clear hdep
                refine ⟨_,rfl,fun K' hK=>?_⟩
                go_simp
                exact hK.out _ _ (Below.refl _ _) rfl
               | 1,_ =>
                have h0:(uu 62)=.pointer (some ⟨w.heap.size,0,none⟩):=hdep 0 (by kernel_rfl)
                clear hdep
                refine ⟨_,rfl,fun K' hK=>?_⟩
                have q9:=keep S8 q0
                simp only [h0] at hK ⊢
                go_simp
                exact hK.out _ _ (Below.refl _ _) rfl
               | 2,_ =>
                clear hdep
                refine ⟨_,rfl,fun K' hK=>?_⟩
                go_simp
                exact hK.out _ _ (Below.refl _ _) rfl
               | 3,_ =>
                have h2:(uu 64)=.slice (some ⟨g,off+3,none⟩) (R2.length+2) (cw - 3):=hdep 2 (by kernel_rfl)
                clear hdep
                refine ⟨_,rfl,fun K' hK=>?_⟩
                simp only [h2] at hK ⊢
                go_simp
                exact hK.out _ _ (Below.refl _ _) rfl
               | 4,_ =>
                have h3:(uu 65)=.pointer (some ⟨g,off+3+1,none⟩):=hdep 3 (by kernel_rfl)
                clear hdep
                refine ⟨_,rfl,fun K' hK=>?_⟩
                have d9:=keep S8 d1
                simp only [h3] at hK ⊢
                go_simp
                exact hK.out _ _ (Below.refl _ _) rfl
               | 5,_ =>
                have h1:(uu 63)=.slice (p 0) (l 0) (c 0):=hdep 1 (by kernel_rfl)
                have h4:(uu 66)=.string (piece v2):=hdep 4 (by kernel_rfl)
                clear hdep
                refine ⟨_,rfl,fun K' hK=>?_⟩
                simp only [h1,h4] at hK ⊢
                go_simp
                refine (place_spec _ _ _ s (piece v2) _ (HSr.out.below S8)).mono ?_
                rintro e w11 ⟨rfl,rfl⟩
                exact hK.out _ _ (Below.refl _ _) (by rw [HWY.out])
               | 6,_ =>
                clear hdep
                refine ⟨_,rfl,fun K' hK=>?_⟩
                go_simp
                exact hK.out _ _ (Below.refl _ _) rfl
               | i+7,hi=>exact absurd hi (by omega)
              case last =>
               intro uu w8 S8 hall
               have h5:(uu 67)=.int .i64 WY:=hall 5 (by decide)
               have h6:(uu 68)=.pointer (some ⟨N,3,none⟩):=hall 6 (by decide)
               clear hall
               refine ⟨_,rfl,fun K' hK=>?_⟩
               simp only [h5,h6] at hK ⊢
               have HO8:=hid (World.rowIs.of_block HO.out (S8.block _ hwn))
               have t9:=HO8.out.cell (i:=3) (by omega)
               have z9:=HO8.out.frozen 3
               go_simp
               refine hK.out _ _ ?_
               have HO10:Hid ((w8.setCell ⟨N,3,none⟩ (.int .i64 WY)).rowIs N 33 4 (pc 3 FR (-1) WY)):=hid (prow_way WY HO8.out)
               have B10:Hid (Below W8.heap.size W8 (w8.setCell ⟨N,3,none⟩ (.int .i64 WY))):=hid ((B9.out.trans (S8.mono B9.out.size)).setCell (by exact hN) _)
               have HT10:Hid (TRow w.heap.size (w8.setCell ⟨N,3,none⟩ (.int .i64 WY)) (some ⟨g,off+3,none⟩) (cw - 3) (wVia::v2::R2)):=hid (HT3.out.under ((S8.mono (by have:=B9.out.size;omega)).setCell (by show w.heap.size≤N;omega) _))
               clear hK K' h5 h6 t9 z9 HO8 S8 q0 a0 a1 a2 a3 b0 b1 b2 b3 z0 z1 z2 z3 HR1 HBw t0 t1 t2 t3 HSr HTr d0 d1 HO B9 HT3 zw
               (try simp only [Exit.then])
               (try dsimp only at HO10)
               generalize w8.setCell ⟨N,3,none⟩ (.int .i64 WY)=w10 at *
               obtain ⟨t0,t1,t2,t3⟩:=prow_cells HO10.out
               obtain ⟨q0,-,-,hsr,htr,hr1,hr2,hbw⟩:=HW.out w10 B10.out
               have HSr:=hid hsr
               have HTr:=hid htr
               have HBw:=hid hbw
               obtain ⟨a0,a1,a2,a3⟩:=prow_cells hr1
               obtain ⟨b0,b1,b2,b3⟩:=prow_cells hr2
               have z0:=hr1.frozen 0
               have z1:=hr1.frozen 1
               have z2:=hr1.frozen 2
               have z3:=hr1.frozen 3
               have HR1:=hid hr1
               clear hsr htr hr1 hr2 hbw
               by_cases hwy:WY<0
               · have eA:AN=bad 9:=HVx.out.trans (if_pos hwy)
                 subst eA
                 have dw:decide (WY<0)=true:=decide_eq_true hwy
                 clear HVx
                 go_wp2
                 (try simp only [Exit.inBlock,Exit.then])
                 refine bodyPost_ret (v:=askV (bad 9)) (by rw [results_cell_two rfl];go_simp;rfl) rfl ?_
                 exact ⟨rfl,by have hbb:=HBw.out;exact Bl⟩
               have dw:decide (WY<0)=false:=decide_eq_false hwy
               have hwn:=HO10.out.lt
               have HAN:Hid (AN=fin0 ⟨3,FR,-1,WY,0,0⟩ R2):=HVx.out.trans (if_neg hwy)
               clear HVx hwy
               by_cases hc5:cw - 3=2
               · have HT5 : Hid (TRow w.heap.size w10 (some ⟨g, off + 3, none⟩) 0 R2) := by
                  have e0:R2=[]:=List.length_eq_zero_iff.1 (by omega)
                  rw [e0]
                  exact TRow.nil (Nat.zero_le _)
                 have hNw:w.heap.size≤N:=by omega
                 have hw0:w10.heap.size≠N:=by omega
                 have hw1:w10.heap.size+1≠N:=by omega
                 go_wp2
                 clear q0 a0 a1 a2 a3 b0 b1 b2 b3 z0 z1 z2 z3 HR1 HBw t0 t1 t2 t3 HSr HTr
                 clear hc5
                 go_loopw [9,10,13] (fun rest kk i wr=>∃ (I:Int) (Q:List Wd) (ar:Option Addr) (cr:Nat) (po k':Int),i=.int .i64 I∧rest=.slice ar Q.length cr∧kk=.int .i64 k'∧TRow w.heap.size wr ar cr Q∧Below W8.heap.size W8 wr∧wr.rowIs N 33 4 (pc 3 FR po WY)∧(wr.cell? ⟨w10.heap.size,0,none⟩=some (.string ⟨#[112,111,114,116]⟩)∧wr.cell? ⟨w10.heap.size,1,none⟩=some (.string ⟨#[102,97,105,108]⟩)∧wr.cell? ⟨w10.heap.size+1,0,none⟩=some (.int .i64 15)∧wr.cell? ⟨w10.heap.size+1,1,none⟩=some (.int .i64 2))∧(I=0∧AN=fin0 ⟨3,FR,po,WY,k',0⟩ Q∨I=1∧AN=fin1 ⟨3,FR,po,WY,k',0⟩ Q∨I=2∧AN=fin2 ⟨3,FR,po,WY,k',0⟩ Q)) (fun _ _ i _=>2 - (intOf i).toNat)
                 case atStart=>exact ⟨0,R2,_,_,-1,0,rfl,rfl,rfl,HT5.out.under (Below.mono (show Below w10.heap.size w10 _ from Bl) (by omega)),B10.out.trans ((show Below w10.heap.size w10 _ from Bl).mono B10.out.size),World.rowIs.of_block HO10.out (Below.block (show Below w10.heap.size w10 _ from Bl) _ HO10.out.lt),⟨by simp [go_sem],by simp [go_sem],by simp [go_sem],by simp [go_sem]⟩,.inl ⟨rfl,HAN.out⟩⟩
                 case round =>
                  clear HAN
                  obtain ⟨I,Q,ar,cr,po,k',rfl,rfl,rfl,htq,hbl,hro,⟨cp0,cp1,ct0,ct1⟩,hI⟩:=hrel
                  have HTQ:=hid htq
                  have HBl:=hid hbl
                  have HRo:=hid hro
                  obtain ⟨t0,t1,t2,t3⟩:=prow_cells hro
                  have zp:=hro.frozen 2
                  clear htq hbl hro
                  obtain ⟨q0,-,-,hsr,htr,hr1,hr2,hbw⟩:=HW.out wr HBl.out
                  have HSr:=hid hsr
                  have HTr:=hid htr
                  have HBw:=hid hbw
                  obtain ⟨a0,a1,a2,a3⟩:=prow_cells hr1
                  obtain ⟨b0,b1,b2,b3⟩:=prow_cells hr2
                  have z0:=hr1.frozen 0
                  have z1:=hr1.frozen 1
                  have z2:=hr1.frozen 2
                  have z3:=hr1.frozen 3
                  have HR1:=hid hr1
                  clear hsr htr hr1 hr2 hbw
                  rcases hI with ⟨rfl,hF⟩|⟨rfl,hF⟩|⟨rfl,hF⟩
                  · have HF:=hid hF
                    clear hF
                    rcases Q with _|⟨x,_|⟨yy,rr⟩⟩
                    · have hn2:([]:List Wd).length=0:=rfl
                      rw [hn2]
                      go_wp2_with fail
                      go_region
                      go_wp2
                      go_roundw
                      case rel=>exact ⟨1,[],ar,cr,po,k',rfl,rfl,rfl,HTQ.out.under Bl,HBl.out.drew,World.rowIs.of_block HRo.out rfl,⟨cp0,cp1,ct0,ct1⟩,.inr (.inl ⟨rfl,HF.out⟩)⟩
                      case measure=>simp [intOf]
                    · have hn2:([x]:List Wd).length=1:=rfl
                      rw [hn2]
                      go_wp2_with fail
                      go_region
                      go_wp2
                      go_roundw
                      case rel=>exact ⟨1,[x],ar,cr,po,k',rfl,rfl,rfl,HTQ.out.under Bl,HBl.out.drew,World.rowIs.of_block HRo.out rfl,⟨cp0,cp1,ct0,ct1⟩,.inr (.inl ⟨rfl,HF.out⟩)⟩
                      case measure=>simp [intOf]
                    · obtain ⟨gq,oq,rfl,hgq,d0⟩:=HTQ.out.head
                      obtain ⟨g1,o1,e1,-,d1⟩:=HTQ.out.cell 1 yy rfl
                      simp only [Option.some.injEq,Addr.mk.injEq,and_true] at e1
                      obtain ⟨rfl,rfl⟩:=e1
                      have hn2:(x::yy::rr).length=rr.length+2:=rfl
                      have hcr:=HTQ.out.cap
                      have hcm:=HTQ.out.most
                      unfold maxLen at hcm
                      rw [hn2] at hcr ⊢
                      have dl:decide ((rr.length:Int)+2<2)=false:=decide_eq_false (by omega)
                      have i1:(1:Int)<(rr.length:Int)+2:=by omega
                      have i0:(0:Int)<(rr.length:Int)+2:=by omega
                      have HFx:Hid (AN=if x=wPort then (if isNum (piece yy) then (if inB (numS (piece yy)) 0 15 then fin1 ⟨3,FR,numS (piece yy),WY,k',0⟩ rr else bad 5) else bad 4) else fin1 ⟨3,FR,po,WY,k',0⟩ (x::yy::rr)):=HF.out
                      clear HF
                      by_cases hx:x=wPort
                      · subst hx
                        rw [if_pos rfl] at HFx
                        have hq:((piece wPort).toList == [112,111,114,116])=true:=by rw [piece_ne];rfl
                        generalize piece wPort=X9 at *
                        have hsm:(piece yy).size≤maxLen:=by rw [piece_size];exact Nat.le_trans (HTQ.out.small yy (by simp)) (by unfold maxLen;omega)
                        have HSm:=hid hsm
                        clear hsm
                        go_wp2_with fail
                        go_region
                        go_wp2_with fail
                        refine (number_spec (piece yy) _ HSm.out).mono ?_
                        rintro e' w11 ⟨rfl,hw11⟩
                        have hw11:=hw11.symm
                        subst hw11
                        obtain ⟨NU,hNU⟩:∃ q,numS (piece yy)=q:=⟨_,rfl⟩
                        obtain ⟨IS,hIS⟩:∃ q,isNum (piece yy)=q:=⟨_,rfl⟩
                        rw [hNU,hIS] at HFx ⊢
                        clear hNU hIS HSm
                        cases IS with
                        | false =>
                         have eA:AN=bad 4:=HFx.out
                         subst eA
                         clear HFx
                         go_wp2
                         (try simp only [Exit.inBlock,Exit.then])
                         refine bodyPost_ret (v:=askV (bad 4)) (by rw [results_cell_two rfl];go_simp;rfl) rfl ?_
                         exact ⟨rfl,by have hbb:=HBw.out;exact Bl⟩
                        | true =>
                         rw [if_pos rfl] at HFx
                         go_wp2_with fail
                         refine (in_spec NU 0 15 _).mono ?_
                         rintro e' w12 ⟨rfl,hw12⟩
                         have hw12:=hw12.symm
                         subst hw12
                         obtain ⟨IB,hIB⟩:∃ q,inB NU 0 15=q:=⟨_,rfl⟩
                         rw [hIB] at HFx ⊢
                         clear hIB
                         cases IB with
                         | false =>
                          have eA:AN=bad 5:=HFx.out
                          subst eA
                          clear HFx
                          go_wp2
                          (try simp only [Exit.inBlock,Exit.then])
                          refine bodyPost_ret (v:=askV (bad 5)) (by rw [results_cell_two rfl];go_simp;rfl) rfl ?_
                          exact ⟨rfl,by have hbb:=HBw.out;exact Bl⟩
                         | true =>
                          rw [if_pos rfl] at HFx
                          by_cases hc2:cr=2
                          · have e0:rr=[]:=List.length_eq_zero_iff.1 (by omega)
                            subst e0
                            go_wp2
                            go_roundw
                            case rel=>exact ⟨1,[],_,0,NU,k',rfl,rfl,rfl,TRow.nil (Nat.zero_le _),HBl.out.drew.setCell (by exact hN) _,prow_port _ (World.rowIs.of_block HRo.out rfl),⟨far hw0 cp0,far hw0 cp1,far hw1 ct0,far hw1 ct1⟩,.inr (.inl ⟨rfl,HFx.out⟩)⟩
                            case measure=>simp [intOf]
                          · have HT2:Hid (TRow w.heap.size wr (some ⟨gq,oq+2,none⟩) (cr - 2) rr):=HTQ.out.tail.tail
                            go_wp2
                            go_roundw
                            case rel=>exact ⟨1,rr,_,cr - 2,NU,k',rfl,rfl,rfl,HT2.out.under ((Below.refl _ _).drew.setCell (by exact hNw) _),HBl.out.drew.setCell (by exact hN) _,prow_port _ (World.rowIs.of_block HRo.out rfl),⟨far hw0 cp0,far hw0 cp1,far hw1 ct0,far hw1 ct1⟩,.inr (.inl ⟨rfl,HFx.out⟩)⟩
                            case measure=>simp [intOf]
                      · rw [if_neg hx] at HFx
                        have hq:((piece x).toList == [112,111,114,116])=false:=by rw [piece_ne];exact decide_eq_false hx
                        clear hx
                        go_wp2_with fail
                        go_region
                        go_wp2
                        go_roundw
                        case rel=>exact ⟨1,x::yy::rr,_,cr,po,k',rfl,rfl,rfl,HTQ.out.under Bl,HBl.out.drew,World.rowIs.of_block HRo.out rfl,⟨cp0,cp1,ct0,ct1⟩,.inr (.inl ⟨rfl,HFx.out⟩)⟩
                        case measure=>simp [intOf]
                  · have HF:=hid hF
                    clear hF
                    rcases Q with _|⟨x,_|⟨yy,rr⟩⟩
                    · have hn2:([]:List Wd).length=0:=rfl
                      rw [hn2]
                      go_wp2_with fail
                      go_region
                      go_wp2
                      go_roundw
                      case rel=>exact ⟨2,[],ar,cr,po,k',rfl,rfl,rfl,HTQ.out.under Bl,HBl.out.drew,World.rowIs.of_block HRo.out rfl,⟨cp0,cp1,ct0,ct1⟩,.inr (.inr ⟨rfl,HF.out⟩)⟩
                      case measure=>simp [intOf]
                    · have hn2:([x]:List Wd).length=1:=rfl
                      rw [hn2]
                      go_wp2_with fail
                      go_region
                      go_wp2
                      go_roundw
                      case rel=>exact ⟨2,[x],ar,cr,po,k',rfl,rfl,rfl,HTQ.out.under Bl,HBl.out.drew,World.rowIs.of_block HRo.out rfl,⟨cp0,cp1,ct0,ct1⟩,.inr (.inr ⟨rfl,HF.out⟩)⟩
                      case measure=>simp [intOf]
                    · obtain ⟨gq,oq,rfl,hgq,d0⟩:=HTQ.out.head
                      obtain ⟨g1,o1,e1,-,d1⟩:=HTQ.out.cell 1 yy rfl
                      simp only [Option.some.injEq,Addr.mk.injEq,and_true] at e1
                      obtain ⟨rfl,rfl⟩:=e1
                      have hn2:(x::yy::rr).length=rr.length+2:=rfl
                      have hcr:=HTQ.out.cap
                      have hcm:=HTQ.out.most
                      unfold maxLen at hcm
                      rw [hn2] at hcr ⊢
                      have dl:decide ((rr.length:Int)+2<2)=false:=decide_eq_false (by omega)
                      have i1:(1:Int)<(rr.length:Int)+2:=by omega
                      have i0:(0:Int)<(rr.length:Int)+2:=by omega
                      have HFx:Hid (AN=if x=wFail then (if isNum (piece yy) then (if inB (numS (piece yy)) 0 2 then fin2 ⟨3,FR,po,WY,numS (piece yy),0⟩ rr else bad 5) else bad 4) else fin2 ⟨3,FR,po,WY,k',0⟩ (x::yy::rr)):=HF.out
                      clear HF
                      by_cases hx:x=wFail
                      · subst hx
                        rw [if_pos rfl] at HFx
                        have hq:((piece wFail).toList == [102,97,105,108])=true:=by rw [piece_ne];rfl
                        generalize piece wFail=X9 at *
                        have hsm:(piece yy).size≤maxLen:=by rw [piece_size];exact Nat.le_trans (HTQ.out.small yy (by simp)) (by unfold maxLen;omega)
                        have HSm:=hid hsm
                        clear hsm
                        go_wp2_with fail
                        go_region
                        go_wp2_with fail
                        refine (number_spec (piece yy) _ HSm.out).mono ?_
                        rintro e' w11 ⟨rfl,hw11⟩
                        have hw11:=hw11.symm
                        subst hw11
                        obtain ⟨NU,hNU⟩:∃ q,numS (piece yy)=q:=⟨_,rfl⟩
                        obtain ⟨IS,hIS⟩:∃ q,isNum (piece yy)=q:=⟨_,rfl⟩
                        rw [hNU,hIS] at HFx ⊢
                        clear hNU hIS HSm
                        cases IS with
                        | false =>
                         have eA:AN=bad 4:=HFx.out
                         subst eA
                         clear HFx
                         go_wp2
                         (try simp only [Exit.inBlock,Exit.then])
                         refine bodyPost_ret (v:=askV (bad 4)) (by rw [results_cell_two rfl];go_simp;rfl) rfl ?_
                         exact ⟨rfl,by have hbb:=HBw.out;exact Bl⟩
                        | true =>
                         rw [if_pos rfl] at HFx
                         go_wp2_with fail
                         refine (in_spec NU 0 2 _).mono ?_
                         rintro e' w12 ⟨rfl,hw12⟩
                         have hw12:=hw12.symm
                         subst hw12
                         obtain ⟨IB,hIB⟩:∃ q,inB NU 0 2=q:=⟨_,rfl⟩
                         rw [hIB] at HFx ⊢
                         clear hIB
                         cases IB with
                         | false =>
                          have eA:AN=bad 5:=HFx.out
                          subst eA
                          clear HFx
                          go_wp2
                          (try simp only [Exit.inBlock,Exit.then])
                          refine bodyPost_ret (v:=askV (bad 5)) (by rw [results_cell_two rfl];go_simp;rfl) rfl ?_
                          exact ⟨rfl,by have hbb:=HBw.out;exact Bl⟩
                         | true =>
                          rw [if_pos rfl] at HFx
                          by_cases hc2:cr=2
                          · have e0:rr=[]:=List.length_eq_zero_iff.1 (by omega)
                            subst e0
                            go_wp2
                            go_roundw
                            case rel=>exact ⟨2,[],_,0,po,NU,rfl,rfl,rfl,TRow.nil (Nat.zero_le _),HBl.out.drew,World.rowIs.of_block HRo.out rfl,⟨cp0,cp1,ct0,ct1⟩,.inr (.inr ⟨rfl,HFx.out⟩)⟩
                            case measure=>simp [intOf]
                          · have HT2:Hid (TRow w.heap.size wr (some ⟨gq,oq+2,none⟩) (cr - 2) rr):=HTQ.out.tail.tail
                            go_wp2
                            go_roundw
                            case rel=>exact ⟨2,rr,_,cr - 2,po,NU,rfl,rfl,rfl,HT2.out.under (Below.refl _ _).drew,HBl.out.drew,World.rowIs.of_block HRo.out rfl,⟨cp0,cp1,ct0,ct1⟩,.inr (.inr ⟨rfl,HFx.out⟩)⟩
                            case measure=>simp [intOf]
                      · rw [if_neg hx] at HFx
                        have hq:((piece x).toList == [102,97,105,108])=false:=by rw [piece_ne];exact decide_eq_false hx
                        clear hx
                        go_wp2_with fail
                        go_region
                        go_wp2
                        go_roundw
                        case rel=>exact ⟨2,x::yy::rr,_,cr,po,k',rfl,rfl,rfl,HTQ.out.under Bl,HBl.out.drew,World.rowIs.of_block HRo.out rfl,⟨cp0,cp1,ct0,ct1⟩,.inr (.inr ⟨rfl,HFx.out⟩)⟩
                        case measure=>simp [intOf]
                  · rcases Q with _|⟨x,rr⟩
                    · have eA:AN=⟨3,FR,po,WY,k',0⟩:=hF
                      subst eA
                      clear hF
                      go_wp2
                      (try simp only [Exit.inBlock,Exit.then])
                      obtain ⟨y0,y1,y2,y3⟩:=prow_cells (prow_set (k:=3) (f:=FR) (p:=po) (y:=WY) HR1.out)
                      have HB20:Below w.heap.size w ((((wr.setCell ⟨w.heap.size+1,0,none⟩ (.int .i64 3)).setCell ⟨w.heap.size+1,1,none⟩ (.int .i64 FR)).setCell ⟨w.heap.size+1,2,none⟩ (.int .i64 po)).setCell ⟨w.heap.size+1,3,none⟩ (.int .i64 WY)):=by have hbb:=HBw.out;exact Bl
                      generalize (((wr.setCell ⟨w.heap.size+1,0,none⟩ (.int .i64 3)).setCell ⟨w.heap.size+1,1,none⟩ (.int .i64 FR)).setCell ⟨w.heap.size+1,2,none⟩ (.int .i64 po)).setCell ⟨w.heap.size+1,3,none⟩ (.int .i64 WY)=w20 at *
                      refine bodyPost_ret (v:=askV ⟨3,FR,po,WY,k',0⟩) (by rw [results_cell_two rfl];go_simp;rfl) rfl ?_
                      exact ⟨rfl,HB20⟩
                    · have eA:AN=bad 4:=hF
                      subst eA
                      have hn2:(x::rr).length=rr.length+1:=rfl
                      rw [hn2]
                      have dl:decide ((0:Int)<(rr.length:Int)+1)=true:=decide_eq_true (by omega)
                      clear hF
                      go_wp2
                      (try simp only [Exit.inBlock,Exit.then])
                      refine bodyPost_ret (v:=askV (bad 4)) (by rw [results_cell_two rfl];go_simp;rfl) rfl ?_
                      exact ⟨rfl,by have hbb:=HBw.out;exact Bl⟩
               · have HT5:Hid (TRow w.heap.size w10 (some ⟨g,off+3+2,none⟩) (cw - 3 - 2) R2):=HT10.out.tail.tail
                 have hNw:w.heap.size≤N:=by omega
                 have hw0:w10.heap.size≠N:=by omega
                 have hw1:w10.heap.size+1≠N:=by omega
                 go_wp2
                 clear q0 a0 a1 a2 a3 b0 b1 b2 b3 z0 z1 z2 z3 HR1 HBw t0 t1 t2 t3 HSr HTr
                 go_loopw [9,10,13] (fun rest kk i wr=>∃ (I:Int) (Q:List Wd) (ar:Option Addr) (cr:Nat) (po k':Int),i=.int .i64 I∧rest=.slice ar Q.length cr∧kk=.int .i64 k'∧TRow w.heap.size wr ar cr Q∧Below W8.heap.size W8 wr∧wr.rowIs N 33 4 (pc 3 FR po WY)∧(wr.cell? ⟨w10.heap.size,0,none⟩=some (.string ⟨#[112,111,114,116]⟩)∧wr.cell? ⟨w10.heap.size,1,none⟩=some (.string ⟨#[102,97,105,108]⟩)∧wr.cell? ⟨w10.heap.size+1,0,none⟩=some (.int .i64 15)∧wr.cell? ⟨w10.heap.size+1,1,none⟩=some (.int .i64 2))∧(I=0∧AN=fin0 ⟨3,FR,po,WY,k',0⟩ Q∨I=1∧AN=fin1 ⟨3,FR,po,WY,k',0⟩ Q∨I=2∧AN=fin2 ⟨3,FR,po,WY,k',0⟩ Q)) (fun _ _ i _=>2 - (intOf i).toNat)
                 case atStart=>exact ⟨0,R2,_,_,-1,0,rfl,rfl,rfl,HT5.out.under (Below.mono (show Below w10.heap.size w10 _ from Bl) (by omega)),B10.out.trans ((show Below w10.heap.size w10 _ from Bl).mono B10.out.size),World.rowIs.of_block HO10.out (Below.block (show Below w10.heap.size w10 _ from Bl) _ HO10.out.lt),⟨by simp [go_sem],by simp [go_sem],by simp [go_sem],by simp [go_sem]⟩,.inl ⟨rfl,HAN.out⟩⟩
                 case round =>
                  clear HAN
                  obtain ⟨I,Q,ar,cr,po,k',rfl,rfl,rfl,htq,hbl,hro,⟨cp0,cp1,ct0,ct1⟩,hI⟩:=hrel
                  have HTQ:=hid htq
                  have HBl:=hid hbl
                  have HRo:=hid hro
                  obtain ⟨t0,t1,t2,t3⟩:=prow_cells hro
                  have zp:=hro.frozen 2
                  clear htq hbl hro
                  obtain ⟨q0,-,-,hsr,htr,hr1,hr2,hbw⟩:=HW.out wr HBl.out
                  have HSr:=hid hsr
                  have HTr:=hid htr
                  have HBw:=hid hbw
                  obtain ⟨a0,a1,a2,a3⟩:=prow_cells hr1
                  obtain ⟨b0,b1,b2,b3⟩:=prow_cells hr2
                  have z0:=hr1.frozen 0
                  have z1:=hr1.frozen 1
                  have z2:=hr1.frozen 2
                  have z3:=hr1.frozen 3
                  have HR1:=hid hr1
                  clear hsr htr hr1 hr2 hbw
                  rcases hI with ⟨rfl,hF⟩|⟨rfl,hF⟩|⟨rfl,hF⟩
                  · have HF:=hid hF
                    clear hF
                    rcases Q with _|⟨x,_|⟨yy,rr⟩⟩
                    · have hn2:([]:List Wd).length=0:=rfl
                      rw [hn2]
                      go_wp2_with fail
                      go_region
                      go_wp2
                      go_roundw
                      case rel=>exact ⟨1,[],ar,cr,po,k',rfl,rfl,rfl,HTQ.out.under Bl,HBl.out.drew,World.rowIs.of_block HRo.out rfl,⟨cp0,cp1,ct0,ct1⟩,.inr (.inl ⟨rfl,HF.out⟩)⟩
                      case measure=>simp [intOf]
                    · have hn2:([x]:List Wd).length=1:=rfl
                      rw [hn2]
                      go_wp2_with fail
                      go_region
                      go_wp2
                      go_roundw
                      case rel=>exact ⟨1,[x],ar,cr,po,k',rfl,rfl,rfl,HTQ.out.under Bl,HBl.out.drew,World.rowIs.of_block HRo.out rfl,⟨cp0,cp1,ct0,ct1⟩,.inr (.inl ⟨rfl,HF.out⟩)⟩
                      case measure=>simp [intOf]
                    · obtain ⟨gq,oq,rfl,hgq,d0⟩:=HTQ.out.head
                      obtain ⟨g1,o1,e1,-,d1⟩:=HTQ.out.cell 1 yy rfl
                      simp only [Option.some.injEq,Addr.mk.injEq,and_true] at e1
                      obtain ⟨rfl,rfl⟩:=e1
                      have hn2:(x::yy::rr).length=rr.length+2:=rfl
                      have hcr:=HTQ.out.cap
                      have hcm:=HTQ.out.most
                      unfold maxLen at hcm
                      rw [hn2] at hcr ⊢
                      have dl:decide ((rr.length:Int)+2<2)=false:=decide_eq_false (by omega)
                      have i1:(1:Int)<(rr.length:Int)+2:=by omega
                      have i0:(0:Int)<(rr.length:Int)+2:=by omega
                      have HFx:Hid (AN=if x=wPort then (if isNum (piece yy) then (if inB (numS (piece yy)) 0 15 then fin1 ⟨3,FR,numS (piece yy),WY,k',0⟩ rr else bad 5) else bad 4) else fin1 ⟨3,FR,po,WY,k',0⟩ (x::yy::rr)):=HF.out
                      clear HF
                      by_cases hx:x=wPort
                      · subst hx
                        rw [if_pos rfl] at HFx
                        have hq:((piece wPort).toList == [112,111,114,116])=true:=by rw [piece_ne];rfl
                        generalize piece wPort=X9 at *
                        have hsm:(piece yy).size≤maxLen:=by rw [piece_size];exact Nat.le_trans (HTQ.out.small yy (by simp)) (by unfold maxLen;omega)
                        have HSm:=hid hsm
                        clear hsm
                        go_wp2_with fail
                        go_region
                        go_wp2_with fail
                        refine (number_spec (piece yy) _ HSm.out).mono ?_
                        rintro e' w11 ⟨rfl,hw11⟩
                        have hw11:=hw11.symm
                        subst hw11
                        obtain ⟨NU,hNU⟩:∃ q,numS (piece yy)=q:=⟨_,rfl⟩
                        obtain ⟨IS,hIS⟩:∃ q,isNum (piece yy)=q:=⟨_,rfl⟩
                        rw [hNU,hIS] at HFx ⊢
                        clear hNU hIS HSm
                        cases IS with
                        | false =>
                         have eA:AN=bad 4:=HFx.out
                         subst eA
                         clear HFx
                         go_wp2
                         (try simp only [Exit.inBlock,Exit.then])
                         refine bodyPost_ret (v:=askV (bad 4)) (by rw [results_cell_two rfl];go_simp;rfl) rfl ?_
                         exact ⟨rfl,by have hbb:=HBw.out;exact Bl⟩
                        | true =>
                         rw [if_pos rfl] at HFx
                         go_wp2_with fail
                         refine (in_spec NU 0 15 _).mono ?_
                         rintro e' w12 ⟨rfl,hw12⟩
                         have hw12:=hw12.symm
                         subst hw12
                         obtain ⟨IB,hIB⟩:∃ q,inB NU 0 15=q:=⟨_,rfl⟩
                         rw [hIB] at HFx ⊢
                         clear hIB
                         cases IB with
                         | false =>
                          have eA:AN=bad 5:=HFx.out
                          subst eA
                          clear HFx
                          go_wp2
                          (try simp only [Exit.inBlock,Exit.then])
                          refine bodyPost_ret (v:=askV (bad 5)) (by rw [results_cell_two rfl];go_simp;rfl) rfl ?_
                          exact ⟨rfl,by have hbb:=HBw.out;exact Bl⟩
                         | true =>
                          rw [if_pos rfl] at HFx
                          by_cases hc2:cr=2
                          · have e0:rr=[]:=List.length_eq_zero_iff.1 (by omega)
                            subst e0
                            go_wp2
                            go_roundw
                            case rel=>exact ⟨1,[],_,0,NU,k',rfl,rfl,rfl,TRow.nil (Nat.zero_le _),HBl.out.drew.setCell (by exact hN) _,prow_port _ (World.rowIs.of_block HRo.out rfl),⟨far hw0 cp0,far hw0 cp1,far hw1 ct0,far hw1 ct1⟩,.inr (.inl ⟨rfl,HFx.out⟩)⟩
                            case measure=>simp [intOf]
                          · have HT2:Hid (TRow w.heap.size wr (some ⟨gq,oq+2,none⟩) (cr - 2) rr):=HTQ.out.tail.tail
                            go_wp2
                            go_roundw
                            case rel=>exact ⟨1,rr,_,cr - 2,NU,k',rfl,rfl,rfl,HT2.out.under ((Below.refl _ _).drew.setCell (by exact hNw) _),HBl.out.drew.setCell (by exact hN) _,prow_port _ (World.rowIs.of_block HRo.out rfl),⟨far hw0 cp0,far hw0 cp1,far hw1 ct0,far hw1 ct1⟩,.inr (.inl ⟨rfl,HFx.out⟩)⟩
                            case measure=>simp [intOf]
                      · rw [if_neg hx] at HFx
                        have hq:((piece x).toList == [112,111,114,116])=false:=by rw [piece_ne];exact decide_eq_false hx
                        clear hx
                        go_wp2_with fail
                        go_region
                        go_wp2
                        go_roundw
                        case rel=>exact ⟨1,x::yy::rr,_,cr,po,k',rfl,rfl,rfl,HTQ.out.under Bl,HBl.out.drew,World.rowIs.of_block HRo.out rfl,⟨cp0,cp1,ct0,ct1⟩,.inr (.inl ⟨rfl,HFx.out⟩)⟩
                        case measure=>simp [intOf]
                  · have HF:=hid hF
                    clear hF
                    rcases Q with _|⟨x,_|⟨yy,rr⟩⟩
                    · have hn2:([]:List Wd).length=0:=rfl
                      rw [hn2]
                      go_wp2_with fail
                      go_region
                      go_wp2
                      go_roundw
                      case rel=>exact ⟨2,[],ar,cr,po,k',rfl,rfl,rfl,HTQ.out.under Bl,HBl.out.drew,World.rowIs.of_block HRo.out rfl,⟨cp0,cp1,ct0,ct1⟩,.inr (.inr ⟨rfl,HF.out⟩)⟩
                      case measure=>simp [intOf]
                    · have hn2:([x]:List Wd).length=1:=rfl
                      rw [hn2]
                      go_wp2_with fail
                      go_region
                      go_wp2
                      go_roundw
                      case rel=>exact ⟨2,[x],ar,cr,po,k',rfl,rfl,rfl,HTQ.out.under Bl,HBl.out.drew,World.rowIs.of_block HRo.out rfl,⟨cp0,cp1,ct0,ct1⟩,.inr (.inr ⟨rfl,HF.out⟩)⟩
                      case measure=>simp [intOf]
                    · obtain ⟨gq,oq,rfl,hgq,d0⟩:=HTQ.out.head
                      obtain ⟨g1,o1,e1,-,d1⟩:=HTQ.out.cell 1 yy rfl
                      simp only [Option.some.injEq,Addr.mk.injEq,and_true] at e1
                      obtain ⟨rfl,rfl⟩:=e1
                      have hn2:(x::yy::rr).length=rr.length+2:=rfl
                      have hcr:=HTQ.out.cap
                      have hcm:=HTQ.out.most
                      unfold maxLen at hcm
                      rw [hn2] at hcr ⊢
                      have dl:decide ((rr.length:Int)+2<2)=false:=decide_eq_false (by omega)
                      have i1:(1:Int)<(rr.length:Int)+2:=by omega
                      have i0:(0:Int)<(rr.length:Int)+2:=by omega
                      have HFx:Hid (AN=if x=wFail then (if isNum (piece yy) then (if inB (numS (piece yy)) 0 2 then fin2 ⟨3,FR,po,WY,numS (piece yy),0⟩ rr else bad 5) else bad 4) else fin2 ⟨3,FR,po,WY,k',0⟩ (x::yy::rr)):=HF.out
                      clear HF
                      by_cases hx:x=wFail
                      · subst hx
                        rw [if_pos rfl] at HFx
                        have hq:((piece wFail).toList == [102,97,105,108])=true:=by rw [piece_ne];rfl
                        generalize piece wFail=X9 at *
                        have hsm:(piece yy).size≤maxLen:=by rw [piece_size];exact Nat.le_trans (HTQ.out.small yy (by simp)) (by unfold maxLen;omega)
                        have HSm:=hid hsm
                        clear hsm
                        go_wp2_with fail
                        go_region
                        go_wp2_with fail
                        refine (number_spec (piece yy) _ HSm.out).mono ?_
                        rintro e' w11 ⟨rfl,hw11⟩
                        have hw11:=hw11.symm
                        subst hw11
                        obtain ⟨NU,hNU⟩:∃ q,numS (piece yy)=q:=⟨_,rfl⟩
                        obtain ⟨IS,hIS⟩:∃ q,isNum (piece yy)=q:=⟨_,rfl⟩
                        rw [hNU,hIS] at HFx ⊢
                        clear hNU hIS HSm
                        cases IS with
                        | false =>
                         have eA:AN=bad 4:=HFx.out
                         subst eA
                         clear HFx
                         go_wp2
                         (try simp only [Exit.inBlock,Exit.then])
                         refine bodyPost_ret (v:=askV (bad 4)) (by rw [results_cell_two rfl];go_simp;rfl) rfl ?_
                         exact ⟨rfl,by have hbb:=HBw.out;exact Bl⟩
                        | true =>
                         rw [if_pos rfl] at HFx
                         go_wp2_with fail
                         refine (in_spec NU 0 2 _).mono ?_
                         rintro e' w12 ⟨rfl,hw12⟩
                         have hw12:=hw12.symm
                         subst hw12
                         obtain ⟨IB,hIB⟩:∃ q,inB NU 0 2=q:=⟨_,rfl⟩
                         rw [hIB] at HFx ⊢
                         clear hIB
                         cases IB with
                         | false =>
                          have eA:AN=bad 5:=HFx.out
                          subst eA
                          clear HFx
                          go_wp2
                          (try simp only [Exit.inBlock,Exit.then])
                          refine bodyPost_ret (v:=askV (bad 5)) (by rw [results_cell_two rfl];go_simp;rfl) rfl ?_
                          exact ⟨rfl,by have hbb:=HBw.out;exact Bl⟩
                         | true =>
                          rw [if_pos rfl] at HFx
                          by_cases hc2:cr=2
                          · have e0:rr=[]:=List.length_eq_zero_iff.1 (by omega)
                            subst e0
                            go_wp2
                            go_roundw
                            case rel=>exact ⟨2,[],_,0,po,NU,rfl,rfl,rfl,TRow.nil (Nat.zero_le _),HBl.out.drew,World.rowIs.of_block HRo.out rfl,⟨cp0,cp1,ct0,ct1⟩,.inr (.inr ⟨rfl,HFx.out⟩)⟩
                            case measure=>simp [intOf]
                          · have HT2:Hid (TRow w.heap.size wr (some ⟨gq,oq+2,none⟩) (cr - 2) rr):=HTQ.out.tail.tail
                            go_wp2
                            go_roundw
                            case rel=>exact ⟨2,rr,_,cr - 2,po,NU,rfl,rfl,rfl,HT2.out.under (Below.refl _ _).drew,HBl.out.drew,World.rowIs.of_block HRo.out rfl,⟨cp0,cp1,ct0,ct1⟩,.inr (.inr ⟨rfl,HFx.out⟩)⟩
                            case measure=>simp [intOf]
                      · rw [if_neg hx] at HFx
                        have hq:((piece x).toList == [102,97,105,108])=false:=by rw [piece_ne];exact decide_eq_false hx
                        clear hx
                        go_wp2_with fail
                        go_region
                        go_wp2
                        go_roundw
                        case rel=>exact ⟨2,x::yy::rr,_,cr,po,k',rfl,rfl,rfl,HTQ.out.under Bl,HBl.out.drew,World.rowIs.of_block HRo.out rfl,⟨cp0,cp1,ct0,ct1⟩,.inr (.inr ⟨rfl,HFx.out⟩)⟩
                        case measure=>simp [intOf]
                  · rcases Q with _|⟨x,rr⟩
                    · have eA:AN=⟨3,FR,po,WY,k',0⟩:=hF
                      subst eA
                      clear hF
                      go_wp2
                      (try simp only [Exit.inBlock,Exit.then])
                      obtain ⟨y0,y1,y2,y3⟩:=prow_cells (prow_set (k:=3) (f:=FR) (p:=po) (y:=WY) HR1.out)
                      have HB20:Below w.heap.size w ((((wr.setCell ⟨w.heap.size+1,0,none⟩ (.int .i64 3)).setCell ⟨w.heap.size+1,1,none⟩ (.int .i64 FR)).setCell ⟨w.heap.size+1,2,none⟩ (.int .i64 po)).setCell ⟨w.heap.size+1,3,none⟩ (.int .i64 WY)):=by have hbb:=HBw.out;exact Bl
                      generalize (((wr.setCell ⟨w.heap.size+1,0,none⟩ (.int .i64 3)).setCell ⟨w.heap.size+1,1,none⟩ (.int .i64 FR)).setCell ⟨w.heap.size+1,2,none⟩ (.int .i64 po)).setCell ⟨w.heap.size+1,3,none⟩ (.int .i64 WY)=w20 at *
                      refine bodyPost_ret (v:=askV ⟨3,FR,po,WY,k',0⟩) (by rw [results_cell_two rfl];go_simp;rfl) rfl ?_
                      exact ⟨rfl,HB20⟩
                    · have eA:AN=bad 4:=hF
                      subst eA
                      have hn2:(x::rr).length=rr.length+1:=rfl
                      rw [hn2]
                      have dl:decide ((0:Int)<(rr.length:Int)+1)=true:=decide_eq_true (by omega)
                      clear hF
                      go_wp2
                      (try simp only [Exit.inBlock,Exit.then])
                      refine bodyPost_ret (v:=askV (bad 4)) (by rw [results_cell_two rfl];go_simp;rfl) rfl ?_
                      exact ⟨rfl,by have hbb:=HBw.out;exact Bl⟩
            · have eA:AN=bad 4:=HVx.out.trans (if_neg hx)
              subst eA
              have hq:((piece v1).toList == [118,105,97])=false:=by rw [piece_ne];exact decide_eq_false hx
              clear HVx hx
              go_wp2
              (try simp only [Exit.inBlock,Exit.then])
              refine bodyPost_ret (v:=askV (bad 4)) (by rw [results_cell_two rfl];go_simp;rfl) rfl ?_
              exact ⟨rfl,by have hbb:=HBw.out;exact Bl⟩
        · have dk3:(KD == 3)=false:=by simp [hk3]
          have HAN:Hid (AN=fin0 ⟨KD,FR,-1,0,0,0⟩ (R)):=by
           show _=_
           rw [HAN.out]
           unfold viaA
           rw [if_neg hk3]
          clear hk3
          have hNw:w.heap.size≤N:=by omega
          have hw0:w9.heap.size≠N:=by omega
          have hw1:w9.heap.size+1≠N:=by omega
          go_wp2
          clear q0 a0 a1 a2 a3 b0 b1 b2 b3 z0 z1 z2 z3 HR1 HBw t0 t1 t2 t3 HSr HTr
          go_loopw [9,10,13] (fun rest kk i wr=>∃ (I:Int) (Q:List Wd) (ar:Option Addr) (cr:Nat) (po k':Int),i=.int .i64 I∧rest=.slice ar Q.length cr∧kk=.int .i64 k'∧TRow w.heap.size wr ar cr Q∧Below W8.heap.size W8 wr∧wr.rowIs N 33 4 (pc KD FR po 0)∧(wr.cell? ⟨w9.heap.size,0,none⟩=some (.string ⟨#[112,111,114,116]⟩)∧wr.cell? ⟨w9.heap.size,1,none⟩=some (.string ⟨#[102,97,105,108]⟩)∧wr.cell? ⟨w9.heap.size+1,0,none⟩=some (.int .i64 15)∧wr.cell? ⟨w9.heap.size+1,1,none⟩=some (.int .i64 2))∧(I=0∧AN=fin0 ⟨KD,FR,po,0,k',0⟩ Q∨I=1∧AN=fin1 ⟨KD,FR,po,0,k',0⟩ Q∨I=2∧AN=fin2 ⟨KD,FR,po,0,k',0⟩ Q)) (fun _ _ i _=>2 - (intOf i).toNat)
          case atStart=>exact ⟨0,R,_,_,-1,0,rfl,rfl,rfl,HT3.out.under (Below.mono (show Below w9.heap.size w9 _ from Bl) (by omega)),B9.out.trans ((show Below w9.heap.size w9 _ from Bl).mono B9.out.size),World.rowIs.of_block HO.out (Below.block (show Below w9.heap.size w9 _ from Bl) _ HO.out.lt),⟨by simp [go_sem],by simp [go_sem],by simp [go_sem],by simp [go_sem]⟩,.inl ⟨rfl,HAN.out⟩⟩
          case round =>
           clear HAN
           obtain ⟨I,Q,ar,cr,po,k',rfl,rfl,rfl,htq,hbl,hro,⟨cp0,cp1,ct0,ct1⟩,hI⟩:=hrel
           have HTQ:=hid htq
           have HBl:=hid hbl
           have HRo:=hid hro
           obtain ⟨t0,t1,t2,t3⟩:=prow_cells hro
           have zp:=hro.frozen 2
           clear htq hbl hro
           obtain ⟨q0,-,-,hsr,htr,hr1,hr2,hbw⟩:=HW.out wr HBl.out
           have HSr:=hid hsr
           have HTr:=hid htr
           have HBw:=hid hbw
           obtain ⟨a0,a1,a2,a3⟩:=prow_cells hr1
           obtain ⟨b0,b1,b2,b3⟩:=prow_cells hr2
           have z0:=hr1.frozen 0
           have z1:=hr1.frozen 1
           have z2:=hr1.frozen 2
           have z3:=hr1.frozen 3
           have HR1:=hid hr1
           clear hsr htr hr1 hr2 hbw
           rcases hI with ⟨rfl,hF⟩|⟨rfl,hF⟩|⟨rfl,hF⟩
           · have HF:=hid hF
             clear hF
             rcases Q with _|⟨x,_|⟨yy,rr⟩⟩
             · have hn2:([]:List Wd).length=0:=rfl
               rw [hn2]
               go_wp2_with fail
               go_region
               go_wp2
               go_roundw
               case rel=>exact ⟨1,[],ar,cr,po,k',rfl,rfl,rfl,HTQ.out.under Bl,HBl.out.drew,World.rowIs.of_block HRo.out rfl,⟨cp0,cp1,ct0,ct1⟩,.inr (.inl ⟨rfl,HF.out⟩)⟩
               case measure=>simp [intOf]
             · have hn2:([x]:List Wd).length=1:=rfl
               rw [hn2]
               go_wp2_with fail
               go_region
               go_wp2
               go_roundw
               case rel=>exact ⟨1,[x],ar,cr,po,k',rfl,rfl,rfl,HTQ.out.under Bl,HBl.out.drew,World.rowIs.of_block HRo.out rfl,⟨cp0,cp1,ct0,ct1⟩,.inr (.inl ⟨rfl,HF.out⟩)⟩
               case measure=>simp [intOf]
             · obtain ⟨gq,oq,rfl,hgq,d0⟩:=HTQ.out.head
               obtain ⟨g1,o1,e1,-,d1⟩:=HTQ.out.cell 1 yy rfl
               simp only [Option.some.injEq,Addr.mk.injEq,and_true] at e1
               obtain ⟨rfl,rfl⟩:=e1
               have hn2:(x::yy::rr).length=rr.length+2:=rfl
               have hcr:=HTQ.out.cap
               have hcm:=HTQ.out.most
               unfold maxLen at hcm
               rw [hn2] at hcr ⊢
               have dl:decide ((rr.length:Int)+2<2)=false:=decide_eq_false (by omega)
               have i1:(1:Int)<(rr.length:Int)+2:=by omega
               have i0:(0:Int)<(rr.length:Int)+2:=by omega
               have HFx:Hid (AN=if x=wPort then (if isNum (piece yy) then (if inB (numS (piece yy)) 0 15 then fin1 ⟨KD,FR,numS (piece yy),0,k',0⟩ rr else bad 5) else bad 4) else fin1 ⟨KD,FR,po,0,k',0⟩ (x::yy::rr)):=HF.out
               clear HF
               by_cases hx:x=wPort
               · subst hx
                 rw [if_pos rfl] at HFx
                 have hq:((piece wPort).toList == [112,111,114,116])=true:=by rw [piece_ne];rfl
                 generalize piece wPort=X9 at *
                 have hsm:(piece yy).size≤maxLen:=by rw [piece_size];exact Nat.le_trans (HTQ.out.small yy (by simp)) (by unfold maxLen;omega)
                 have HSm:=hid hsm
                 clear hsm
                 go_wp2_with fail
                 go_region
                 go_wp2_with fail
                 refine (number_spec (piece yy) _ HSm.out).mono ?_
                 rintro e' w11 ⟨rfl,hw11⟩
                 have hw11:=hw11.symm
                 subst hw11
                 obtain ⟨NU,hNU⟩:∃ q,numS (piece yy)=q:=⟨_,rfl⟩
                 obtain ⟨IS,hIS⟩:∃ q,isNum (piece yy)=q:=⟨_,rfl⟩
                 rw [hNU,hIS] at HFx ⊢
                 clear hNU hIS HSm
                 cases IS with
                 | false =>
                  have eA:AN=bad 4:=HFx.out
                  subst eA
                  clear HFx
                  go_wp2
                  (try simp only [Exit.inBlock,Exit.then])
                  refine bodyPost_ret (v:=askV (bad 4)) (by rw [results_cell_two rfl];go_simp;rfl) rfl ?_
                  exact ⟨rfl,by have hbb:=HBw.out;exact Bl⟩
                 | true =>
                  rw [if_pos rfl] at HFx
                  go_wp2_with fail
                  refine (in_spec NU 0 15 _).mono ?_
                  rintro e' w12 ⟨rfl,hw12⟩
                  have hw12:=hw12.symm
                  subst hw12
                  obtain ⟨IB,hIB⟩:∃ q,inB NU 0 15=q:=⟨_,rfl⟩
                  rw [hIB] at HFx ⊢
                  clear hIB
                  cases IB with
                  | false =>
                   have eA:AN=bad 5:=HFx.out
                   subst eA
                   clear HFx
                   go_wp2
                   (try simp only [Exit.inBlock,Exit.then])
                   refine bodyPost_ret (v:=askV (bad 5)) (by rw [results_cell_two rfl];go_simp;rfl) rfl ?_
                   exact ⟨rfl,by have hbb:=HBw.out;exact Bl⟩
                  | true =>
                   rw [if_pos rfl] at HFx
                   by_cases hc2:cr=2
                   · have e0:rr=[]:=List.length_eq_zero_iff.1 (by omega)
                     subst e0
                     go_wp2
                     go_roundw
                     case rel=>exact ⟨1,[],_,0,NU,k',rfl,rfl,rfl,TRow.nil (Nat.zero_le _),HBl.out.drew.setCell (by exact hN) _,prow_port _ (World.rowIs.of_block HRo.out rfl),⟨far hw0 cp0,far hw0 cp1,far hw1 ct0,far hw1 ct1⟩,.inr (.inl ⟨rfl,HFx.out⟩)⟩
                     case measure=>simp [intOf]
                   · have HT2:Hid (TRow w.heap.size wr (some ⟨gq,oq+2,none⟩) (cr - 2) rr):=HTQ.out.tail.tail
                     go_wp2
                     go_roundw
                     case rel=>exact ⟨1,rr,_,cr - 2,NU,k',rfl,rfl,rfl,HT2.out.under ((Below.refl _ _).drew.setCell (by exact hNw) _),HBl.out.drew.setCell (by exact hN) _,prow_port _ (World.rowIs.of_block HRo.out rfl),⟨far hw0 cp0,far hw0 cp1,far hw1 ct0,far hw1 ct1⟩,.inr (.inl ⟨rfl,HFx.out⟩)⟩
                     case measure=>simp [intOf]
               · rw [if_neg hx] at HFx
                 have hq:((piece x).toList == [112,111,114,116])=false:=by rw [piece_ne];exact decide_eq_false hx
                 clear hx
                 go_wp2_with fail
                 go_region
                 go_wp2
                 go_roundw
                 case rel=>exact ⟨1,x::yy::rr,_,cr,po,k',rfl,rfl,rfl,HTQ.out.under Bl,HBl.out.drew,World.rowIs.of_block HRo.out rfl,⟨cp0,cp1,ct0,ct1⟩,.inr (.inl ⟨rfl,HFx.out⟩)⟩
                 case measure=>simp [intOf]
           · have HF:=hid hF
             clear hF
             rcases Q with _|⟨x,_|⟨yy,rr⟩⟩
             · have hn2:([]:List Wd).length=0:=rfl
               rw [hn2]
               go_wp2_with fail
               go_region
               go_wp2
               go_roundw
               case rel=>exact ⟨2,[],ar,cr,po,k',rfl,rfl,rfl,HTQ.out.under Bl,HBl.out.drew,World.rowIs.of_block HRo.out rfl,⟨cp0,cp1,ct0,ct1⟩,.inr (.inr ⟨rfl,HF.out⟩)⟩
               case measure=>simp [intOf]
             · have hn2:([x]:List Wd).length=1:=rfl
               rw [hn2]
               go_wp2_with fail
               go_region
               go_wp2
               go_roundw
               case rel=>exact ⟨2,[x],ar,cr,po,k',rfl,rfl,rfl,HTQ.out.under Bl,HBl.out.drew,World.rowIs.of_block HRo.out rfl,⟨cp0,cp1,ct0,ct1⟩,.inr (.inr ⟨rfl,HF.out⟩)⟩
               case measure=>simp [intOf]
             · obtain ⟨gq,oq,rfl,hgq,d0⟩:=HTQ.out.head
               obtain ⟨g1,o1,e1,-,d1⟩:=HTQ.out.cell 1 yy rfl
               simp only [Option.some.injEq,Addr.mk.injEq,and_true] at e1
               obtain ⟨rfl,rfl⟩:=e1
               have hn2:(x::yy::rr).length=rr.length+2:=rfl
               have hcr:=HTQ.out.cap
               have hcm:=HTQ.out.most
               unfold maxLen at hcm
               rw [hn2] at hcr ⊢
               have dl:decide ((rr.length:Int)+2<2)=false:=decide_eq_false (by omega)
               have i1:(1:Int)<(rr.length:Int)+2:=by omega
               have i0:(0:Int)<(rr.length:Int)+2:=by omega
               have HFx:Hid (AN=if x=wFail then (if isNum (piece yy) then (if inB (numS (piece yy)) 0 2 then fin2 ⟨KD,FR,po,0,numS (piece yy),0⟩ rr else bad 5) else bad 4) else fin2 ⟨KD,FR,po,0,k',0⟩ (x::yy::rr)):=HF.out
               clear HF
               by_cases hx:x=wFail
               · subst hx
                 rw [if_pos rfl] at HFx
                 have hq:((piece wFail).toList == [102,97,105,108])=true:=by rw [piece_ne];rfl
                 generalize piece wFail=X9 at *
                 have hsm:(piece yy).size≤maxLen:=by rw [piece_size];exact Nat.le_trans (HTQ.out.small yy (by simp)) (by unfold maxLen;omega)
                 have HSm:=hid hsm
                 clear hsm
                 go_wp2_with fail
                 go_region
                 go_wp2_with fail
                 refine (number_spec (piece yy) _ HSm.out).mono ?_
                 rintro e' w11 ⟨rfl,hw11⟩
                 have hw11:=hw11.symm
                 subst hw11
                 obtain ⟨NU,hNU⟩:∃ q,numS (piece yy)=q:=⟨_,rfl⟩
                 obtain ⟨IS,hIS⟩:∃ q,isNum (piece yy)=q:=⟨_,rfl⟩
                 rw [hNU,hIS] at HFx ⊢
                 clear hNU hIS HSm
                 cases IS with
                 | false =>
                  have eA:AN=bad 4:=HFx.out
                  subst eA
                  clear HFx
                  go_wp2
                  (try simp only [Exit.inBlock,Exit.then])
                  refine bodyPost_ret (v:=askV (bad 4)) (by rw [results_cell_two rfl];go_simp;rfl) rfl ?_
                  exact ⟨rfl,by have hbb:=HBw.out;exact Bl⟩
                 | true =>
                  rw [if_pos rfl] at HFx
                  go_wp2_with fail
                  refine (in_spec NU 0 2 _).mono ?_
                  rintro e' w12 ⟨rfl,hw12⟩
                  have hw12:=hw12.symm
                  subst hw12
                  obtain ⟨IB,hIB⟩:∃ q,inB NU 0 2=q:=⟨_,rfl⟩
                  rw [hIB] at HFx ⊢
                  clear hIB
                  cases IB with
                  | false =>
                   have eA:AN=bad 5:=HFx.out
                   subst eA
                   clear HFx
                   go_wp2
                   (try simp only [Exit.inBlock,Exit.then])
                   refine bodyPost_ret (v:=askV (bad 5)) (by rw [results_cell_two rfl];go_simp;rfl) rfl ?_
                   exact ⟨rfl,by have hbb:=HBw.out;exact Bl⟩
                  | true =>
                   rw [if_pos rfl] at HFx
                   by_cases hc2:cr=2
                   · have e0:rr=[]:=List.length_eq_zero_iff.1 (by omega)
                     subst e0
                     go_wp2
                     go_roundw
                     case rel=>exact ⟨2,[],_,0,po,NU,rfl,rfl,rfl,TRow.nil (Nat.zero_le _),HBl.out.drew,World.rowIs.of_block HRo.out rfl,⟨cp0,cp1,ct0,ct1⟩,.inr (.inr ⟨rfl,HFx.out⟩)⟩
                     case measure=>simp [intOf]
                   · have HT2:Hid (TRow w.heap.size wr (some ⟨gq,oq+2,none⟩) (cr - 2) rr):=HTQ.out.tail.tail
                     go_wp2
                     go_roundw
                     case rel=>exact ⟨2,rr,_,cr - 2,po,NU,rfl,rfl,rfl,HT2.out.under (Below.refl _ _).drew,HBl.out.drew,World.rowIs.of_block HRo.out rfl,⟨cp0,cp1,ct0,ct1⟩,.inr (.inr ⟨rfl,HFx.out⟩)⟩
                     case measure=>simp [intOf]
               · rw [if_neg hx] at HFx
                 have hq:((piece x).toList == [102,97,105,108])=false:=by rw [piece_ne];exact decide_eq_false hx
                 clear hx
                 go_wp2_with fail
                 go_region
                 go_wp2
                 go_roundw
                 case rel=>exact ⟨2,x::yy::rr,_,cr,po,k',rfl,rfl,rfl,HTQ.out.under Bl,HBl.out.drew,World.rowIs.of_block HRo.out rfl,⟨cp0,cp1,ct0,ct1⟩,.inr (.inr ⟨rfl,HFx.out⟩)⟩
                 case measure=>simp [intOf]
           · rcases Q with _|⟨x,rr⟩
             · have eA:AN=⟨KD,FR,po,0,k',0⟩:=hF
               subst eA
               clear hF
               go_wp2
               (try simp only [Exit.inBlock,Exit.then])
               obtain ⟨y0,y1,y2,y3⟩:=prow_cells (prow_set (k:=KD) (f:=FR) (p:=po) (y:=0) HR1.out)
               have HB20:Below w.heap.size w ((((wr.setCell ⟨w.heap.size+1,0,none⟩ (.int .i64 KD)).setCell ⟨w.heap.size+1,1,none⟩ (.int .i64 FR)).setCell ⟨w.heap.size+1,2,none⟩ (.int .i64 po)).setCell ⟨w.heap.size+1,3,none⟩ (.int .i64 0)):=by have hbb:=HBw.out;exact Bl
               generalize (((wr.setCell ⟨w.heap.size+1,0,none⟩ (.int .i64 KD)).setCell ⟨w.heap.size+1,1,none⟩ (.int .i64 FR)).setCell ⟨w.heap.size+1,2,none⟩ (.int .i64 po)).setCell ⟨w.heap.size+1,3,none⟩ (.int .i64 0)=w20 at *
               refine bodyPost_ret (v:=askV ⟨KD,FR,po,0,k',0⟩) (by rw [results_cell_two rfl];go_simp;rfl) rfl ?_
               exact ⟨rfl,HB20⟩
             · have eA:AN=bad 4:=hF
               subst eA
               have hn2:(x::rr).length=rr.length+1:=rfl
               rw [hn2]
               have dl:decide ((0:Int)<(rr.length:Int)+1)=true:=decide_eq_true (by omega)
               clear hF
               go_wp2
               (try simp only [Exit.inBlock,Exit.then])
               refine bodyPost_ret (v:=askV (bad 4)) (by rw [results_cell_two rfl];go_simp;rfl) rfl ?_
               exact ⟨rfl,by have hbb:=HBw.out;exact Bl⟩
   · have hq:((piece x).toList == [118,101,114,105,102,121])=false:=by rw [piece_ne];exact decide_eq_false hx
     rw [if_neg hx]
     generalize piece x=X at *
     clear hx
     go_enter Tryz.func19,Tryz.ntmps19
     go_wp2
     refine bodyPost_ret (v:=askV (bad 4)) (by rw [results_cell_two rfl];go_simp;rfl) rfl ?_
     exact ⟨rfl,Bl⟩
end Go.Proofs.YthompjbplddkgaaGreatDoor.askSpec
