import Derived.Test.YthompjbplddkgaaGreatDoorPart18
import Derived.BigRegion
import Derived.Test.YthompjbplddkgaaGreatDoorDrawnLin
set_option linter.unusedVariables false
namespace Go.Proofs.YthompjbplddkgaaGreatDoor.source
open Go.RowKit Go.Deep Go.Sort base intsOwn
def Bytes (w : World) (a : Option Addr) (len : Nat) : Prop := ∀ i,i<len→∃ bb off,a=some ⟨bb,off,none⟩∧∃ x : Nat,x<256∧w.cell? ⟨bb,off+i,none⟩=some (.int .u8 x)
structure Src (w : World) (b : Nat) (a : Option Addr) (len cap k : Nat) : Prop where
 long:len≤1048576
 cells:∃ n s:Int,0≤n∧n≤k∧0≤s∧s<2147483648∧w.rowIs b 64 3 (fun i=>if i=0 then .slice a len cap else if i=1 then .int .i64 n else .int .i64 s)
 bytes:∀ i,i<len→∃ bb off,a=some ⟨bb,off,none⟩∧bb<b∧∃ x:Nat,x<256∧w.cell? ⟨bb,off+i,none⟩=some (.int .u8 x)
theorem Src.below {w w1:World} {b len cap k:Nat} {a:Option Addr} (h:Src w b a len cap k) (hb:Below w.heap.size w w1):Src w1 b a len cap k:=by
 obtain ⟨h1,⟨n,s,p1,p2,p3,p4,hr⟩,h3⟩:=h
 exact ⟨h1,⟨n,s,p1,p2,p3,p4,hr.of_block (hb.block _ hr.lt)⟩,fun i hi=>by
  obtain ⟨bb,off,e,hne,x,hx,hc⟩:=h3 i hi
  exact ⟨bb,off,e,hne,x,hx,keep hb hc⟩⟩
theorem Src.mono {w:World} {b len cap k k':Nat} {a:Option Addr} (h:Src w b a len cap k) (hk:k≤k'):Src w b a len cap k' := by
 obtain ⟨h1,⟨n,s,p1,p2,p3,p4,hr⟩,h3⟩:=h
 exact ⟨h1,⟨n,s,p1,by omega,p3,p4,hr⟩,h3⟩
theorem rem_range (x m:Int) (h:0≤x) (hm:0<m):0≤x.tmod m∧x.tmod m<m:=by
 rw [Int.tmod_eq_emod_of_nonneg h]
 exact ⟨Int.emod_nonneg _ (by omega),Int.emod_lt_of_pos _ hm⟩
theorem row_facts {w:World} {b:Nat} {x y z:Value} (h:w.rowIs b 64 3 (fun i=>if i=0 then x else if i=1 then y else z)) :
  w.cell? ⟨b,0,none⟩=some x∧w.cell? ⟨b,1,none⟩=some y∧w.cell? ⟨b,2,none⟩=some z∧w.frozen? ⟨b,1,none⟩=false∧w.frozen? ⟨b,2,none⟩=false :=
 ⟨by simpa using h.cell (i:=0) (by omega),by simpa using h.cell (i:=1) (by omega),by simpa using h.cell (i:=2) (by omega),h.frozen 1,h.frozen 2⟩
theorem row_set1 {w:World} {b:Nat} {x y z:Value} (h:w.rowIs b 64 3 (fun i=>if i=0 then x else if i=1 then y else z)) (v:Value):(w.setCell ⟨b,1,none⟩ v).rowIs b 64 3 (fun i=>if i=0 then x else if i=1 then v else z) :=
 (h.set 1 v).congr (fun i hi=>by rcases (show i=0∨i=1∨i=2 by omega) with rfl|rfl|rfl <;> simp)
theorem row_set2 {w:World} {b:Nat} {x y z:Value} (h:w.rowIs b 64 3 (fun i=>if i=0 then x else if i=1 then y else z)) (v:Value):(w.setCell ⟨b,2,none⟩ v).rowIs b 64 3 (fun i=>if i=0 then x else if i=1 then y else v) :=
 (h.set 2 v).congr (fun i hi=>by rcases (show i=0∨i=1∨i=2 by omega) with rfl|rfl|rfl <;> simp)
theorem grown_drewN {w w1:World} {row:Option Nat} (h:w.grownBy w1 row) (n:Nat):w.grownBy (w1.drewN n) row:=⟨h.os,h.tape,h.output,h.size,h.block⟩
theorem far {w w1:World} {b bb o:Nat} {v:Value} (h:w.grownBy w1 (some b)) (hne:bb<b) (hc:w.cell? ⟨bb,o,none⟩=some v):w1.cell? ⟨bb,o,none⟩=some v:=by
 rw [World.cell?_of_block (a:=⟨bb,o,none⟩) (h.block bb (World.block_lt_of_cell? _ _ hc) (fun e=>Nat.ne_of_lt hne (by injection e)))]
 exact hc
set_option maxHeartbeats 1600000 in
theorem byte_src (b:Nat) (a:Option Addr) (len cap k:Nat) (w:World) (h:Src w b a len cap k) (hk:k≤1048576) :
  Calls Tryz.prog 60 #[.pointer (some ⟨b,0,none⟩)] w fun e w'=>∃ r:Int,e=.returned (.int .i64 r)∧0≤r∧r<256∧Src w' b a len cap (k+1)∧w.grownBy w' (some b):=by
 obtain ⟨hlong,⟨n,s,p1,p2,p3,p4,hr⟩,hbytes⟩:=h
 obtain ⟨c0,c1,c2,f1,f2⟩:=row_facts hr
 have HR1:=hid (row_set1 hr (.int .i64 (n+1)))
 have HBy:=hid hbytes
 have HG1:Hid (w.grownBy (w.setCell ⟨b,1,none⟩ (.int .i64 (n+1))) (some b)):=grown_set (grown_refl _ _)
 clear hbytes hr
 go_enter Tryz.func60,Tryz.ntmps60
 go_wp2
 generalize w.setCell ⟨b,1,none⟩ (.int .i64 (n+1))=W1 at HR1 HG1 ⊢
 obtain ⟨d0,d1,d2,g1,g2⟩:=row_facts HR1.out
 clear c0 c1 c2 f1 f2
 obtain ⟨m,rfl⟩:=Int.eq_ofNat_of_zero_le p1
 by_cases hle:(m:Int)+1≤(len:Int)
 · obtain ⟨bb,off,rfl,hne,x,hx,hc⟩:=HBy.out m (by omega)
   have hcx:=far HG1.out hne hc
   clear hc
   go_quiet (fail)
   have e0:(W1.drewN nq).cell? ⟨b,0,none⟩=some (.slice (some ⟨bb,off,none⟩) len cap):=d0
   have e1:(W1.drewN nq).cell? ⟨b,1,none⟩=some (.int .i64 ((m:Int)+1)):=d1
   have e2:(W1.drewN nq).cell? ⟨b,2,none⟩=some (.int .i64 s):=d2
   have e3:(W1.drewN nq).cell? ⟨bb,off+m,none⟩=some (.int .u8 x):=hcx
   have e4:(W1.drewN nq).frozen? ⟨b,2,none⟩=false:=g2
   have HR2:Hid ((W1.drewN nq).rowIs b 64 3 (fun i=>if i=0 then .slice (some ⟨bb,off,none⟩) len cap else if i=1 then .int .i64 ((m:Int)+1) else .int .i64 s)):=HR1.out
   have HG2:=hid (grown_drewN HG1.out nq)
   clear d0 d1 d2 g1 g2 hcx HR1 HG1
   generalize W1.drewN nq=W2 at *
   have hrem:=rem_range (s*31+x+7) 2147483648 (by omega) (by omega)
   go_wp2
   go_region
   have hs2:0≤(s*31+x+7) % 2147483648∧(s*31+x+7) % 2147483648<2147483648:=⟨Int.emod_nonneg _ (by omega),Int.emod_lt_of_pos _ (by omega)⟩
   generalize (s*31+x+7) % 2147483648=s2 at *
   have HR3:Hid ((W2.setCell ⟨b,2,none⟩ (.int .i64 s2)).drew.rowIs b 64 3 (fun i=>if i=0 then .slice (some ⟨bb,off,none⟩) len cap else if i=1 then .int .i64 ((m:Int)+1) else .int .i64 s2)):=row_set2 HR2.out _
   have HG3:Hid (w.grownBy (W2.setCell ⟨b,2,none⟩ (.int .i64 s2)).drew (some b)):=grown_drewN (grown_set HG2.out) 1
   have e3':(W2.setCell ⟨b,2,none⟩ (.int .i64 s2)).drew.cell? ⟨bb,off+m,none⟩=some (.int .u8 x):=far (w:=W2) (b:=b) (grown_drewN (grown_set (grown_refl _ _)) 1) hne e3
   clear e0 e1 e2 e3 e4 HR2 HG2
   generalize (W2.setCell ⟨b,2,none⟩ (.int .i64 s2)).drew=W3 at *
   obtain ⟨e0,e1,e2,_,_⟩:=row_facts HR3.out
   go_wp2
   go_quiet (fail)
   go_wp2
   go_ret
   refine ⟨x,rfl,by omega,by omega,⟨hlong,⟨(m:Int)+1,s2,by omega,by omega,hs2.1,hs2.2,HR3.out⟩,fun i hi=>?_⟩,grown_drewN HG3.out _⟩
   obtain ⟨bb',off',e,hne',x',hx',hc'⟩:=HBy.out i hi
   exact ⟨bb',off',e,hne',x',hx',far (grown_drewN HG3.out _) hne' hc'⟩
 · have HRest : Hid (∀ i, i < len → ∃ bb off, a = some ⟨bb, off, none⟩ ∧ bb < b ∧ ∃ x : Nat, x < 256 ∧ W1.cell? ⟨bb, off + i, none⟩ = some (.int .u8 x)) := fun i hi => by
    obtain ⟨bb',off',e,hne',x',hx',hc'⟩:=HBy.out i hi
    exact ⟨bb',off',e,hne',x',hx',far HG1.out hne' hc'⟩
   go_quiet (fail)
   have e1:(W1.drewN nq).cell? ⟨b,1,none⟩=some (.int .i64 ((m:Int)+1)):=d1
   have e2:(W1.drewN nq).cell? ⟨b,2,none⟩=some (.int .i64 s):=d2
   have e4:(W1.drewN nq).frozen? ⟨b,2,none⟩=false:=g2
   have HR2:Hid ((W1.drewN nq).rowIs b 64 3 (fun i=>if i=0 then .slice a len cap else if i=1 then .int .i64 ((m:Int)+1) else .int .i64 s)):=HR1.out
   have HG2:=hid (grown_drewN HG1.out nq)
   have HRest2:Hid (∀ i,i<len→∃ bb off,a=some ⟨bb,off,none⟩∧bb<b∧∃ x:Nat,x<256∧(W1.drewN nq).cell? ⟨bb,off+i,none⟩=some (.int .u8 x)):=HRest.out
   clear d0 d1 d2 g1 g2 HR1 HG1 HBy HRest
   generalize W1.drewN nq=W2 at *
   by_cases h3:3000<(m:Int)+1
   · go_wp2
     go_ret
     exact ⟨0,rfl,by omega,by omega,⟨hlong,⟨(m:Int)+1,s,by omega,by omega,p3,p4,HR2.out⟩,HRest2.out⟩,HG2.out⟩
   · have hs2:0≤(s*1103515245+12345) % 2147483648∧(s*1103515245+12345) % 2147483648<2147483648:=⟨Int.emod_nonneg _ (by omega),Int.emod_lt_of_pos _ (by omega)⟩
     have HR3:=hid (row_set2 HR2.out (.int .i64 ((s*1103515245+12345) % 2147483648)))
     obtain ⟨_,_,t2,_,_⟩:=row_facts HR3.out
     have HS2:=hid hs2
     clear hs2
     go_wp2
     go_ret
     refine ⟨_,rfl,Int.emod_nonneg _ (by omega),Int.emod_lt_of_pos _ (by omega),⟨hlong,⟨(m:Int)+1,_,by omega,by omega,HS2.out.1,HS2.out.2,HR3.out⟩,fun i hi=>?_⟩,grown_set HG2.out⟩
     obtain ⟨bb',off',e,hne',x',hx',hc'⟩:=HRest2.out i hi
     exact ⟨bb',off',e,hne',x',hx',far (grown_set (grown_refl _ _)) hne' hc'⟩
set_option maxHeartbeats 800000 in
theorem next_src (b:Nat) (a:Option Addr) (len cap k:Nat) (n:Int) (w:World) (h:Src w b a len cap k) (hk:k≤1048576) (hn:1≤n) (hn':n≤256) :
  Calls Tryz.prog 28 #[.pointer (some ⟨b,0,none⟩),.int .i64 n] w fun e w'=>∃ r:Int,e=.returned (.int .i64 r)∧0≤r∧r<n∧Src w' b a len cap (k+1)∧w.grownBy w' (some b):=by
 have HS:=hid h
 clear h
 by_cases h1n:n=1
 · subst h1n
   go_enter Tryz.func28,Tryz.ntmps28
   go_wp2
   go_ret
   exact ⟨0,rfl,by omega,by omega,HS.out.mono (by omega),grown_refl _ _⟩
 have hgt:1<n:=by omega
 go_enter Tryz.func28,Tryz.ntmps28
 go_wp2_with fail
 refine (byte_src b a len cap k _ HS.out hk).mono ?_
 rintro e w1 ⟨r,rfl,h0,h1,hs1,hg1⟩
 have HS1:=hid hs1
 have HG1:=hid hg1
 clear hs1 hg1
 have hr:=rem_range r n h0 (by omega)
 have HRm:=hid hr
 clear hr
 go_wp2
 go_ret
 exact ⟨r % n,rfl,Int.emod_nonneg _ (by omega),Int.emod_lt_of_pos _ (by omega),HS1.out,HG1.out⟩
set_option maxHeartbeats 800000 in
theorem chance_src (b:Nat) (a:Option Addr) (len cap k:Nat) (n:Int) (w:World) (h:Src w b a len cap k) (hk:k≤1048576) (hn:1<n) (hn':n≤256) :
  Calls Tryz.prog 31 #[.pointer (some ⟨b,0,none⟩),.int .i64 n] w fun e w'=>∃ t:Bool,e=.returned (.bool t)∧Src w' b a len cap (k+1)∧w.grownBy w' (some b):=by
 have HS:=hid h
 clear h
 go_enter Tryz.func31,Tryz.ntmps31
 go_wp2_with fail
 refine (next_src b a len cap k n _ HS.out hk (by omega) hn').mono ?_
 rintro e w1 ⟨r,rfl,h0,h1,hs1,hg1⟩
 have HS1:=hid hs1
 have HG1:=hid hg1
 clear hs1 hg1
 go_wp2
 go_ret
 exact ⟨_,rfl,HS1.out,HG1.out⟩
set_option maxHeartbeats 800000 in
theorem source_spec (a:Option Addr) (len cap:Nat) (w:World) (hb:Bytes w a len) (hl:len≤1048576) :
  Calls Tryz.prog 12 #[.slice a len cap] w fun e w'=>∃ b,e=.returned (.pointer (some ⟨b,0,none⟩))∧b=w.heap.size∧b<w'.heap.size∧Src w' b a len cap 0∧Below w.heap.size w w' := by
 have HB:=hid hb
 clear hb
 go_enter Tryz.func12,Tryz.ntmps12
 go_wp2
 go_ret
 refine ⟨w.heap.size,rfl,rfl,by simp,⟨hl,⟨0,(len:Int) % 1000,by omega,by omega,Int.emod_nonneg _ (by omega),?_,?_⟩,fun i hi=>?_⟩,Bl⟩
 · have:=Int.emod_lt_of_pos (len:Int) (show (0:Int)<1000 by omega)
   omega
 · exact World.rowIs_alloc w #[.slice a len cap, .int .i64 0, .int .i64 ((len : Int) % 1000)] _ _ (fun i hi => by
    have h3:i<3:=hi
    rcases (show i=0∨i=1∨i=2 by omega) with rfl|rfl|rfl <;> rfl)
 · obtain ⟨bb,off,e,x,hx,hc⟩:=HB.out i hi
   exact ⟨bb,off,e,World.block_lt_of_cell? _ _ hc,x,hx,keep Bl hc⟩
end Go.Proofs.YthompjbplddkgaaGreatDoor.source
namespace Go.Proofs.YthompjbplddkgaaGreatDoor.drawnLin
open Go Go.RowKit Go.Deep Go.Sort base heldStore drawn
theorem Chg.mono {X Y:Nat→Prop} {w w':World} (h:Chg X w w') (hx:∀ k,X k→Y k):Chg Y w w' := ⟨h.os,h.tape,h.output,h.size,fun k hk hn=>h.block k hk (fun h'=>hn (hx k h'))⟩
theorem Chg.trans {X:Nat→Prop} {w w1 w2:World} (h:Chg X w w1) (h':Chg X w1 w2):Chg X w w2 :=
 ⟨h'.os.trans h.os,h'.tape.trans h.tape,h'.output.trans h.output,Nat.le_trans h.size h'.size,fun k hk hn=>(h'.block k (Nat.lt_of_lt_of_le hk h.size) hn).trans (h.block k hk hn)⟩
theorem Chg.cell {X:Nat→Prop} {w w':World} (h:Chg X w w') {q o:Nat} {v:Value} (hn:¬ X q) (hc:w.cell? ⟨q,o,none⟩=some v):w'.cell? ⟨q,o,none⟩=some v :=
 (World.cell?_of_block (a:=⟨q,o,none⟩) (h.block q (World.block_lt_of_cell? _ _ hc) hn)).trans hc
theorem Chg.drew {X:Nat→Prop} {w w1:World} (h:Chg X w w1):Chg X w w1.drew:=h.trans (Chg.of_below (Below.refl _ _).drew)
theorem Chg.drewN {X:Nat→Prop} {w w1:World} (h:Chg X w w1) (n:Nat):Chg X w (w1.drewN n):=h.trans (Chg.of_below (below_drewN _ _))
theorem Chg.set {X:Nat→Prop} {w w1:World} (h:Chg X w w1) {q o:Nat} (hq:X q∨w.heap.size≤q) (v:Value):Chg X w (w1.setCell ⟨q,o,none⟩ v) :=
 ⟨by rw [setCell_eq];exact h.os,by rw [setCell_eq];exact h.tape,by rw [setCell_eq];exact h.output,Nat.le_trans h.size (by simp [World.setCell]),fun k hk hn=>(Below.heap_setCell _ _ _ _ (by dsimp only;intro e;subst e;rcases hq with hq|hq;exact hn hq;omega)).trans (h.block k hk hn)⟩
end Go.Proofs.YthompjbplddkgaaGreatDoor.drawnLin
namespace Go.Proofs.YthompjbplddkgaaGreatDoor.drawnSrc
open Go Go.RowKit base heldStore drawn drawnLin source
variable {P : Program} {ops : Array Oper} {Q : Exit→Act→World→Prop}
def cnt (L : Nat→Bool) : Nat→Nat
 | 0=>0
 | n+1=>cnt L n+(if L n=true then 1 else 0)
theorem cnt_le (L:Nat→Bool):∀ n,cnt L n≤n
 | 0=>Nat.le_refl _
 | n+1=>by
  have:=cnt_le L n
  simp only [cnt]
  split <;> omega
theorem cnt_out {L:Nat→Bool} {i:Nat}:∀ n,n≤i→cnt (come L i) n=cnt L n
 | 0,_=>rfl
 | n+1,h=>by
  simp only [cnt]
  rw [cnt_out n (by omega),come_ne (by omega)]
theorem cnt_come {L:Nat→Bool} {i:Nat} (h:L i=false):∀ n,i<n→cnt (come L i) n=cnt L n+1
 | 0,hi=>by omega
 | n+1,hi=>by
  simp only [cnt]
  by_cases e:i=n
  · subst e
    rw [cnt_out _ (Nat.le_refl _),come_same,h]
    simp
  · rw [cnt_come h n (by omega),come_ne (by omega)]
    omega
theorem region_src {id:Nat} {a:Act} {w:World} (A:(Nat→Value)→Act) (s:Nat→Nat) (φ:Nat→Value→World→Prop) (P0:World→Prop) (Y:Nat→Prop) (W:World) (n q b:Nat) (ca:Option Addr) (len cap k0:Nat) (u0:Nat→Value) (ha:a=A u0)
  (hm:P.follows .mixedOrders=true) (hz:ops.size=n+1) (hE:LastOf ops n) (hup:upB ops=true)
  (hW:Chg (fun k=>k=b) W w) (hs:Src w b ca len cap k0) (hP:P0 w)
  (hput:∀ i,i<n→∀ u v,(A u).put (some (s i)) v=A (upd u (s i) v)) (hinj:∀ i j,i<n→j<n→s i=s j→i=j)
  (stable:∀ i v w w',Chg (fun k=>k=b∨(i≠q∧Y k)) w w'→φ i v w→φ i v w')
  (stable0:∀ w w',Chg (fun k=>k=b) w w'→P0 w→P0 w')
  (step:∀ i,i<n→∀ u w k,Chg (fun k=>k=b∨Y k) W w→Src w b ca len cap k→k≤k0+n→(i=q→P0 w∧Chg (fun k=>k=b) W w)→(∀ j,Region.waitsFor .any ops i j=true→φ j (u (s j)) w)→∃ o,ops[i]? = some o∧∀ K':Act→World→Prop,Shut (∀ v w',Chg (fun k=>k=b∨(i=q∧Y k)) w w'→Src w' b ca len cap (k+1)→φ i v w'→K' ((A u).put (some (s i)) v) w')→if Region.wanted o (yielded ops (A u).tmps)=true then Oper.wp P o (A u) w K' Q else K' ((A u).put o.dst undef) w)
  (last:∀ u w,Chg (fun k=>k=b∨Y k) W w→Src w b ca len cap (k0+n)→(∀ j,j<n→φ j (u (s j)) w)→∃ o,ops[n]? = some o∧∀ K':Act→World→Prop,Shut (∀ a w,Q .normal a w→K' a w)→if Region.wanted o (yielded ops (A u).tmps)=true then Oper.wp P o (A u) w K' Q else K' ((A u).put o.dst undef) w) :
  (Code.region id ops true).wp P Q a w:=by
 have hd:Chg (fun k=>k=b) w w.drew:=(Chg.refl _ w).drew
 refine region_all A s (fun L u w8=>Chg (fun k=>k=b∨Y k) W w8∧(L q=false→P0 w8∧Chg (fun k=>k=b) W w8)∧Src w8 b ca len cap (k0+cnt L n)∧(∀ j,j<n→L j=true→φ j (u (s j)) w8)) n u0 ha hm hz hE hup ⟨(Chg.trans hW hd).mono (fun k hk=>.inl hk),fun _=>⟨stable0 _ _ hd hP,Chg.trans hW hd⟩,(hs.below (Below.refl _ _).drew).mono (Nat.le_add_right _ _),fun j _ h=>(by cases h)⟩ hput ?_ ?_
 · intro i hi L u w8 hLi hwait hI
   obtain ⟨h1,h2,h3,h4⟩:=hI
   obtain ⟨o,ho,h⟩:=step i hi u w8 _ h1 h3 (by have:=cnt_le L n;omega) (fun e=>h2 (by rw [← e];exact hLi)) (fun j hj=>by
    obtain ⟨oj,hoj,e,he,hb,hon⟩:=Region.waitsFor_spec hj
    have h5:=upB_spec hup hoj e he
    rw [hon] at h5
    exact h4 j (by omega) (hwait j hj))
   refine ⟨o,ho,fun K' hK=>h K' fun v w' hc hs' hv=>hK.out v w' ⟨Chg.trans h1 (hc.mono fun k hk=>?_),fun hq=>?_,?_,fun j hj hl=>?_⟩⟩
   · rcases hk with hk|hk
     · exact .inl hk
     · exact .inr hk.2
   · have e:i≠q:=fun e=>by subst e;rw [come_same] at hq;cases hq
     rw [come_ne (Ne.symm e)] at hq
     obtain ⟨g1,g2⟩:=h2 hq
     have hc':Chg (fun k=>k=b) w8 w' := hc.mono fun k hk=>by
      rcases hk with hk|hk
      · exact hk
      · exact absurd hk.1 e
     exact ⟨stable0 _ _ hc' g1,Chg.trans g2 hc'⟩
   · rw [cnt_come hLi n hi];exact hs'
   · by_cases e:j=i
     · subst e;rw [upd_same];exact hv
     · rw [come_ne e] at hl
       rw [upd_ne _ _ (fun e'=>e (hinj j i hj hi e'))]
       refine stable j _ _ _ (hc.mono fun k hk=>?_) (h4 j hj hl)
       rcases hk with hk|hk
       · exact .inl hk
       · exact .inr ⟨fun e'=>e (by rw [e',hk.1]),hk.2⟩
 · intro L u w8 hall hI
   obtain ⟨h1,h2,h3,h4⟩:=hI
   exact last u w8 h1 (h3.mono (by have:=cnt_le L n;omega)) (fun j hj=>h4 j hj (hall j hj))
def upC (ops : Array Oper) : Bool := (List.range ops.size).all fun i=>((ops[i]?).map (·.after.all fun e=>!Region.binds .any e || decide (e.on<i))).getD true
theorem upC_spec (h:upC ops=true) {i:Nat} {o:Oper} (ho:ops[i]? = some o):∀ e∈o.after,Region.binds .any e=true→e.on<i:=by
 have hlt:i<ops.size:=(Array.getElem?_eq_some_iff.1 ho).1
 have h1:=List.all_eq_true.1 h i (List.mem_range.2 hlt)
 rw [ho] at h1
 simp only [Option.map_some,Option.getD_some,Array.all_eq_true_iff_forall_mem] at h1
 intro e he hb
 have h2:=h1 e he
 rw [hb] at h2
 simpa using h2
theorem ready_neC (h:upC ops=true) {listed:Array Bool} (hs:listed.size=ops.size):∀ n,listed.getD n true=false→Region.ready .any ops listed≠[]:=by
 intro n
 induction n using Nat.strongRecOn with
 | _ n ih =>
  intro hn he
  have hlt:n<ops.size:=by
   rcases Nat.lt_or_ge n listed.size with h'|h'
   · omega
   · simp [Array.getElem?_eq_none h'] at hn
  by_cases hall:∀ e∈(ops[n]).after,Region.binds .any e=true→listed.getD e.on false=true
  · have:n∈Region.ready .any ops listed:=mem_ready.2 ⟨hn,ops[n],by simp [hlt],hall⟩
    rw [he] at this
    cases this
  · have hx : ∃ e ∈ (ops[n]).after, Region.binds .any e = true ∧ listed.getD e.on false = false := by
     apply Classical.byContradiction
     intro hno
     refine hall fun e he' hb'=>?_
     cases hb:listed.getD e.on false with
     | true=>rfl
     | false=>exact absurd ⟨e,he',hb',hb⟩ hno
    obtain ⟨e,he',hbi,hb⟩:=hx
    have hlt' := upC_spec h (i:=n) (o:=ops[n]) (by simp [hlt]) e he' hbi
    exact ih e.on hlt' (getD_in (by omega) hb) he
def waitB (ops : Array Oper) (st n : Nat) (late : Nat→Bool) : Bool := (List.range n).all fun i=>decide (i=st) || late i || Region.waitsFor .any ops st i
theorem waitB_spec {st n:Nat} {late:Nat→Bool} (h:waitB ops st n late=true):∀ i,i<n→i≠st→late i=false→Region.waitsFor .any ops st i=true:=fun i hi hne hl=>by
 have h1:=List.all_eq_true.1 h i (List.mem_range.2 hi)
 rw [hl,decide_eq_false hne] at h1
 simpa using h1
def updO (u : Nat→Value) : Option Nat→Value→Nat→Value
 | none,_=>u
 | some k,v=>upd u k v
theorem any_free {A:(Nat→Value)→Act} {s:Nat→Option Nat} {Inv:(Nat→Bool)→(Nat→Value)→World→Prop} {n:Nat} (hz:ops.size=n) (hup:upC ops=true)
  (hput:∀ i,i<n→∀ u v,(A u).put (s i) v=A (updO u (s i) v))
  (step:∀ i,i<n→∀ L u w,L i=false→(∀ j,Region.waitsFor .any ops i j=true→L j=true)→Inv L u w→∃ o,ops[i]? = some o∧∀ K':Act→World→Prop,Shut (∀ v w',Inv (come L i) (updO u (s i) v) w'→K' ((A u).put (s i) v) w')→if Region.wanted o (yielded ops (A u).tmps)=true then Oper.wp P o (A u) w K' Q else K' ((A u).put o.dst undef) w)
  (fin:∀ L u w,(∀ j,j<n→L j=true)→Inv L u w→Q .normal (A u) w) :
  ∀ (fuel:Nat) (listed:Array Bool) (u:Nat→Value) (w:World),falses listed.toList≤fuel→listed.size=n→Inv (fun j=>listed.getD j false) u w→wpAny P .any ops Q fuel listed (A u) w:=by
 have done:∀ (listed:Array Bool),listed.size=n→Region.ready .any ops listed=[]→∀ j,j<n→listed.getD j false=true:=fun listed hs he j hj=>by
  cases hb:listed.getD j false with
  | true=>rfl
  | false=>exact absurd he (ready_neC hup (by rw [hs,hz]) j (getD_in (by omega) hb))
 intro fuel
 induction fuel with
 | zero =>
  intro listed u w hf hs hI
  have hall:∀ j,j<n→listed.getD j false=true:=fun j hj=>by
   cases hb:listed.getD j false with
   | true=>rfl
   | false=>have:=falses_pos _ _ (at_false (getD_in (by omega) hb));omega
  refine ⟨?_,fin _ u w hall hI⟩
  cases hr:Region.ready .any ops listed with
  | nil=>rfl
  | cons k l =>
   have hk:k∈Region.ready .any ops listed:=by rw [hr];exact List.mem_cons_self
   obtain ⟨h1,ok,hok,_⟩:=mem_ready.1 hk
   have hklt:k<n:=by rw [← hz];exact (Array.getElem?_eq_some_iff.1 hok).1
   have h2:=hall k hklt
   rw [getD_both h1] at h2
   cases h2
 | succ fuel ih =>
  intro listed u w hf hs hI
  refine ⟨fun h=>fin _ u w (done listed hs h) hI,fun i hi=>?_⟩
  obtain ⟨hun,oi,hoi,hall⟩:=mem_ready.1 hi
  have hin:i<n:=by rw [← hz];exact (Array.getElem?_eq_some_iff.1 hoi).1
  obtain ⟨o,ho,h⟩:=step i hin (fun j=>listed.getD j false) u w (getD_both hun) (fun j hj=>by
   obtain ⟨oj,hoj,e,he,hb,hon⟩:=Region.waitsFor_spec hj
   have e1:oj=oi:=Option.some.inj (hoj.symm.trans hoi)
   subst e1
   have h1:=hall e he hb
   rw [hon] at h1
   exact h1) hI
  refine wpOp_step ho fun K' hK=>h K' fun v w' hI'=>hK _ _ ?_
  rw [hput i hin]
  refine ih _ _ _ ?_ (by simp [hs]) ?_
  · have:=falses_set _ _ (at_false hun)
    simp only [Array.toList_setIfInBounds]
    omega
  · have : (fun j => (listed.setIfInBounds i true).getD j false) = come (fun j => listed.getD j false) i := by
     funext j
     unfold come
     by_cases e:j=i
     · subst e
       rw [if_pos rfl]
       have:j<listed.size:=by rw [hs];omega
       simp [this]
     · rw [if_neg e,getD_set_ne false (Ne.symm e)]
    rw [this]
    exact hI'
theorem region_late {id:Nat} {a:Act} {w:World} (A:(Nat→Value)→Act) (s:Nat→Option Nat) (φ:Nat→Value→World→Prop) (ψ:World→Prop) (W:World) (n st b Mx:Nat) (late:Nat→Bool) (ca:Option Addr) (len cap k0:Nat) (u0:Nat→Value) (ha:a=A u0)
  (hm:P.follows .mixedOrders=true) (hz:ops.size=n) (hup:upC ops=true) (hst:st<n) (hsn:s st=none)
  (hwaitB:waitB ops st n late=true)
  (hW:Chg (fun k=>k=b) W w) (hs:Src w b ca len cap k0)
  (hput:∀ i,i<n→∀ u v,(A u).put (s i) v=A (updO u (s i) v)) (hinj:∀ i j,i<n→j<n→i≠st→s i=s j→i=j) (hsome:∀ i,i<n→i≠st→s i≠none)
  (stable:∀ i v w w',Chg (fun k=>k=b∨k=Mx) w w'→φ i v w→φ i v w')
  (step:∀ i,i<n→i≠st→late i=false→∀ u w k,Chg (fun k=>k=b) W w→Src w b ca len cap k→k≤k0+n→(∀ j,Region.waitsFor .any ops i j=true→φ j (u ((s j).getD 0)) w)→∃ o,ops[i]? = some o∧∀ K':Act→World→Prop,Shut (∀ v w',Chg (fun k=>k=b) w w'→Src w' b ca len cap (k+1)→φ i v w'→K' ((A u).put (s i) v) w')→if Region.wanted o (yielded ops (A u).tmps)=true then Oper.wp P o (A u) w K' Q else K' ((A u).put o.dst undef) w)
  (stepL:∀ i,i<n→i≠st→late i=true→∀ u w,(∀ j,Region.waitsFor .any ops i j=true→j≠st→φ j (u ((s j).getD 0)) w)→∃ o,ops[i]? = some o∧∀ K':Act→World→Prop,Shut (∀ v,φ i v w→K' ((A u).put (s i) v) w)→if Region.wanted o (yielded ops (A u).tmps)=true then Oper.wp P o (A u) w K' Q else K' ((A u).put o.dst undef) w)
  (store:∀ u w,Chg (fun k=>k=b) W w→Src w b ca len cap (k0+n)→(∀ j,Region.waitsFor .any ops st j=true→φ j (u ((s j).getD 0)) w)→∃ o,ops[st]? = some o∧∀ K':Act→World→Prop,Shut (∀ v w',Chg (fun k=>k=Mx) w w'→ψ w'→K' ((A u).put none v) w')→if Region.wanted o (yielded ops (A u).tmps)=true then Oper.wp P o (A u) w K' Q else K' ((A u).put o.dst undef) w)
  (fin:∀ u w,ψ w→Q .normal (A u) w) :
  (Code.region id ops true).wp P Q a w:=by
 have hwait:=waitB_spec hwaitB
 subst ha
 refine wp_region_any hm ?_
 rw [hz]
 have hd:Chg (fun k=>k=b) w w.drew:=(Chg.refl _ w).drew
 refine any_free (Inv:=fun L u w8=>(L st=false→Chg (fun k=>k=b) W w8∧Src w8 b ca len cap (k0+cnt L n))∧(L st=true→ψ w8)∧(L st=true→∀ j,Region.waitsFor .any ops st j=true→L j=true)∧∀ j,j<n→j≠st→L j=true→φ j (u ((s j).getD 0)) w8) hz hup hput ?_ ?_ _ _ _ _ ?_ (by simp) ?_
 · intro i hi L u w8 hLi hwt hI
   obtain ⟨h1,h2,h3,h4⟩:=hI
   have hdep:∀ j,Region.waitsFor .any ops i j=true→j≠st→φ j (u ((s j).getD 0)) w8:=fun j hj hne=>by
    obtain ⟨oj,hoj,e,he,hb,hon⟩:=Region.waitsFor_spec hj
    have h5:=upC_spec hup hoj e he hb
    rw [hon] at h5
    exact h4 j (by omega) hne (hwt j hj)
   by_cases ei:i=st
   · subst ei
     obtain ⟨g1,g2⟩:=h1 hLi
     obtain ⟨o,ho,h⟩:=store u w8 g1 (g2.mono (by have:=cnt_le L n;omega)) (fun j hj=>hdep j hj (fun e=>by
      rw [e] at hj
      obtain ⟨oj,hoj,e,he,hb,hon⟩:=Region.waitsFor_spec hj
      have h5:=upC_spec hup hoj e he hb
      omega))
     refine ⟨o,ho,fun K' hK=>h K' fun v w' hc hψ=>?_⟩
     have:=hK.out v w' ⟨fun hq=>(by rw [come_same] at hq;cases hq),fun _=>hψ,fun _ j hj=>come_old (hwt j hj),fun j hj hne hl=>(by
      rw [come_ne hne] at hl
      rw [hsn]
      exact stable j _ _ _ (hc.mono fun k hk=>.inr hk) (h4 j hj hne hl))⟩
     rw [hsn] at this
     exact this
   · obtain ⟨k, hk⟩ : ∃ k, s i = some k := by
      cases hh:s i with
      | none=>exact absurd hh (hsome i hi ei)
      | some k=>exact ⟨k,rfl⟩
     have ne':∀ j,j<n→j≠st→j≠i→((s j).getD 0)≠k:=fun j hj hjs hji e=>by
      cases hh:s j with
      | none=>exact hsome j hj hjs hh
      | some k' =>
       rw [hh] at e
       have e2:k' = k:=e
       exact hji (hinj j i hj hi hjs (by rw [hh,hk,e2]))
     cases hl:late i with
     | false =>
      have hLs:L st=false:=by
       cases hb:L st with
       | false=>rfl
       | true=>rw [h3 hb i (hwait i hi ei hl)] at hLi;cases hLi
      obtain ⟨g1,g2⟩:=h1 hLs
      obtain ⟨o,ho,h⟩:=step i hi ei hl u w8 _ g1 g2 (by have:=cnt_le L n;omega) (fun j hj=>hdep j hj (fun e=>by rw [e] at hj;rw [hwt st hj] at hLs;cases hLs))
      refine ⟨o,ho,fun K' hK=>h K' fun v w' hc hs' hv=>hK.out v w' ⟨fun _=>⟨Chg.trans g1 hc,?_⟩,fun hq=>(by rw [come_ne (Ne.symm ei),hLs] at hq;cases hq),fun hq=>(by rw [come_ne (Ne.symm ei),hLs] at hq;cases hq),fun j hj hne hl'=>?_⟩⟩
      · rw [cnt_come hLi n hi];exact hs'
      · by_cases e:j=i
        · subst e;rw [hk];simp only [updO,Option.getD_some];rw [upd_same];exact hv
        · rw [come_ne e] at hl'
          rw [hk];simp only [updO];rw [upd_ne _ _ (ne' j hj hne e)]
          exact stable j _ _ _ (hc.mono fun k hk=>.inl hk) (h4 j hj hne hl')
     | true =>
      obtain ⟨o,ho,h⟩:=stepL i hi ei hl u w8 hdep
      refine ⟨o,ho,fun K' hK=>h K' fun v hv=>hK.out v w8 ⟨fun hq=>?_,fun hq=>?_,fun hq j hj=>?_,fun j hj hne hl'=>?_⟩⟩
      · rw [come_ne (Ne.symm ei)] at hq
        obtain ⟨g1,g2⟩:=h1 hq
        exact ⟨g1,g2.mono (by rw [cnt_come hLi n hi];omega)⟩
      · rw [come_ne (Ne.symm ei)] at hq;exact h2 hq
      · rw [come_ne (Ne.symm ei)] at hq;exact come_old (h3 hq j hj)
      · by_cases e:j=i
        · subst e;rw [hk];simp only [updO,Option.getD_some];rw [upd_same];exact hv
        · rw [come_ne e] at hl'
          rw [hk];simp only [updO];rw [upd_ne _ _ (ne' j hj hne e)]
          exact h4 j hj hne hl'
 · intro L u w8 hall hI
   exact fin u w8 (hI.2.1 (hall st hst))
 · simp [falses_replicate]
 · have:(fun j=>(Array.replicate n false).getD j false)=fun _=>false:=by funext j;exact getD_replicate_false _ _
   rw [this]
   exact ⟨fun _=>⟨Chg.trans hW hd,(hs.below (Below.refl _ _).drew).mono (Nat.le_add_right _ _)⟩,fun h=>(by cases h),fun h=>(by cases h),fun j _ _ h=>(by cases h)⟩
end Go.Proofs.YthompjbplddkgaaGreatDoor.drawnSrc
