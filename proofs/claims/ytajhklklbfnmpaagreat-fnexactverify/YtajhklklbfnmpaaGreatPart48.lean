import Derived.Test.YtajhklklbfnmpaaGreatPart47
import Derived.BigRegion
import Derived.Test.YtajhklklbfnmpaaGreatDrawnLin
set_option linter.unusedVariables false
namespace Go.Proofs.YtajhklklbfnmpaaGreat.netArgs
open Go.ChangeShapes Go.WideShapes Go.ChangeAt Go.RowKit Go.Deep Go.Joins base netSem args
theorem cells_net : Tryz.prog.cellsOf 28=6 := by kernel_rfl
theorem cells_int : Tryz.prog.cellsOf 3=1 := by kernel_rfl
theorem cells_string : Tryz.prog.cellsOf 9=1 := by kernel_rfl
theorem add_add (x : Addr) (a b : Nat) : (x.add a).add b=x.add (a+b) := by
 by_cases ha:a=0
 · subst ha;simp [Addr.add]
 · by_cases hb:b=0
   · subst hb;simp [Addr.add]
   · simp [Addr.add,ha,hb,Nat.add_assoc]
variable {H : Type} {enc : TypeId × Value→H} {w : World} {base : Nat} {held : Bool}
theorem strs_of_trod {fuel : Nat} {v : Value} {x : DataW H × List MemPlace} (h : DataW.trod enc Tryz.prog w base (fun _=>true) held fuel 22 [v]=some x) : ∃ a len cap s,v=.slice a len cap∧StrRow w a len s := by
 rcases open_slice1 Tryz.underlying22 cells_string h with ⟨hcs,_⟩ | ⟨a,len,cap,m,n,V,D,Pl,hcs,hb,hl,hm,hmm,rfl,hx⟩
 · exact ⟨none,0,0,fun _=>ByteArray.empty,by simpa using hcs,⟨Nat.zero_le _,fun i hi=>absurd hi (Nat.not_lt_zero _),fun i hi=>absurd hi (Nat.not_lt_zero _)⟩⟩
 · simp only [if_true] at hmm
   subst hmm
   have each:∀ i,i < m→∃ b:ByteArray,V i=.string b∧b.size≤maxLen:=fun i hi=>by
    obtain ⟨b,e0,_,hz⟩:=DataW.trod_string Tryz.underlying9 (hx i hi).2
    exact ⟨b,by simpa using e0,hz⟩
   obtain ⟨f,hf⟩:=choose_lt each
   refine ⟨some a,len,m,f,by simpa using hcs,⟨Nat.le_trans hl hm,fun i hi=>(hf i (by omega)).2,fun i hi=>?_⟩⟩
   obtain ⟨e1,e2⟩:=at_none (hx 0 (by omega)).1 (hx i (by omega)).1
   exact ⟨a.block,a.off,by rw [← e1],by rw [e2,(hf i (by omega)).1]⟩
theorem list3 {α : Type} {l : List α} (h : l.length=3) : ∃ a0 a1 a2,l=[a0,a1,a2] := by
 match l,h with
 | [a0,a1,a2],_=>exact ⟨a0,a1,a2,rfl⟩
theorem list4 {α : Type} {l : List α} (h : l.length=4) : ∃ a0 a1 a2 a3,l=[a0,a1,a2,a3] := by
 match l,h with
 | [a0,a1,a2,a3],_=>exact ⟨a0,a1,a2,a3,rfl⟩
theorem list5 {α : Type} {l : List α} (h : l.length=5) : ∃ a0 a1 a2 a3 a4,l=[a0,a1,a2,a3,a4] := by
 match l,h with
 | [a0,a1,a2,a3,a4],_=>exact ⟨a0,a1,a2,a3,a4,rfl⟩
theorem Link_of_trod {fuel : Nat} {v : Value} {x : DataW H × List MemPlace} (h : DataW.trod enc Tryz.prog w base (fun _=>true) held fuel 23 [v]=some x) : ∃ a len cap g,v=.slice a len cap∧Row 3 w a len g := by
 have ce:Tryz.prog.cellsOf 112=3:=by kernel_rfl
 rcases DataW.trod_slice Tryz.underlying23 h with ⟨h0,_⟩ | ⟨a,len,cap,elems,rest,n,hn,hcs,rfl,hb,hl,hm,hlen,hel,hsp,hns⟩
 · exact ⟨none,0,0,fun _ _=>0,by simpa using h0,⟨Nat.zero_le _,fun i hi=>absurd hi (Nat.not_lt_zero _)⟩⟩
 · have each : ∀ i, i < len → ∃ q : Nat → Int, ∀ j, j < 3 → w.cell? (a.add (i * 3 + j)) = some (.int .i64 (q j)) := by
    intro i hi
    have key:=hel i hi
    rw [List.getElem?_eq_getElem (by omega)] at key
    obtain ⟨cs',h1,h2⟩:=Option.bind_eq_some_iff.1 key
    rw [ce] at h1
    obtain ⟨_,hcl,hcell⟩:=World.cells?_some h1
    obtain ⟨xs,k,hk,hxy,_,hxl,hf⟩:=DataW.trod_struct Tryz.underlying112 h2
    obtain ⟨y0,y1,y2,rfl⟩:=list3 (show xs.length=3 from hxl)
    obtain ⟨v0,v1,v2,rfl⟩:=list3 (show cs'.length=3 from hcl)
    have g0:=hf 0 _ rfl
    have g1:=hf 1 _ rfl
    have g2:=hf 2 _ rfl
    simp [cells_int] at g0 g1 g2
    obtain ⟨k0,e0,_⟩:=int_of_trod Tryz.underlying3 g0
    obtain ⟨k1,e1,_⟩:=int_of_trod Tryz.underlying3 g1
    obtain ⟨k2,e2,_⟩:=int_of_trod Tryz.underlying3 g2
    refine ⟨fun j=>match j with | 0=>k0 | 1=>k1 | 2=>k2 | _=>0,fun j hj=>?_⟩
    have qj:=hcell j (by omega)
    rw [add_add] at qj
    clear g0 g1 g2 hf hcell h h2 key hel
    match j,hj with
    | 0,_=>simpa [e0] using qj
    | 1,_=>simpa [e1] using qj
    | 2,_=>simpa [e2] using qj
    | j+3,hj=>exact absurd hj (by omega)
   obtain ⟨q,hq⟩:=choose_lt each
   refine ⟨some a,len,cap,q,by simpa using hcs,⟨Nat.le_trans hl hm,fun i hi=>?_⟩⟩
   have hz:w.cell? (a.add 0)=some (.int .i64 (q 0 0)):=by simpa using hq 0 (by omega) 0 (by omega)
   refine ⟨a.block,a.off,by rw [← (at_none hz (hq i hi 0 (by omega))).1],fun j hj=>?_⟩
   rw [Nat.add_assoc]
   exact (at_none hz (hq i hi j hj)).2
theorem Import_of_trod {fuel : Nat} {v : Value} {x : DataW H × List MemPlace} (h : DataW.trod enc Tryz.prog w base (fun _=>true) held fuel 25 [v]=some x) : ∃ a len cap g,v=.slice a len cap∧Row 5 w a len g := by
 have ce:Tryz.prog.cellsOf 116=5:=by kernel_rfl
 rcases DataW.trod_slice Tryz.underlying25 h with ⟨h0,_⟩ | ⟨a,len,cap,elems,rest,n,hn,hcs,rfl,hb,hl,hm,hlen,hel,hsp,hns⟩
 · exact ⟨none,0,0,fun _ _=>0,by simpa using h0,⟨Nat.zero_le _,fun i hi=>absurd hi (Nat.not_lt_zero _)⟩⟩
 · have each : ∀ i, i < len → ∃ q : Nat → Int, ∀ j, j < 5 → w.cell? (a.add (i * 5 + j)) = some (.int .i64 (q j)) := by
    intro i hi
    have key:=hel i hi
    rw [List.getElem?_eq_getElem (by omega)] at key
    obtain ⟨cs',h1,h2⟩:=Option.bind_eq_some_iff.1 key
    rw [ce] at h1
    obtain ⟨_,hcl,hcell⟩:=World.cells?_some h1
    obtain ⟨xs,k,hk,hxy,_,hxl,hf⟩:=DataW.trod_struct Tryz.underlying116 h2
    obtain ⟨y0,y1,y2,y3,y4,rfl⟩:=list5 (show xs.length=5 from hxl)
    obtain ⟨v0,v1,v2,v3,v4,rfl⟩:=list5 (show cs'.length=5 from hcl)
    have g0:=hf 0 _ rfl
    have g1:=hf 1 _ rfl
    have g2:=hf 2 _ rfl
    have g3:=hf 3 _ rfl
    have g4:=hf 4 _ rfl
    simp [cells_int] at g0 g1 g2 g3 g4
    obtain ⟨k0,e0,_⟩:=int_of_trod Tryz.underlying3 g0
    obtain ⟨k1,e1,_⟩:=int_of_trod Tryz.underlying3 g1
    obtain ⟨k2,e2,_⟩:=int_of_trod Tryz.underlying3 g2
    obtain ⟨k3,e3,_⟩:=int_of_trod Tryz.underlying3 g3
    obtain ⟨k4,e4,_⟩:=int_of_trod Tryz.underlying3 g4
    refine ⟨fun j=>match j with | 0=>k0 | 1=>k1 | 2=>k2 | 3=>k3 | 4=>k4 | _=>0,fun j hj=>?_⟩
    have qj:=hcell j (by omega)
    rw [add_add] at qj
    clear g0 g1 g2 g3 g4 hf hcell h h2 key hel
    match j,hj with
    | 0,_=>simpa [e0] using qj
    | 1,_=>simpa [e1] using qj
    | 2,_=>simpa [e2] using qj
    | 3,_=>simpa [e3] using qj
    | 4,_=>simpa [e4] using qj
    | j+5,hj=>exact absurd hj (by omega)
   obtain ⟨q,hq⟩:=choose_lt each
   refine ⟨some a,len,cap,q,by simpa using hcs,⟨Nat.le_trans hl hm,fun i hi=>?_⟩⟩
   have hz:w.cell? (a.add 0)=some (.int .i64 (q 0 0)):=by simpa using hq 0 (by omega) 0 (by omega)
   refine ⟨a.block,a.off,by rw [← (at_none hz (hq i hi 0 (by omega))).1],fun j hj=>?_⟩
   rw [Nat.add_assoc]
   exact (at_none hz (hq i hi j hj)).2
theorem Filter_of_trod {fuel : Nat} {v : Value} {x : DataW H × List MemPlace} (h : DataW.trod enc Tryz.prog w base (fun _=>true) held fuel 26 [v]=some x) : ∃ a len cap g,v=.slice a len cap∧Row 4 w a len g := by
 have ce:Tryz.prog.cellsOf 120=4:=by kernel_rfl
 rcases DataW.trod_slice Tryz.underlying26 h with ⟨h0,_⟩ | ⟨a,len,cap,elems,rest,n,hn,hcs,rfl,hb,hl,hm,hlen,hel,hsp,hns⟩
 · exact ⟨none,0,0,fun _ _=>0,by simpa using h0,⟨Nat.zero_le _,fun i hi=>absurd hi (Nat.not_lt_zero _)⟩⟩
 · have each : ∀ i, i < len → ∃ q : Nat → Int, ∀ j, j < 4 → w.cell? (a.add (i * 4 + j)) = some (.int .i64 (q j)) := by
    intro i hi
    have key:=hel i hi
    rw [List.getElem?_eq_getElem (by omega)] at key
    obtain ⟨cs',h1,h2⟩:=Option.bind_eq_some_iff.1 key
    rw [ce] at h1
    obtain ⟨_,hcl,hcell⟩:=World.cells?_some h1
    obtain ⟨xs,k,hk,hxy,_,hxl,hf⟩:=DataW.trod_struct Tryz.underlying120 h2
    obtain ⟨y0,y1,y2,y3,rfl⟩:=list4 (show xs.length=4 from hxl)
    obtain ⟨v0,v1,v2,v3,rfl⟩:=list4 (show cs'.length=4 from hcl)
    have g0:=hf 0 _ rfl
    have g1:=hf 1 _ rfl
    have g2:=hf 2 _ rfl
    have g3:=hf 3 _ rfl
    simp [cells_int] at g0 g1 g2 g3
    obtain ⟨k0,e0,_⟩:=int_of_trod Tryz.underlying3 g0
    obtain ⟨k1,e1,_⟩:=int_of_trod Tryz.underlying3 g1
    obtain ⟨k2,e2,_⟩:=int_of_trod Tryz.underlying3 g2
    obtain ⟨k3,e3,_⟩:=int_of_trod Tryz.underlying3 g3
    refine ⟨fun j=>match j with | 0=>k0 | 1=>k1 | 2=>k2 | 3=>k3 | _=>0,fun j hj=>?_⟩
    have qj:=hcell j (by omega)
    rw [add_add] at qj
    clear g0 g1 g2 g3 hf hcell h h2 key hel
    match j,hj with
    | 0,_=>simpa [e0] using qj
    | 1,_=>simpa [e1] using qj
    | 2,_=>simpa [e2] using qj
    | 3,_=>simpa [e3] using qj
    | j+4,hj=>exact absurd hj (by omega)
   obtain ⟨q,hq⟩:=choose_lt each
   refine ⟨some a,len,cap,q,by simpa using hcs,⟨Nat.le_trans hl hm,fun i hi=>?_⟩⟩
   have hz:w.cell? (a.add 0)=some (.int .i64 (q 0 0)):=by simpa using hq 0 (by omega) 0 (by omega)
   refine ⟨a.block,a.off,by rw [← (at_none hz (hq i hi 0 (by omega))).1],fun j hj=>?_⟩
   rw [Nat.add_assoc]
   exact (at_none hz (hq i hi j hj)).2
theorem array6 {α : Type} {cs : Array α} (h : cs.size=6) : ∃ c0 c1 c2 c3 c4 c5,cs=#[c0,c1,c2,c3,c4,c5] := by
 obtain ⟨l⟩:=cs
 match l,h with
 | [c0,c1,c2,c3,c4,c5],_=>exact ⟨c0,c1,c2,c3,c4,c5,rfl⟩
set_option maxRecDepth 100000 in
theorem net_of_trod {r : Reach} {b0 : Nat} {v : Value} {d : DataW H} {pl : List MemPlace} (hv : Value.okWide Tryz.prog w r b0 28 v) (h : DataW.Trod enc Tryz.prog w base (fun _=>true) held 28 v d pl) :
  ∃ p l c s g o e x f,v=netV p l c∧NetIs w p l s g o e x f:=by
 obtain ⟨cs,rfl,hsz⟩:=okWide_struct Tryz.underlying28 hv
 obtain ⟨c0,c1,c2,c3,c4,c5,rfl⟩:=array6 (hsz.trans cells_net)
 obtain ⟨fuel,hf⟩:=h
 obtain ⟨xs,n,_,_,_,hlen,hfld⟩:=DataW.trod_struct Tryz.underlying28 hf
 match xs,hlen with
 | [y0,y1,y2,y3,y4,y5],_ =>
  have z0:Tryz.prog.cellsOf 22=1:=by kernel_rfl
  have z1:Tryz.prog.cellsOf 23=1:=by kernel_rfl
  have z2:Tryz.prog.cellsOf 24=1:=by kernel_rfl
  have z4:Tryz.prog.cellsOf 25=1:=by kernel_rfl
  have z5:Tryz.prog.cellsOf 26=1:=by kernel_rfl
  have g0:=hfld 0 _ rfl
  have g1:=hfld 1 _ rfl
  have g2:=hfld 2 _ rfl
  have g3:=hfld 3 _ rfl
  have g4:=hfld 4 _ rfl
  have g5:=hfld 5 _ rfl
  simp [Value.cells,z0,z1,z2,z4,z5] at g0 g1 g2 g3 g4 g5
  obtain ⟨a0,l0,k0,s,rfl,h0⟩:=strs_of_trod g0
  obtain ⟨a1,l1,k1,g,rfl,h1⟩:=Link_of_trod g1
  obtain ⟨a2,l2,k2,o,rfl,h2,_⟩:=row_of_trod Tryz.underlying24 Tryz.underlying3 cells_int g2
  obtain ⟨a3,l3,k3,e,rfl,h3,_⟩:=row_of_trod Tryz.underlying24 Tryz.underlying3 cells_int g3
  obtain ⟨a4,l4,k4,x,rfl,h4⟩:=Import_of_trod g4
  obtain ⟨a5,l5,k5,f,rfl,h5⟩:=Filter_of_trod g5
  exact ⟨fun i=>match i with | 0=>a0 | 1=>a1 | 2=>a2 | 3=>a3 | 4=>a4 | _=>a5,fun i=>match i with | 0=>l0 | 1=>l1 | 2=>l2 | 3=>l3 | 4=>l4 | _=>l5,fun i=>match i with | 0=>k0 | 1=>k1 | 2=>k2 | 3=>k3 | 4=>k4 | _=>k5,s,g,o,e,x,f,rfl,⟨h0,h1,h2,h3,h4,h5⟩⟩
end Go.Proofs.YtajhklklbfnmpaaGreat.netArgs
namespace Go.Proofs.YtajhklklbfnmpaaGreat.source
open Go.RowKit Go.Deep Go.Sort base intsOwn
end Go.Proofs.YtajhklklbfnmpaaGreat.source
namespace Go.Proofs.YtajhklklbfnmpaaGreat.drawnLin
open Go Go.RowKit Go.Deep Go.Sort base heldStore drawn
theorem Chg.trans {X : Nat→Prop} {w w1 w2 : World} (h : Chg X w w1) (h' : Chg X w1 w2) : Chg X w w2 :=
 ⟨h'.os.trans h.os,h'.tape.trans h.tape,h'.output.trans h.output,Nat.le_trans h.size h'.size,fun k hk hn=>(h'.block k (Nat.lt_of_lt_of_le hk h.size) hn).trans (h.block k hk hn)⟩
theorem Chg.cell {X : Nat→Prop} {w w' : World} (h : Chg X w w') {q o : Nat} {v : Value} (hn : ¬ X q) (hc : w.cell? ⟨q,o,none⟩=some v) : w'.cell? ⟨q,o,none⟩=some v :=
 (World.cell?_of_block (a:=⟨q,o,none⟩) (h.block q (World.block_lt_of_cell? _ _ hc) hn)).trans hc
theorem Chg.drew {X : Nat→Prop} {w w1 : World} (h : Chg X w w1) : Chg X w w1.drew := h.trans (Chg.of_below (Below.refl _ _).drew)
theorem Chg.drewN {X : Nat→Prop} {w w1 : World} (h : Chg X w w1) (n : Nat) : Chg X w (w1.drewN n) := h.trans (Chg.of_below (below_drewN _ _))
end Go.Proofs.YtajhklklbfnmpaaGreat.drawnLin
namespace Go.Proofs.YtajhklklbfnmpaaGreat.drawnSrc
open Go Go.RowKit base heldStore drawn drawnLin source
variable {P : Program} {ops : Array Oper} {Q : Exit→Act→World→Prop}
def upC (ops : Array Oper) : Bool := (List.range ops.size).all fun i=>((ops[i]?).map (·.after.all fun e=>!Region.binds .any e || decide (e.on < i))).getD true
theorem upC_spec (h : upC ops=true) {i : Nat} {o : Oper} (ho : ops[i]? = some o) : ∀ e ∈ o.after,Region.binds .any e=true→e.on < i := by
 have hlt:i < ops.size:=(Array.getElem?_eq_some_iff.1 ho).1
 have h1:=List.all_eq_true.1 h i (List.mem_range.2 hlt)
 rw [ho] at h1
 simp only [Option.map_some,Option.getD_some,Array.all_eq_true_iff_forall_mem] at h1
 intro e he hb
 have h2:=h1 e he
 rw [hb] at h2
 simpa using h2
theorem ready_neC (h : upC ops=true) {listed : Array Bool} (hs : listed.size=ops.size) : ∀ n,listed.getD n true=false→Region.ready .any ops listed ≠ [] := by
 intro n
 induction n using Nat.strongRecOn with
 | _ n ih =>
  intro hn he
  have hlt:n < ops.size:=by
   rcases Nat.lt_or_ge n listed.size with h' | h'
   · omega
   · simp [Array.getElem?_eq_none h'] at hn
  by_cases hall:∀ e ∈ (ops[n]).after,Region.binds .any e=true→listed.getD e.on false=true
  · have:n ∈ Region.ready .any ops listed:=mem_ready.2 ⟨hn,ops[n],by simp [hlt],hall⟩
    rw [he] at this
    cases this
  · have hx : ∃ e ∈ (ops[n]).after, Region.binds .any e = true ∧ listed.getD e.on false = false := by
     apply Classical.byContradiction
     intro hno
     refine hall fun e he' hb'=>?_
     cases hb:listed.getD e.on false with
     | true=>rfl
     | false=>exact absurd ⟨e,he',hb',hb⟩ hno
    obtain ⟨e,he',hbi,hb⟩:=hx
    have hlt' := upC_spec h (i:=n) (o:=ops[n]) (by simp [hlt]) e he' hbi
    exact ih e.on hlt' (getD_in (by omega) hb) he
def waitB (ops : Array Oper) (st n : Nat) (late : Nat→Bool) : Bool := (List.range n).all fun i=>decide (i=st) || late i || Region.waitsFor .any ops st i
theorem waitB_spec {st n : Nat} {late : Nat→Bool} (h : waitB ops st n late=true) : ∀ i,i < n→i ≠ st→late i=false→Region.waitsFor .any ops st i=true := fun i hi hne hl=>by
 have h1:=List.all_eq_true.1 h i (List.mem_range.2 hi)
 rw [hl,decide_eq_false hne] at h1
 simpa using h1
def updO (u : Nat→Value) : Option Nat→Value→Nat→Value
 | none,_=>u
 | some k,v=>upd u k v
theorem any_free {A : (Nat→Value)→Act} {s : Nat→Option Nat} {Inv : (Nat→Bool)→(Nat→Value)→World→Prop} {n : Nat} (hz : ops.size=n) (hup : upC ops=true)
  (hput:∀ i,i < n→∀ u v,(A u).put (s i) v=A (updO u (s i) v))
  (step:∀ i,i < n→∀ L u w,L i=false→(∀ j,Region.waitsFor .any ops i j=true→L j=true)→Inv L u w→∃ o,ops[i]? = some o∧∀ K':Act→World→Prop,Shut (∀ v w',Inv (come L i) (updO u (s i) v) w'→K' ((A u).put (s i) v) w')→if Region.wanted o (yielded ops (A u).tmps)=true then Oper.wp P o (A u) w K' Q else K' ((A u).put o.dst undef) w)
  (fin:∀ L u w,(∀ j,j < n→L j=true)→Inv L u w→Q .normal (A u) w) :
  ∀ (fuel:Nat) (listed:Array Bool) (u:Nat→Value) (w:World),falses listed.toList≤fuel→listed.size=n→Inv (fun j=>listed.getD j false) u w→wpAny P .any ops Q fuel listed (A u) w:=by
 have done:∀ (listed:Array Bool),listed.size=n→Region.ready .any ops listed=[]→∀ j,j < n→listed.getD j false=true:=fun listed hs he j hj=>by
  cases hb:listed.getD j false with
  | true=>rfl
  | false=>exact absurd he (ready_neC hup (by rw [hs,hz]) j (getD_in (by omega) hb))
 intro fuel
 induction fuel with
 | zero =>
  intro listed u w hf hs hI
  have hall:∀ j,j < n→listed.getD j false=true:=fun j hj=>by
   cases hb:listed.getD j false with
   | true=>rfl
   | false=>have:=falses_pos _ _ (at_false (getD_in (by omega) hb));omega
  refine ⟨?_,fin _ u w hall hI⟩
  cases hr:Region.ready .any ops listed with
  | nil=>rfl
  | cons k l =>
   have hk:k ∈ Region.ready .any ops listed:=by rw [hr];exact List.mem_cons_self
   obtain ⟨h1,ok,hok,_⟩:=mem_ready.1 hk
   have hklt:k < n:=by rw [← hz];exact (Array.getElem?_eq_some_iff.1 hok).1
   have h2:=hall k hklt
   rw [getD_both h1] at h2
   cases h2
 | succ fuel ih =>
  intro listed u w hf hs hI
  refine ⟨fun h=>fin _ u w (done listed hs h) hI,fun i hi=>?_⟩
  obtain ⟨hun,oi,hoi,hall⟩:=mem_ready.1 hi
  have hin:i < n:=by rw [← hz];exact (Array.getElem?_eq_some_iff.1 hoi).1
  obtain ⟨o,ho,h⟩:=step i hin (fun j=>listed.getD j false) u w (getD_both hun) (fun j hj=>by
   obtain ⟨oj,hoj,e,he,hb,hon⟩:=Region.waitsFor_spec hj
   have e1:oj=oi:=Option.some.inj (hoj.symm.trans hoi)
   subst e1
   have h1:=hall e he hb
   rw [hon] at h1
   exact h1) hI
  refine wpOp_step ho fun K' hK=>h K' fun v w' hI'=>hK _ _ ?_
  rw [hput i hin]
  refine ih _ _ _ ?_ (by simp [hs]) ?_
  · have:=falses_set _ _ (at_false hun)
    simp only [Array.toList_setIfInBounds]
    omega
  · have : (fun j => (listed.setIfInBounds i true).getD j false) = come (fun j => listed.getD j false) i := by
     funext j
     unfold come
     by_cases e:j=i
     · subst e
       rw [if_pos rfl]
       have:j < listed.size:=by rw [hs];omega
       simp [this]
     · rw [if_neg e,getD_set_ne false (Ne.symm e)]
    rw [this]
    exact hI'
end Go.Proofs.YtajhklklbfnmpaaGreat.drawnSrc
namespace Go.Proofs.YtajhklklbfnmpaaGreat.drawnMk
open Go Go.RowKit base heldStore drawn drawnLin drawnSrc
variable {P : Program} {ops : Array Oper} {Q : Exit→Act→World→Prop}
theorem region_mk {id : Nat} {a : Act} {w : World} (A : (Nat→Value)→Act) (s : Nat→Option Nat) (φ : Nat→Value→World→Prop) (ω : Nat→Value→Prop) (ψ : (Nat→Value)→World→Prop) (W : World) (n st : Nat) (late : Nat→Bool) (u0 : Nat→Value) (ha : a=A u0)
  (hm:P.follows .mixedOrders=true) (hz:ops.size=n) (hup:upC ops=true) (hst:st < n) (hsn:s st=none) (hwaitB:waitB ops st n late=true) (hW:Below W.heap.size W w)
  (hput:∀ i,i < n→∀ u v,(A u).put (s i) v=A (updO u (s i) v)) (hinj:∀ i j,i < n→j < n→i ≠ st→s i=s j→i=j) (hsome:∀ i,i < n→i ≠ st→s i ≠ none)
  (hω:∀ i v w,late i=false→φ i v w→ω i v)
  (stable:∀ i v w w',Below w.heap.size w w'→φ i v w→φ i v w')
  (hψ:∀ i,i < n→late i=true→∀ u v w,ψ u w→ψ (updO u (s i) v) w)
  (step:∀ i,i < n→i ≠ st→late i=false→∀ u w,Below W.heap.size W w→(∀ j,Region.waitsFor .any ops i j=true→late j=false→φ j (u ((s j).getD 0)) w)→∃ o,ops[i]? = some o∧∀ K':Act→World→Prop,Shut (∀ v w',Below w.heap.size w w'→φ i v w'→K' ((A u).put (s i) v) w')→if Region.wanted o (yielded ops (A u).tmps)=true then Oper.wp P o (A u) w K' Q else K' ((A u).put o.dst undef) w)
  (stepL:∀ i,i < n→i ≠ st→late i=true→∀ u w,(∀ j,Region.waitsFor .any ops i j=true→j ≠ st→ω j (u ((s j).getD 0)))→∃ o,ops[i]? = some o∧∀ K':Act→World→Prop,Shut (∀ v,ω i v→K' ((A u).put (s i) v) w)→if Region.wanted o (yielded ops (A u).tmps)=true then Oper.wp P o (A u) w K' Q else K' ((A u).put o.dst undef) w)
  (store:∀ u w,Below W.heap.size W w→(∀ j,Region.waitsFor .any ops st j=true→late j=false→φ j (u ((s j).getD 0)) w)→∃ o,ops[st]? = some o∧∀ K':Act→World→Prop,Shut (∀ v w',ψ u w'→K' ((A u).put none v) w')→if Region.wanted o (yielded ops (A u).tmps)=true then Oper.wp P o (A u) w K' Q else K' ((A u).put o.dst undef) w)
  (fin:∀ u w,ψ u w→(∀ j,j < n→j ≠ st→ω j (u ((s j).getD 0)))→Q .normal (A u) w) :
  (Code.region id ops true).wp P Q a w:=by
 have hwait:=waitB_spec hwaitB
 subst ha
 refine wp_region_any hm ?_
 rw [hz]
 refine any_free (Inv:=fun L u w8=>(L st=false→Below W.heap.size W w8∧∀ j,j < n→j ≠ st→late j=false→L j=true→φ j (u ((s j).getD 0)) w8)∧(L st=true→ψ u w8)∧(L st=true→∀ j,Region.waitsFor .any ops st j=true→L j=true)∧∀ j,j < n→j ≠ st→L j=true→ω j (u ((s j).getD 0))) hz hup hput ?_ ?_ _ _ _ _ ?_ (by simp) ?_
 · intro i hi L u w8 hLi hwt hI
   obtain ⟨h1,h2,h3,h4⟩:=hI
   have lt:∀ j,Region.waitsFor .any ops i j=true→j < i:=fun j hj=>by
    obtain ⟨oj,hoj,e,he,hb,hon⟩:=Region.waitsFor_spec hj
    have h5:=upC_spec hup hoj e he hb
    rw [hon] at h5
    exact h5
   by_cases ei:i=st
   · subst ei
     obtain ⟨g1,g2⟩:=h1 hLi
     obtain ⟨o,ho,h⟩:=store u w8 g1 (fun j hj hl=>g2 j (by have:=lt j hj;omega) (by have:=lt j hj;omega) hl (hwt j hj))
     refine ⟨o,ho,fun K' hK=>h K' fun v w' hψ'=>?_⟩
     have:=hK.out v w' ⟨fun hq=>(by rw [come_same] at hq;cases hq),fun _=>(by rw [hsn];exact hψ'),fun _ j hj=>come_old (hwt j hj),fun j hj hne hl=>(by
      rw [come_ne hne] at hl
      rw [hsn]
      exact h4 j hj hne hl)⟩
     rw [hsn] at this
     exact this
   · obtain ⟨k, hk⟩ : ∃ k, s i = some k := by
      cases hh:s i with
      | none=>exact absurd hh (hsome i hi ei)
      | some k=>exact ⟨k,rfl⟩
     have ne':∀ j,j < n→j ≠ st→j ≠ i→((s j).getD 0) ≠ k:=fun j hj hjs hji e=>by
      cases hh:s j with
      | none=>exact hsome j hj hjs hh
      | some k' =>
       rw [hh] at e
       have e2:k' = k:=e
       exact hji (hinj j i hj hi hjs (by rw [hh,hk,e2]))
     cases hl:late i with
     | false =>
      have hLs:L st=false:=by
       cases hb:L st with
       | false=>rfl
       | true=>rw [h3 hb i (hwait i hi ei hl)] at hLi;cases hLi
      obtain ⟨g1,g2⟩:=h1 hLs
      obtain ⟨o,ho,h⟩:=step i hi ei hl u w8 g1 (fun j hj hlj=>g2 j (by have:=lt j hj;omega) (fun e=>by rw [e] at hj;rw [hwt st hj] at hLs;cases hLs) hlj (hwt j hj))
      refine ⟨o,ho,fun K' hK=>h K' fun v w' hc hv=>hK.out v w' ⟨fun _=>⟨g1.trans (hc.mono g1.size),fun j hj hne hlj hl'=>?_⟩,fun hq=>(by rw [come_ne (Ne.symm ei),hLs] at hq;cases hq),fun hq=>(by rw [come_ne (Ne.symm ei),hLs] at hq;cases hq),fun j hj hne hl'=>?_⟩⟩
      · by_cases e:j=i
        · subst e;rw [hk];simp only [updO,Option.getD_some];rw [upd_same];exact hv
        · rw [come_ne e] at hl'
          rw [hk];simp only [updO];rw [upd_ne _ _ (ne' j hj hne e)]
          exact stable j _ _ _ hc (g2 j hj hne hlj hl')
      · by_cases e:j=i
        · subst e;rw [hk];simp only [updO,Option.getD_some];rw [upd_same];exact hω j v w' hl hv
        · rw [come_ne e] at hl'
          rw [hk];simp only [updO];rw [upd_ne _ _ (ne' j hj hne e)]
          exact h4 j hj hne hl'
     | true =>
      obtain ⟨o,ho,h⟩:=stepL i hi ei hl u w8 (fun j hj hne=>h4 j (by have:=lt j hj;omega) hne (hwt j hj))
      refine ⟨o,ho,fun K' hK=>h K' fun v hv=>hK.out v w8 ⟨fun hq=>?_,fun hq=>?_,fun hq j hj=>?_,fun j hj hne hl'=>?_⟩⟩
      · rw [come_ne (Ne.symm ei)] at hq
        obtain ⟨g1,g2⟩:=h1 hq
        refine ⟨g1,fun j hj hne hlj hl'=>?_⟩
        have e:j ≠ i:=fun e=>by rw [e,hl] at hlj;cases hlj
        rw [come_ne e] at hl'
        rw [hk];simp only [updO];rw [upd_ne _ _ (ne' j hj hne e)]
        exact g2 j hj hne hlj hl'
      · rw [come_ne (Ne.symm ei)] at hq;exact hψ i hi hl u v w8 (h2 hq)
      · rw [come_ne (Ne.symm ei)] at hq;exact come_old (h3 hq j hj)
      · by_cases e:j=i
        · subst e;rw [hk];simp only [updO,Option.getD_some];rw [upd_same];exact hv
        · rw [come_ne e] at hl'
          rw [hk];simp only [updO];rw [upd_ne _ _ (ne' j hj hne e)]
          exact h4 j hj hne hl'
 · intro L u w8 hall hI
   exact fin u w8 (hI.2.1 (hall st hst)) (fun j hj hne=>hI.2.2.2 j hj hne (hall j hj))
 · simp [falses_replicate]
 · have:(fun j=>(Array.replicate n false).getD j false)=fun _=>false:=by funext j;exact getD_replicate_false _ _
   rw [this]
   exact ⟨fun _=>⟨hW.drew,fun j _ _ _ h=>(by cases h)⟩,fun h=>(by cases h),fun h=>(by cases h),fun j _ _ h=>(by cases h)⟩
theorem region_calm {id : Nat} {a : Act} {w : World} (A : (Nat→Value)→Act) (s : Nat→Nat) (φ : Nat→Value→World→Prop) (W : World) (n : Nat) (u0 : Nat→Value) (ha : a=A u0)
  (hm:P.follows .mixedOrders=true) (hz:ops.size=n) (hup:upC ops=true) (hW:Below W.heap.size W w)
  (hput:∀ i,i < n→∀ u v,(A u).put (some (s i)) v=A (upd u (s i) v)) (hinj:∀ i j,i < n→j < n→s i=s j→i=j)
  (stable:∀ i v w w',Below w.heap.size w w'→φ i v w→φ i v w')
  (step:∀ i,i < n→∀ u w,Below W.heap.size W w→(∀ j,Region.waitsFor .any ops i j=true→φ j (u (s j)) w)→∃ o,ops[i]? = some o∧∀ K':Act→World→Prop,Shut (∀ v w',Below w.heap.size w w'→φ i v w'→K' ((A u).put (some (s i)) v) w')→if Region.wanted o (yielded ops (A u).tmps)=true then Oper.wp P o (A u) w K' Q else K' ((A u).put o.dst undef) w)
  (fin:∀ u w,Below W.heap.size W w→(∀ j,j < n→φ j (u (s j)) w)→Q .normal (A u) w) :
  (Code.region id ops true).wp P Q a w:=by
 subst ha
 refine wp_region_any hm ?_
 rw [hz]
 refine any_free (s:=fun i=>some (s i)) (Inv:=fun L u w8=>Below W.heap.size W w8∧∀ j,j < n→L j=true→φ j (u (s j)) w8) hz hup hput ?_ ?_ _ _ _ _ ?_ (by simp) ?_
 · intro i hi L u w8 hLi hwt hI
   obtain ⟨h1,h4⟩:=hI
   have lt:∀ j,Region.waitsFor .any ops i j=true→j < i:=fun j hj=>by
    obtain ⟨oj,hoj,e,he,hb,hon⟩:=Region.waitsFor_spec hj
    have h5:=upC_spec hup hoj e he hb
    rw [hon] at h5
    exact h5
   obtain ⟨o,ho,h⟩:=step i hi u w8 h1 (fun j hj=>h4 j (by have:=lt j hj;omega) (hwt j hj))
   refine ⟨o,ho,fun K' hK=>h K' fun v w' hc hv=>hK.out v w' ⟨h1.trans (hc.mono h1.size),fun j hj hl=>?_⟩⟩
   simp only [updO]
   by_cases e:j=i
   · subst e;rw [upd_same];exact hv
   · rw [come_ne e] at hl
     rw [upd_ne _ _ (fun e'=>e (hinj j i hj hi e'))]
     exact stable j _ _ _ hc (h4 j hj hl)
 · intro L u w8 hall hI
   exact fin u w8 hI.1 (fun j hj=>hI.2 j hj (hall j hj))
 · simp [falses_replicate]
 · have:(fun j=>(Array.replicate n false).getD j false)=fun _=>false:=by funext j;exact getD_replicate_false _ _
   rw [this]
   exact ⟨hW.drew,fun j _ h=>(by cases h)⟩
end Go.Proofs.YtajhklklbfnmpaaGreat.drawnMk
