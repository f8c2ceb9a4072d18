import Derived.Test.YtcnoemjeijjnjaaGreatPart2
set_option linter.unusedVariables false
namespace Go.Proofs.YtcnoemjeijjnjaaGreat.drawnLin
open Go Go.RowKit Go.Deep Go.Sort base heldStore drawn
theorem Chg.mono {X Y:Nat→Prop} {w w':World} (h:Chg X w w') (hx:∀ k,X k→Y k):Chg Y w w' := ⟨h.os,h.tape,h.output,h.size,fun k hk hn=>h.block k hk (fun h'=>hn (hx k h'))⟩
theorem Chg.trans {X:Nat→Prop} {w w1 w2:World} (h:Chg X w w1) (h':Chg X w1 w2):Chg X w w2 :=
 ⟨h'.os.trans h.os,h'.tape.trans h.tape,h'.output.trans h.output,Nat.le_trans h.size h'.size,fun k hk hn=>(h'.block k (Nat.lt_of_lt_of_le hk h.size) hn).trans (h.block k hk hn)⟩
theorem Chg.cell {X:Nat→Prop} {w w':World} (h:Chg X w w') {q o:Nat} {v:Value} (hn:¬ X q) (hc:w.cell? ⟨q,o,none⟩=some v):w'.cell? ⟨q,o,none⟩=some v :=
 (World.cell?_of_block (a:=⟨q,o,none⟩) (h.block q (World.block_lt_of_cell? _ _ hc) hn)).trans hc
theorem Chg.drew {X:Nat→Prop} {w w1:World} (h:Chg X w w1):Chg X w w1.drew:=h.trans (Chg.of_below (Below.refl _ _).drew)
theorem Chg.drewN {X:Nat→Prop} {w w1:World} (h:Chg X w w1) (n:Nat):Chg X w (w1.drewN n):=h.trans (Chg.of_below (below_drewN _ _))
theorem Chg.set {X:Nat→Prop} {w w1:World} (h:Chg X w w1) {q o:Nat} (hq:X q∨w.heap.size≤q) (v:Value):Chg X w (w1.setCell ⟨q,o,none⟩ v) :=
 ⟨by rw [setCell_eq];exact h.os,by rw [setCell_eq];exact h.tape,by rw [setCell_eq];exact h.output,Nat.le_trans h.size (by simp [World.setCell]),fun k hk hn=>(Below.heap_setCell _ _ _ _ (by dsimp only;intro e;subst e;rcases hq with hq|hq;exact hn hq;omega)).trans (h.block k hk hn)⟩
end Go.Proofs.YtcnoemjeijjnjaaGreat.drawnLin
namespace Go.Proofs.YtcnoemjeijjnjaaGreat.drawnSrc
open Go Go.RowKit base heldStore drawn drawnLin source
variable {P : Program} {ops : Array Oper} {Q : Exit→Act→World→Prop}
def cnt (L : Nat→Bool) : Nat→Nat
 | 0=>0
 | n+1=>cnt L n+(if L n=true then 1 else 0)
theorem cnt_le (L:Nat→Bool):∀ n,cnt L n≤n
 | 0=>Nat.le_refl _
 | n+1=>by
  have:=cnt_le L n
  simp only [cnt]
  split <;> omega
theorem cnt_out {L:Nat→Bool} {i:Nat}:∀ n,n≤i→cnt (come L i) n=cnt L n
 | 0,_=>rfl
 | n+1,h=>by
  simp only [cnt]
  rw [cnt_out n (by omega),come_ne (by omega)]
theorem cnt_come {L:Nat→Bool} {i:Nat} (h:L i=false):∀ n,i<n→cnt (come L i) n=cnt L n+1
 | 0,hi=>by omega
 | n+1,hi=>by
  simp only [cnt]
  by_cases e:i=n
  · subst e
    rw [cnt_out _ (Nat.le_refl _),come_same,h]
    simp
  rw [cnt_come h n (by omega),come_ne (by omega)]
  omega
theorem region_src {id:Nat} {a:Act} {w:World} (A:(Nat→Value)→Act) (s:Nat→Nat) (φ:Nat→Value→World→Prop) (P0:World→Prop) (Y:Nat→Prop) (W:World) (n q b:Nat) (ca:Option Addr) (len cap k0:Nat) (u0:Nat→Value) (ha:a=A u0)
  (hm:P.follows .mixedOrders=true) (hz:ops.size=n+1) (hE:LastOf ops n) (hup:upB ops=true)
  (hW:Chg (fun k=>k=b) W w) (hs:Src w b ca len cap k0) (hP:P0 w)
  (hput:∀ i,i<n→∀ u v,(A u).put (some (s i)) v=A (upd u (s i) v)) (hinj:∀ i j,i<n→j<n→s i=s j→i=j)
  (stable:∀ i v w w',Chg (fun k=>k=b∨(i≠q∧Y k)) w w'→φ i v w→φ i v w')
  (stable0:∀ w w',Chg (fun k=>k=b) w w'→P0 w→P0 w')
  (step:∀ i,i<n→∀ u w k,Chg (fun k=>k=b∨Y k) W w→Src w b ca len cap k→k≤k0+n→(i=q→P0 w∧Chg (fun k=>k=b) W w)→(∀ j,Region.waitsFor .any ops i j=true→φ j (u (s j)) w)→∃ o,ops[i]? = some o∧∀ K':Act→World→Prop,Shut (∀ v w',Chg (fun k=>k=b∨(i=q∧Y k)) w w'→Src w' b ca len cap (k+1)→φ i v w'→K' ((A u).put (some (s i)) v) w')→if Region.wanted o (yielded ops (A u).tmps)=true then Oper.wp P o (A u) w K' Q else K' ((A u).put o.dst undef) w)
  (last:∀ u w,Chg (fun k=>k=b∨Y k) W w→Src w b ca len cap (k0+n)→(∀ j,j<n→φ j (u (s j)) w)→∃ o,ops[n]? = some o∧∀ K':Act→World→Prop,Shut (∀ a w,Q .normal a w→K' a w)→if Region.wanted o (yielded ops (A u).tmps)=true then Oper.wp P o (A u) w K' Q else K' ((A u).put o.dst undef) w) :
  (Code.region id ops true).wp P Q a w:=by
 have hd:Chg (fun k=>k=b) w w.drew:=(Chg.refl _ w).drew
 refine region_all A s (fun L u w8=>Chg (fun k=>k=b∨Y k) W w8∧(L q=false→P0 w8∧Chg (fun k=>k=b) W w8)∧Src w8 b ca len cap (k0+cnt L n)∧(∀ j,j<n→L j=true→φ j (u (s j)) w8)) n u0 ha hm hz hE hup ⟨(Chg.trans hW hd).mono (fun k hk=>.inl hk),fun _=>⟨stable0 _ _ hd hP,Chg.trans hW hd⟩,(hs.below (Below.refl _ _).drew).mono (Nat.le_add_right _ _),fun j _ h=>(by cases h)⟩ hput ?_ ?_
 · intro i hi L u w8 hLi hwait hI
   obtain ⟨h1,h2,h3,h4⟩:=hI
   obtain ⟨o,ho,h⟩:=step i hi u w8 _ h1 h3 (by have:=cnt_le L n;omega) (fun e=>h2 (by rw [← e];exact hLi)) (fun j hj=>by
    obtain ⟨oj,hoj,e,he,hb,hon⟩:=Region.waitsFor_spec hj
    have h5:=upB_spec hup hoj e he
    rw [hon] at h5
    exact h4 j (by omega) (hwait j hj))
   refine ⟨o,ho,fun K' hK=>h K' fun v w' hc hs' hv=>hK.out v w' ⟨Chg.trans h1 (hc.mono fun k hk=>?_),fun hq=>?_,?_,fun j hj hl=>?_⟩⟩
   · rcases hk with hk|hk
     · exact .inl hk
     exact .inr hk.2
   · have e:i≠q:=fun e=>by subst e;rw [come_same] at hq;cases hq
     rw [come_ne (Ne.symm e)] at hq
     obtain ⟨g1,g2⟩:=h2 hq
     have hc':Chg (fun k=>k=b) w8 w' := hc.mono fun k hk=>by
      rcases hk with hk|hk
      · exact hk
      exact absurd hk.1 e
     exact ⟨stable0 _ _ hc' g1,Chg.trans g2 hc'⟩
   · rw [cnt_come hLi n hi];exact hs'
   by_cases e:j=i
   · subst e;rw [upd_same];exact hv
   rw [come_ne e] at hl
   rw [upd_ne _ _ (fun e'=>e (hinj j i hj hi e'))]
   refine stable j _ _ _ (hc.mono fun k hk=>?_) (h4 j hj hl)
   rcases hk with hk|hk
   · exact .inl hk
   exact .inr ⟨fun e'=>e (by rw [e',hk.1]),hk.2⟩
 intro L u w8 hall hI
 obtain ⟨h1,h2,h3,h4⟩:=hI
 exact last u w8 h1 (h3.mono (by have:=cnt_le L n;omega)) (fun j hj=>h4 j hj (hall j hj))
def upC (ops : Array Oper) : Bool := (List.range ops.size).all fun i=>((ops[i]?).map (·.after.all fun e=>!Region.binds .any e || decide (e.on<i))).getD true
theorem upC_spec (h:upC ops=true) {i:Nat} {o:Oper} (ho:ops[i]? = some o):∀ e∈o.after,Region.binds .any e=true→e.on<i:=by
 have hlt:i<ops.size:=(Array.getElem?_eq_some_iff.1 ho).1
 have h1:=List.all_eq_true.1 h i (List.mem_range.2 hlt)
 rw [ho] at h1
 simp only [Option.map_some,Option.getD_some,Array.all_eq_true_iff_forall_mem] at h1
 intro e he hb
 have h2:=h1 e he
 rw [hb] at h2
 simpa using h2
theorem ready_neC (h:upC ops=true) {listed:Array Bool} (hs:listed.size=ops.size):∀ n,listed.getD n true=false→Region.ready .any ops listed≠[]:=by
 intro n
 induction n using Nat.strongRecOn with
 | _ n ih =>
  intro hn he
  have hlt:n<ops.size:=by
   rcases Nat.lt_or_ge n listed.size with h'|h'
   · omega
   simp [Array.getElem?_eq_none h'] at hn
  by_cases hall:∀ e∈(ops[n]).after,Region.binds .any e=true→listed.getD e.on false=true
  · have:n∈Region.ready .any ops listed:=mem_ready.2 ⟨hn,ops[n],by simp [hlt],hall⟩
    rw [he] at this
    cases this
  have hx:∃ e∈(ops[n]).after,Region.binds .any e=true∧listed.getD e.on false=false:=by
   apply Classical.byContradiction
   intro hno
   refine hall fun e he' hb'=>?_
   cases hb:listed.getD e.on false with
   | true=>rfl
   | false=>exact absurd ⟨e,he',hb',hb⟩ hno
  obtain ⟨e,he',hbi,hb⟩:=hx
  have hlt' := upC_spec h (i:=n) (o:=ops[n]) (by simp [hlt]) e he' hbi
  exact ih e.on hlt' (getD_in (by omega) hb) he
def waitB (ops : Array Oper) (st n : Nat) (late : Nat→Bool) : Bool := (List.range n).all fun i=>decide (i=st) || late i || Region.waitsFor .any ops st i
theorem waitB_spec {st n:Nat} {late:Nat→Bool} (h:waitB ops st n late=true):∀ i,i<n→i≠st→late i=false→Region.waitsFor .any ops st i=true:=fun i hi hne hl=>by
 have h1:=List.all_eq_true.1 h i (List.mem_range.2 hi)
 rw [hl,decide_eq_false hne] at h1
 simpa using h1
def updO (u : Nat→Value) : Option Nat→Value→Nat→Value
 | none,_=>u
 | some k,v=>upd u k v
theorem any_free {A:(Nat→Value)→Act} {s:Nat→Option Nat} {Inv:(Nat→Bool)→(Nat→Value)→World→Prop} {n:Nat} (hz:ops.size=n) (hup:upC ops=true)
  (hput:∀ i,i<n→∀ u v,(A u).put (s i) v=A (updO u (s i) v))
  (step:∀ i,i<n→∀ L u w,L i=false→(∀ j,Region.waitsFor .any ops i j=true→L j=true)→Inv L u w→∃ o,ops[i]? = some o∧∀ K':Act→World→Prop,Shut (∀ v w',Inv (come L i) (updO u (s i) v) w'→K' ((A u).put (s i) v) w')→if Region.wanted o (yielded ops (A u).tmps)=true then Oper.wp P o (A u) w K' Q else K' ((A u).put o.dst undef) w)
  (fin:∀ L u w,(∀ j,j<n→L j=true)→Inv L u w→Q .normal (A u) w) :
  ∀ (fuel:Nat) (listed:Array Bool) (u:Nat→Value) (w:World),falses listed.toList≤fuel→listed.size=n→Inv (fun j=>listed.getD j false) u w→wpAny P .any ops Q fuel listed (A u) w:=by
 have done:∀ (listed:Array Bool),listed.size=n→Region.ready .any ops listed=[]→∀ j,j<n→listed.getD j false=true:=fun listed hs he j hj=>by
  cases hb:listed.getD j false with
  | true=>rfl
  | false=>exact absurd he (ready_neC hup (by rw [hs,hz]) j (getD_in (by omega) hb))
 intro fuel
 induction fuel with
 | zero =>
  intro listed u w hf hs hI
  have hall:∀ j,j<n→listed.getD j false=true:=fun j hj=>by
   cases hb:listed.getD j false with
   | true=>rfl
   | false=>have:=falses_pos _ _ (at_false (getD_in (by omega) hb));omega
  refine ⟨?_,fin _ u w hall hI⟩
  cases hr:Region.ready .any ops listed with
  | nil=>rfl
  | cons k l =>
   have hk:k∈Region.ready .any ops listed:=by rw [hr];exact List.mem_cons_self
   obtain ⟨h1,ok,hok,_⟩:=mem_ready.1 hk
   have hklt:k<n:=by rw [← hz];exact (Array.getElem?_eq_some_iff.1 hok).1
   have h2:=hall k hklt
   rw [getD_both h1] at h2
   cases h2
 | succ fuel ih =>
  intro listed u w hf hs hI
  refine ⟨fun h=>fin _ u w (done listed hs h) hI,fun i hi=>?_⟩
  obtain ⟨hun,oi,hoi,hall⟩:=mem_ready.1 hi
  have hin:i<n:=by rw [← hz];exact (Array.getElem?_eq_some_iff.1 hoi).1
  obtain ⟨o,ho,h⟩:=step i hin (fun j=>listed.getD j false) u w (getD_both hun) (fun j hj=>by
   obtain ⟨oj,hoj,e,he,hb,hon⟩:=Region.waitsFor_spec hj
   have e1:oj=oi:=Option.some.inj (hoj.symm.trans hoi)
   subst e1
   have h1:=hall e he hb
   rw [hon] at h1
   exact h1) hI
  refine wpOp_step ho fun K' hK=>h K' fun v w' hI'=>hK _ _ ?_
  rw [hput i hin]
  refine ih _ _ _ ?_ (by simp [hs]) ?_
  · have:=falses_set _ _ (at_false hun)
    simp only [Array.toList_setIfInBounds]
    omega
  have:(fun j=>(listed.setIfInBounds i true).getD j false)=come (fun j=>listed.getD j false) i:=by
   funext j
   unfold come
   by_cases e:j=i
   · subst e
     rw [if_pos rfl]
     have:j<listed.size:=by rw [hs];omega
     simp [this]
   rw [if_neg e,getD_set_ne false (Ne.symm e)]
  rw [this]
  exact hI'
theorem region_late {id:Nat} {a:Act} {w:World} (A:(Nat→Value)→Act) (s:Nat→Option Nat) (φ:Nat→Value→World→Prop) (ψ:World→Prop) (W:World) (n st b Mx:Nat) (late:Nat→Bool) (ca:Option Addr) (len cap k0:Nat) (u0:Nat→Value) (ha:a=A u0)
  (hm:P.follows .mixedOrders=true) (hz:ops.size=n) (hup:upC ops=true) (hst:st<n) (hsn:s st=none)
  (hwaitB:waitB ops st n late=true)
  (hW:Chg (fun k=>k=b) W w) (hs:Src w b ca len cap k0)
  (hput:∀ i,i<n→∀ u v,(A u).put (s i) v=A (updO u (s i) v)) (hinj:∀ i j,i<n→j<n→i≠st→s i=s j→i=j) (hsome:∀ i,i<n→i≠st→s i≠none)
  (stable:∀ i v w w',Chg (fun k=>k=b∨k=Mx) w w'→φ i v w→φ i v w')
  (step:∀ i,i<n→i≠st→late i=false→∀ u w k,Chg (fun k=>k=b) W w→Src w b ca len cap k→k≤k0+n→(∀ j,Region.waitsFor .any ops i j=true→φ j (u ((s j).getD 0)) w)→∃ o,ops[i]? = some o∧∀ K':Act→World→Prop,Shut (∀ v w',Chg (fun k=>k=b) w w'→Src w' b ca len cap (k+1)→φ i v w'→K' ((A u).put (s i) v) w')→if Region.wanted o (yielded ops (A u).tmps)=true then Oper.wp P o (A u) w K' Q else K' ((A u).put o.dst undef) w)
  (stepL:∀ i,i<n→i≠st→late i=true→∀ u w,(∀ j,Region.waitsFor .any ops i j=true→j≠st→φ j (u ((s j).getD 0)) w)→∃ o,ops[i]? = some o∧∀ K':Act→World→Prop,Shut (∀ v,φ i v w→K' ((A u).put (s i) v) w)→if Region.wanted o (yielded ops (A u).tmps)=true then Oper.wp P o (A u) w K' Q else K' ((A u).put o.dst undef) w)
  (store:∀ u w,Chg (fun k=>k=b) W w→Src w b ca len cap (k0+n)→(∀ j,Region.waitsFor .any ops st j=true→φ j (u ((s j).getD 0)) w)→∃ o,ops[st]? = some o∧∀ K':Act→World→Prop,Shut (∀ v w',Chg (fun k=>k=Mx) w w'→ψ w'→K' ((A u).put none v) w')→if Region.wanted o (yielded ops (A u).tmps)=true then Oper.wp P o (A u) w K' Q else K' ((A u).put o.dst undef) w)
  (fin:∀ u w,ψ w→Q .normal (A u) w) :
  (Code.region id ops true).wp P Q a w:=by
 have hwait:=waitB_spec hwaitB
 subst ha
 refine wp_region_any hm ?_
 rw [hz]
 have hd:Chg (fun k=>k=b) w w.drew:=(Chg.refl _ w).drew
 refine any_free (Inv:=fun L u w8=>(L st=false→Chg (fun k=>k=b) W w8∧Src w8 b ca len cap (k0+cnt L n))∧(L st=true→ψ w8)∧(L st=true→∀ j,Region.waitsFor .any ops st j=true→L j=true)∧∀ j,j<n→j≠st→L j=true→φ j (u ((s j).getD 0)) w8) hz hup hput ?_ ?_ _ _ _ _ ?_ (by simp) ?_
 · intro i hi L u w8 hLi hwt hI
   obtain ⟨h1,h2,h3,h4⟩:=hI
   have hdep:∀ j,Region.waitsFor .any ops i j=true→j≠st→φ j (u ((s j).getD 0)) w8:=fun j hj hne=>by
    obtain ⟨oj,hoj,e,he,hb,hon⟩:=Region.waitsFor_spec hj
    have h5:=upC_spec hup hoj e he hb
    rw [hon] at h5
    exact h4 j (by omega) hne (hwt j hj)
   by_cases ei:i=st
   · subst ei
     obtain ⟨g1,g2⟩:=h1 hLi
     obtain ⟨o,ho,h⟩:=store u w8 g1 (g2.mono (by have:=cnt_le L n;omega)) (fun j hj=>hdep j hj (fun e=>by
      rw [e] at hj
      obtain ⟨oj,hoj,e,he,hb,hon⟩:=Region.waitsFor_spec hj
      have h5:=upC_spec hup hoj e he hb
      omega))
     refine ⟨o,ho,fun K' hK=>h K' fun v w' hc hψ=>?_⟩
     have:=hK.out v w' ⟨fun hq=>(by rw [come_same] at hq;cases hq),fun _=>hψ,fun _ j hj=>come_old (hwt j hj),fun j hj hne hl=>(by
      rw [come_ne hne] at hl
      rw [hsn]
      exact stable j _ _ _ (hc.mono fun k hk=>.inr hk) (h4 j hj hne hl))⟩
     rw [hsn] at this
     exact this
   obtain ⟨k,hk⟩:∃ k,s i=some k:=by
    cases hh:s i with
    | none=>exact absurd hh (hsome i hi ei)
    | some k=>exact ⟨k,rfl⟩
   have ne':∀ j,j<n→j≠st→j≠i→((s j).getD 0)≠k:=fun j hj hjs hji e=>by
    cases hh:s j with
    | none=>exact hsome j hj hjs hh
    | some k' =>
     rw [hh] at e
     have e2:k' = k:=e
     exact hji (hinj j i hj hi hjs (by rw [hh,hk,e2]))
   cases hl:late i with
   | false =>
    have hLs:L st=false:=by
     cases hb:L st with
     | false=>rfl
     | true=>rw [h3 hb i (hwait i hi ei hl)] at hLi;cases hLi
    obtain ⟨g1,g2⟩:=h1 hLs
    obtain ⟨o,ho,h⟩:=step i hi ei hl u w8 _ g1 g2 (by have:=cnt_le L n;omega) (fun j hj=>hdep j hj (fun e=>by rw [e] at hj;rw [hwt st hj] at hLs;cases hLs))
    refine ⟨o,ho,fun K' hK=>h K' fun v w' hc hs' hv=>hK.out v w' ⟨fun _=>⟨Chg.trans g1 hc,?_⟩,fun hq=>(by rw [come_ne (Ne.symm ei),hLs] at hq;cases hq),fun hq=>(by rw [come_ne (Ne.symm ei),hLs] at hq;cases hq),fun j hj hne hl'=>?_⟩⟩
    · rw [cnt_come hLi n hi];exact hs'
    by_cases e:j=i
    · subst e;rw [hk];simp only [updO,Option.getD_some];rw [upd_same];exact hv
    rw [come_ne e] at hl'
    rw [hk];simp only [updO];rw [upd_ne _ _ (ne' j hj hne e)]
    exact stable j _ _ _ (hc.mono fun k hk=>.inl hk) (h4 j hj hne hl')
   | true =>
    obtain ⟨o,ho,h⟩:=stepL i hi ei hl u w8 hdep
    refine ⟨o,ho,fun K' hK=>h K' fun v hv=>hK.out v w8 ⟨fun hq=>?_,fun hq=>?_,fun hq j hj=>?_,fun j hj hne hl'=>?_⟩⟩
    · rw [come_ne (Ne.symm ei)] at hq
      obtain ⟨g1,g2⟩:=h1 hq
      exact ⟨g1,g2.mono (by rw [cnt_come hLi n hi];omega)⟩
    · rw [come_ne (Ne.symm ei)] at hq;exact h2 hq
    · rw [come_ne (Ne.symm ei)] at hq;exact come_old (h3 hq j hj)
    by_cases e:j=i
    · subst e;rw [hk];simp only [updO,Option.getD_some];rw [upd_same];exact hv
    rw [come_ne e] at hl'
    rw [hk];simp only [updO];rw [upd_ne _ _ (ne' j hj hne e)]
    exact h4 j hj hne hl'
 · intro L u w8 hall hI
   exact fin u w8 (hI.2.1 (hall st hst))
 · simp [falses_replicate]
 have:(fun j=>(Array.replicate n false).getD j false)=fun _=>false:=by funext j;exact getD_replicate_false _ _
 rw [this]
 exact ⟨fun _=>⟨Chg.trans hW hd,(hs.below (Below.refl _ _).drew).mono (Nat.le_add_right _ _)⟩,fun h=>(by cases h),fun h=>(by cases h),fun j _ _ h=>(by cases h)⟩
end Go.Proofs.YtcnoemjeijjnjaaGreat.drawnSrc
namespace Go.Proofs.YtcnoemjeijjnjaaGreat.names
open Go.RowKit base
def letB (n : Int) : Bool := decide (97≤n∧n≤122∨65≤n∧n≤90∨n=95)
def digB (n : Int) : Bool := decide (48≤n∧n≤57)
set_option maxHeartbeats 400000 in
theorem let_impl (n:Int) (w:World) :
  Calls Tryz.prog 129 #[.int .u8 n] w fun e w'=>e=.returned (.bool (letB n))∧w' = w:=by
 go_enter Tryz.func129,Tryz.ntmps129
 go_wp2
 all_goals
  go_ret
  refine ⟨ret_bool ?_,rfl⟩
  rw [Bool.eq_iff_iff];simp [letB];try omega
set_option maxHeartbeats 400000 in
theorem let_spec (n:Int) (w:World) :
  Calls Tryz.prog 144 #[.int .u8 n] w fun e w'=>e=.returned (.bool (letB n))∧w' = w:=by
 go_enter Tryz.func144,Tryz.ntmps144
 go_wp2
 all_goals
  go_ret
  refine ⟨ret_bool ?_,rfl⟩
  rw [Bool.eq_iff_iff];simp [letB];try omega
set_option maxHeartbeats 400000 in
theorem dig_impl (n:Int) (w:World) :
  Calls Tryz.prog 130 #[.int .u8 n] w fun e w'=>e=.returned (.bool (digB n))∧w' = w:=by
 go_enter Tryz.func130,Tryz.ntmps130
 go_wp2
 all_goals
  go_ret
  refine ⟨ret_bool ?_,rfl⟩
  rw [Bool.eq_iff_iff];simp [digB];try omega
set_option maxHeartbeats 400000 in
theorem dig_spec (n:Int) (w:World) :
  Calls Tryz.prog 145 #[.int .u8 n] w fun e w'=>e=.returned (.bool (digB n))∧w' = w:=by
 go_enter Tryz.func145,Tryz.ntmps145
 go_wp2
 all_goals
  go_ret
  refine ⟨ret_bool ?_,rfl⟩
  rw [Bool.eq_iff_iff];simp [digB];try omega
def allTo (p : Nat→Bool) : Nat→Bool
 | 0=>true
 | k+1=>allTo p k && p k
theorem allTo_false {p:Nat→Bool} {k n:Nat} (h:k<n) (hp:p k=false):allTo p n=false:=by
 induction n with
 | zero=>omega
 | succ n ih =>
  by_cases e:k=n
  · subst e;simp [allTo,hp]
  simp [allTo,ih (by omega)]
def byt (s : ByteArray) (i : Nat) : Int := (s.data.toList.getD i 0).toNat
theorem byt_eq (s:ByteArray) (i:Nat) (h:i<s.size):byt s i=(s[i].toNat:Int):=by
 unfold byt
 rw [List.getD_eq_getElem?_getD,List.getElem?_eq_getElem (by simpa using h)];rfl
def good (s : ByteArray) (i : Nat) : Bool := letB (byt s i) || (decide (0<i) && digB (byt s i))
def nameB (s : ByteArray) : Bool := decide (0<s.size∧s.size≤40) && allTo (good s) s.size
set_option maxHeartbeats 400000 in
theorem name_impl (s:ByteArray) (w:World) (hs:s.size≤maxLen) :
  Calls Tryz.prog 92 #[.string s] w fun e w'=>e=.returned (.bool (nameB s))∧w' = w:=by
 unfold maxLen at hs
 by_cases h0:s.size=0
 · have hz:((s.size:Int) == 0)=true:=by simp [h0]
   have hf:nameB s=false:=by simp [nameB,h0]
   rw [hf]
   clear hf
   go_enter Tryz.func92,Tryz.ntmps92
   go_wp2
   go_ret
   exact ⟨rfl,rfl⟩
 by_cases h1:40<s.size
 · have hz:((s.size:Int) == 0)=false:=beq_eq_false_iff_ne.2 (by omega)
   have hf:nameB s=false:=by
    have:decide (0<s.size∧s.size≤40)=false:=decide_eq_false (by omega)
    simp [nameB,this]
   rw [hf]
   clear hf
   go_enter Tryz.func92,Tryz.ntmps92
   go_wp2
   go_ret
   exact ⟨rfl,rfl⟩
 have hz:((s.size:Int) == 0)=false:=beq_eq_false_iff_ne.2 (by omega)
 have hd:decide ((40:Int)<(s.size:Int))=false:=by simp;omega
 have hN:Hid (nameB s=allTo (good s) s.size):=by
  show _=_
  have:decide (0<s.size∧s.size≤40)=true:=decide_eq_true (by omega)
  simp [nameB,this]
 go_enter Tryz.func92,Tryz.ntmps92
 go_wp2
 go_loop [14] (fun i=>∃ k:Nat,k≤s.size∧i=.int .i64 k∧allTo (good s) k=true) (fun i=>s.size - (intOf i).toNat)
 case atStart=>exact ⟨0,Nat.zero_le _,rfl,rfl⟩
 obtain ⟨k,hk,rfl,ha⟩:=hrel
 have HA:Hid (allTo (good s) k=true):=ha
 clear ha
 by_cases hlt:k<s.size
 · have HB:Hid (byt s k=(s[k].toNat:Int)):=byt_eq s k hlt
   by_cases hL:letB (s[k].toNat:Int)=true
   · have hg:Hid (good s k=true):=by show _=_;simp [good,HB.out,hL]
     go_wp2_with (first|(go_at_call 129;refine (let_impl _ _).mono ?_;rintro e w' ⟨rfl,rfl⟩)|(go_at_call 130;refine (dig_impl _ _).mono ?_;rintro e w' ⟨rfl,rfl⟩))
     go_round
     case rel=>exact ⟨k+1,by omega,by go_num,by simp [allTo,HA.out,hg.out]⟩
     case measure=>simp [intOf];omega
   have hL':letB (s[k].toNat:Int)=false:=by simpa using hL
   clear hL
   by_cases hk0:k=0
   · subst hk0
     have hg:Hid (good s 0=false):=by show _=_;simp [good,HB.out,hL']
     go_wp2_with (first|(go_at_call 129;refine (let_impl _ _).mono ?_;rintro e w' ⟨rfl,rfl⟩)|(go_at_call 130;refine (dig_impl _ _).mono ?_;rintro e w' ⟨rfl,rfl⟩))
     go_ret
     exact ⟨ret_bool (by rw [hN.out,allTo_false hlt hg.out]),rfl⟩
   have hk1:((k:Int) == 0)=false:=by simp;omega
   by_cases hD:digB (s[k].toNat:Int)=true
   · have hg:Hid (good s k=true):=by show _=_;simp [good,HB.out,hD];omega
     go_wp2_with (first|(go_at_call 129;refine (let_impl _ _).mono ?_;rintro e w' ⟨rfl,rfl⟩)|(go_at_call 130;refine (dig_impl _ _).mono ?_;rintro e w' ⟨rfl,rfl⟩))
     go_round
     case rel=>exact ⟨k+1,by omega,by go_num,by simp [allTo,HA.out,hg.out]⟩
     case measure=>simp [intOf];omega
   have hD':digB (s[k].toNat:Int)=false:=by simpa using hD
   clear hD
   have hg:Hid (good s k=false):=by show _=_;simp [good,HB.out,hL',hD']
   go_wp2_with (first|(go_at_call 129;refine (let_impl _ _).mono ?_;rintro e w' ⟨rfl,rfl⟩)|(go_at_call 130;refine (dig_impl _ _).mono ?_;rintro e w' ⟨rfl,rfl⟩))
   go_ret
   exact ⟨ret_bool (by rw [hN.out,allTo_false hlt hg.out]),rfl⟩
 have e:k=s.size:=by omega
 subst e
 go_wp2
 go_ret
 exact ⟨ret_bool (by rw [hN.out,HA.out]),rfl⟩
set_option maxHeartbeats 400000 in
theorem word_spec (s:ByteArray) (w:World) (hs:s.size≤maxLen) :
  Calls Tryz.prog 120 #[.string s] w fun e w'=>e=.returned (.bool (nameB s))∧w' = w:=by
 unfold maxLen at hs
 by_cases h0:s.size=0
 · have hz:((s.size:Int)<1):=by omega
   have hf:nameB s=false:=by simp [nameB,h0]
   rw [hf]
   clear hf
   go_enter Tryz.func120,Tryz.ntmps120
   go_wp2
   go_ret
   exact ⟨rfl,rfl⟩
 by_cases h1:40<s.size
 · have hz:¬ ((s.size:Int)<1):=by omega
   have hf:nameB s=false:=by
    have:decide (0<s.size∧s.size≤40)=false:=decide_eq_false (by omega)
    simp [nameB,this]
   rw [hf]
   clear hf
   go_enter Tryz.func120,Tryz.ntmps120
   go_wp2
   go_ret
   exact ⟨rfl,rfl⟩
 have hz:decide ((s.size:Int)<1)=false:=by simp;omega
 have hd:decide ((40:Int)<(s.size:Int))=false:=by simp;omega
 have hlt0:0<s.size:=by omega
 have hN:Hid (nameB s=allTo (good s) s.size):=by
  show _=_
  have:decide (0<s.size∧s.size≤40)=true:=decide_eq_true (by omega)
  simp [nameB,this]
 have HB0:Hid (byt s 0=(s[0].toNat:Int)):=byt_eq s 0 hlt0
 by_cases hL0:letB (s[0].toNat:Int)=true
 · have hg0:Hid (allTo (good s) 1=true):=by show _=_;simp [allTo,good,HB0.out,hL0]
   go_enter Tryz.func120,Tryz.ntmps120
   go_wp2_with (go_at_call 144;refine (let_spec _ _).mono ?_;rintro e w' ⟨rfl,rfl⟩)
   go_loop [3] (fun i=>∃ k:Nat,1≤k∧k≤s.size∧i=.int .i64 k∧allTo (good s) k=true) (fun i=>s.size - (intOf i).toNat)
   case atStart=>exact ⟨1,by omega,by omega,rfl,hg0.out⟩
   obtain ⟨k,hk1,hk,rfl,ha⟩:=hrel
   have HA:Hid (allTo (good s) k=true):=ha
   clear ha
   by_cases hlt:k<s.size
   · have HB:Hid (byt s k=(s[k].toNat:Int)):=byt_eq s k hlt
     by_cases hL:letB (s[k].toNat:Int)=true
     · have hg:Hid (good s k=true):=by show _=_;simp [good,HB.out,hL]
       go_wp2_with (first|(go_at_call 144;refine (let_spec _ _).mono ?_;rintro e w' ⟨rfl,rfl⟩)|(go_at_call 145;refine (dig_spec _ _).mono ?_;rintro e w' ⟨rfl,rfl⟩))
       go_round
       case rel=>exact ⟨k+1,by omega,by omega,by go_num,by simp [allTo,HA.out,hg.out]⟩
       case measure=>simp [intOf];omega
     have hL':letB (s[k].toNat:Int)=false:=by simpa using hL
     clear hL
     by_cases hD:digB (s[k].toNat:Int)=true
     · have hg:Hid (good s k=true):=by show _=_;simp [good,HB.out,hD];omega
       go_wp2_with (first|(go_at_call 144;refine (let_spec _ _).mono ?_;rintro e w' ⟨rfl,rfl⟩)|(go_at_call 145;refine (dig_spec _ _).mono ?_;rintro e w' ⟨rfl,rfl⟩))
       go_round
       case rel=>exact ⟨k+1,by omega,by omega,by go_num,by simp [allTo,HA.out,hg.out]⟩
       case measure=>simp [intOf];omega
     have hD':digB (s[k].toNat:Int)=false:=by simpa using hD
     clear hD
     have hg:Hid (good s k=false):=by show _=_;simp [good,HB.out,hL',hD']
     go_wp2_with (first|(go_at_call 144;refine (let_spec _ _).mono ?_;rintro e w' ⟨rfl,rfl⟩)|(go_at_call 145;refine (dig_spec _ _).mono ?_;rintro e w' ⟨rfl,rfl⟩))
     go_ret
     exact ⟨ret_bool (by rw [hN.out,allTo_false hlt hg.out]),rfl⟩
   have e:k=s.size:=by omega
   subst e
   go_wp2
   go_ret
   exact ⟨ret_bool (by rw [hN.out,HA.out]),rfl⟩
 have hL':letB (s[0].toNat:Int)=false:=by simpa using hL0
 clear hL0
 have hg:Hid (good s 0=false):=by show _=_;simp [good,HB0.out,hL']
 go_enter Tryz.func120,Tryz.ntmps120
 go_wp2_with (go_at_call 144;refine (let_spec _ _).mono ?_;rintro e w' ⟨rfl,rfl⟩)
 go_ret
 exact ⟨ret_bool (by rw [hN.out,allTo_false hlt0 hg.out]),rfl⟩
set_option maxHeartbeats 400000 in
theorem name_spec (s:ByteArray) (w:World) (hs:s.size≤maxLen) :
  Calls Tryz.prog 76 #[.string s] w fun e w'=>e=.returned (.bool (nameB s))∧w' = w:=by
 go_enter Tryz.func76,Tryz.ntmps76
 go_wp2_with (go_at_call 120;refine (word_spec _ _ hs).mono ?_;rintro e w' ⟨rfl,rfl⟩)
 go_ret
 exact ⟨rfl,rfl⟩
end Go.Proofs.YtcnoemjeijjnjaaGreat.names
namespace Go.Proofs.YtcnoemjeijjnjaaGreat.netSem
open Go.RowKit Go.Deep base names
theorem bdn {W w1:World} (h:Below W.heap.size W w1) (n:Nat):Below W.heap.size W (w1.drewN n):=h.trans ((below_drewN w1 n).mono h.size)
abbrev R := Nat→Nat→Int
abbrev Ss := Nat→ByteArray
structure Row (m : Nat) (w : World) (a : Option Addr) (len : Nat) (g : R) : Prop where
 most:len≤maxLen
 cell:∀ i,i<len→∃ b off,a=some ⟨b,off,none⟩∧∀ j,j<m→w.cell? ⟨b,off+i*m+j,none⟩=some (.int .i64 (g i j))
theorem Row.kept {m:Nat} {W w1:World} {a:Option Addr} {len:Nat} {g:R} (h:Row m W a len g) (hk:∀ b o v,W.cell? ⟨b,o,none⟩=some v→w1.cell? ⟨b,o,none⟩=some v):Row m w1 a len g :=
 ⟨h.most,fun i hi=>by
  obtain ⟨b,off,e,h0⟩:=h.cell i hi
  exact ⟨b,off,e,fun j hj=>hk _ _ _ (h0 j hj)⟩⟩
theorem Row.below {m:Nat} {W w1:World} {a:Option Addr} {len:Nat} {g:R} (h:Row m W a len g) (hb:Below W.heap.size W w1):Row m w1 a len g:=h.kept fun b o v hv=>keep hb hv
theorem Row.front {m:Nat} {w:World} {a:Option Addr} {len k:Nat} {g:R} (h:Row m w a len g) (hk:k≤len):Row m w a k g :=
 ⟨Nat.le_trans hk h.most,fun i hi=>h.cell i (by omega)⟩
theorem Row.at3 {w:World} {a:Option Addr} {len i:Nat} {g:R} (h:Row 3 w a len g) (hi:i<len):∃ b off,a=some ⟨b,off,none⟩∧w.cell? ⟨b,off+i*3,none⟩=some (.int .i64 (g i 0))∧w.cell? ⟨b,off+i*3+1,none⟩=some (.int .i64 (g i 1))∧w.cell? ⟨b,off+i*3+2,none⟩=some (.int .i64 (g i 2)):=by
 obtain ⟨b,off,e,hc⟩:=h.cell i hi
 exact ⟨b,off,e,hc 0 (by omega),hc 1 (by omega),hc 2 (by omega)⟩
theorem Row.at4 {w:World} {a:Option Addr} {len i:Nat} {g:R} (h:Row 4 w a len g) (hi:i<len):∃ b off,a=some ⟨b,off,none⟩∧w.cell? ⟨b,off+i*4,none⟩=some (.int .i64 (g i 0))∧w.cell? ⟨b,off+i*4+1,none⟩=some (.int .i64 (g i 1))∧w.cell? ⟨b,off+i*4+2,none⟩=some (.int .i64 (g i 2))∧w.cell? ⟨b,off+i*4+3,none⟩=some (.int .i64 (g i 3)):=by
 obtain ⟨b,off,e,hc⟩:=h.cell i hi
 exact ⟨b,off,e,hc 0 (by omega),hc 1 (by omega),hc 2 (by omega),hc 3 (by omega)⟩
theorem Row.at5 {w:World} {a:Option Addr} {len i:Nat} {g:R} (h:Row 5 w a len g) (hi:i<len):∃ b off,a=some ⟨b,off,none⟩∧w.cell? ⟨b,off+i*5,none⟩=some (.int .i64 (g i 0))∧w.cell? ⟨b,off+i*5+1,none⟩=some (.int .i64 (g i 1))∧w.cell? ⟨b,off+i*5+2,none⟩=some (.int .i64 (g i 2))∧w.cell? ⟨b,off+i*5+3,none⟩=some (.int .i64 (g i 3))∧w.cell? ⟨b,off+i*5+4,none⟩=some (.int .i64 (g i 4)):=by
 obtain ⟨b,off,e,hc⟩:=h.cell i hi
 exact ⟨b,off,e,hc 0 (by omega),hc 1 (by omega),hc 2 (by omega),hc 3 (by omega),hc 4 (by omega)⟩
structure StrRow (w : World) (a : Option Addr) (len : Nat) (s : Ss) : Prop where
 most:len≤maxLen
 size:∀ i,i<len→(s i).size≤maxLen
 cell:∀ i,i<len→∃ b off,a=some ⟨b,off,none⟩∧w.cell? ⟨b,off+i,none⟩=some (.string (s i))
theorem StrRow.kept {W w1:World} {a:Option Addr} {len:Nat} {s:Ss} (h:StrRow W a len s) (hk:∀ b o v,W.cell? ⟨b,o,none⟩=some v→w1.cell? ⟨b,o,none⟩=some v):StrRow w1 a len s :=
 ⟨h.most,h.size,fun i hi=>by
  obtain ⟨b,off,e,h0⟩:=h.cell i hi
  exact ⟨b,off,e,hk _ _ _ h0⟩⟩
theorem StrRow.below {W w1:World} {a:Option Addr} {len:Nat} {s:Ss} (h:StrRow W a len s) (hb:Below W.heap.size W w1):StrRow w1 a len s:=h.kept fun b o v hv=>keep hb hv
theorem StrRow.front {w:World} {a:Option Addr} {len k:Nat} {s:Ss} (h:StrRow w a len s) (hk:k≤len):StrRow w a k s :=
 ⟨Nat.le_trans hk h.most,fun i hi=>h.size i (by omega),fun i hi=>h.cell i (by omega)⟩
def allN (p : Nat→Bool) (n : Nat) : Bool := (List.range n).all p
theorem allN_iff {p : Nat→Bool} {n : Nat} : allN p n=true ↔ ∀ i,i<n→p i=true := by simp [allN]
theorem allN_of {p:Nat→Bool} {n:Nat} (h:∀ i,i<n→p i=true):allN p n=true:=allN_iff.2 h
theorem allN_false {p:Nat→Bool} {n i:Nat} (hi:i<n) (h:p i=false):allN p n=false:=by
 cases e:allN p n with
 | false=>rfl
 | true=>rw [allN_iff.1 e i hi] at h;cases h
def firstAt (p : Nat→Bool) (n : Nat) : Int := match (List.range n).find? p with
 | some i=>(i:Int)
 | none=>-1
theorem firstAt_none {p:Nat→Bool} {n:Nat} (h:∀ i,i<n→p i=false):firstAt p n = -1:=by
 have:(List.range n).find? p=none:=by simp [List.find?_eq_none];exact h
 simp [firstAt,this]
theorem firstAt_hit {p:Nat→Bool} {n k:Nat} (hk:k<n) (h:p k=true) (h0:∀ i,i<k→p i=false):firstAt p n=k:=by
 have:(List.range n).find? p=some k:=by
  rw [List.find?_range_eq_some]
  exact ⟨h,List.mem_range.2 hk,fun j hj=>by simp [h0 j hj]⟩
 simp [firstAt,this]
theorem firstAt_bounds (p:Nat→Bool) (n:Nat) : -1≤firstAt p n∧firstAt p n<n:=by
 unfold firstAt
 cases e:(List.range n).find? p with
 | none=>exact ⟨by simp only [];omega,by simp only [];omega⟩
 | some i =>
  have:=List.mem_range.1 (List.mem_of_find?_eq_some e)
  exact ⟨by simp only [];omega,by simp only [];omega⟩
theorem firstAt_spec {p : Nat→Bool} {n : Nat} : 0≤firstAt p n ↔ ∃ i,i<n∧p i=true := by
 constructor
 · intro h
   apply Classical.byContradiction
   intro hn
   rw [firstAt_none (p:=p) (n:=n)] at h
   · omega
   intro i hi
   cases e:p i with
   | false=>rfl
   | true=>exact absurd ⟨i,hi,e⟩ hn
 rintro ⟨i,hi,hp⟩
 apply Classical.byContradiction
 intro h
 unfold firstAt at h
 cases e:(List.range n).find? p with
 | none=>rw [List.find?_eq_none] at e;exact absurd hp (by simpa using e i (List.mem_range.2 hi))
 | some k=>rw [e] at h;simp only [] at h;omega
def inB (n low high : Int) : Bool := decide (low≤n∧n≤high)
def hit (g : R) (a b : Int) (i : Nat) : Bool := decide (g i 0=a∧g i 1=b∨g i 0=b∧g i 1=a)
def linkAt (g : R) (n : Nat) (a b : Int) : Int := firstAt (hit g a b) n
def same (s : Ss) (t : ByteArray) (i : Nat) : Bool := decide ((s i).toList=t.toList)
def nameAt (s : Ss) (n : Nat) (t : ByteArray) : Int := firstAt (same s t) n
def routerB (s : Ss) (i : Nat) : Bool := nameB (s i) && decide (nameAt s i (s i)<0)
def linkB (g : R) (r : Nat) (i : Nat) : Bool := inB (g i 0) 0 (r - 1) && inB (g i 1) 0 (r - 1) && decide (g i 0≠g i 1) && inB (g i 2) 1 100 && decide (linkAt g i (g i 0) (g i 1)<0)
def zAt (z : List Int) (i : Nat) : Int := z[i]?.getD 0
def risesB (z : List Int) (r : Nat) (i : Nat) : Bool := inB (zAt z i) 0 (r - 1) && (decide (i=0) || decide (zAt z (i - 1)<zAt z i))
def deedB (wh d n : Int) : Bool := inB wh 0 2 && inB d 1 4 && inB n 0 (if d=2 then 1000 else 0)
def portsB (low high : Int) : Bool := decide (0≤low) && inB high low 15
def importB (g : R) (n : Nat) (x : R) (i : Nat) : Bool := decide (0≤linkAt g n (x i 0) (x i 1)) && deedB (x i 2) (x i 3) (x i 4)
def filterB (g : R) (n : Nat) (x : R) (i : Nat) : Bool := decide (0≤linkAt g n (x i 0) (x i 1)) && portsB (x i 2) (x i 3)
def routersB (s : Ss) (r : Nat) : Bool := inB r 1 4 && allN (routerB s) r
def linksB (g : R) (n r : Nat) : Bool := decide (n≤6) && allN (linkB g r) n
def risingB (z : List Int) (n r : Nat) : Bool := allN (risesB z r) n
def importsB (g : R) (n : Nat) (x : R) (m : Nat) : Bool := decide (m≤12) && allN (importB g n x) m
def filtersB (g : R) (n : Nat) (x : R) (m : Nat) : Bool := decide (m≤6) && allN (filterB g n x) m
structure NetIs (w : World) (p : Nat→Option Addr) (l : Nat→Nat) (s : Ss) (g : R) (o e : List Int) (x f : R) : Prop where
 routers:StrRow w (p 0) (l 0) s
 links:Row 3 w (p 1) (l 1) g
 origins:IntRow w (p 2) (l 2) o
 externals:IntRow w (p 3) (l 3) e
 imports:Row 5 w (p 4) (l 4) x
 filters:Row 4 w (p 5) (l 5) f
theorem NetIs.below {W w1:World} {p:Nat→Option Addr} {l:Nat→Nat} {s:Ss} {g x f:R} {o e:List Int} (h:NetIs W p l s g o e x f) (hb:Below W.heap.size W w1):NetIs w1 p l s g o e x f :=
 ⟨h.routers.below hb,h.links.below hb,h.origins.below hb,h.externals.below hb,h.imports.below hb,h.filters.below hb⟩
def netV (p : Nat→Option Addr) (l c : Nat→Nat) : Value := .agg #[.slice (p 0) (l 0) (c 0),.slice (p 1) (l 1) (c 1),.slice (p 2) (l 2) (c 2),.slice (p 3) (l 3) (c 3),.slice (p 4) (l 4) (c 4),.slice (p 5) (l 5) (c 5)]
def netB (l : Nat→Nat) (s : Ss) (g : R) (o e : List Int) (x f : R) : Bool :=
 routersB s (l 0) && linksB g (l 1) (l 0) && risingB o (l 2) (l 0) && risingB e (l 3) (l 0) && decide (l 3≤2) && importsB g (l 1) x (l 4) && filtersB g (l 1) f (l 5)
end Go.Proofs.YtcnoemjeijjnjaaGreat.netSem
