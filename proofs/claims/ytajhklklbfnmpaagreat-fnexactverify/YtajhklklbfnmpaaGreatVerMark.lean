import Derived.Test.YtajhklklbfnmpaaGreatPart43
set_option linter.unusedVariables false
namespace Go.Proofs.YtajhklklbfnmpaaGreat.verMark
open Go.RowKit Go.Deep Go base copy netSem intsOwn downsSpec verHold verdictImpl rangeTwo
def mk (n : Int) (i : Nat) : Bool := (n+(i : Int)) % 3 == 0
def mks (n : Int) (len : Nat) : List Bool := (List.range len).map (mk n)
theorem mks_get {n : Int} {len i : Nat} (h : i < len) : (mks n len)[i]?.getD false=mk n i := by
 unfold mks
 rw [List.getElem?_map,List.getElem?_range h];rfl
theorem bown_holds {B g n cap : Nat} {w : World} {zs : List Bool} (h : OwnBools B w (.slice (some ⟨g,0,none⟩) n cap) zs) : zs.length=n∧∀ j,j < n→w.cell? ⟨g,0+j,none⟩=some (.bool (zs[j]?.getD false))∧w.frozen? ⟨g,0+j,none⟩=false := by
 obtain ⟨a,c,e,hr⟩:=bools_row h
 simp only [Value.slice.injEq] at e
 obtain ⟨rfl,hl,_⟩:=e
 refine ⟨hl.symm,fun j hj=>?_⟩
 obtain ⟨b,o,e2,hc⟩:=hr.cell j (by omega)
 cases e2
 refine ⟨hc,?_⟩
 rcases h.2 with ⟨e,_⟩ | ⟨g',cap',cur,e,hg,hh,_⟩
 · cases e
 · cases e
   simp [World.frozen?,hh]
theorem bown_set {B g n c k : Nat} {w : World} {zs : List Bool} {z : Bool} (h : OwnBools B w (.slice (some ⟨g,0,none⟩) n c) zs) (hk : k < n) : OwnBools B (w.setCell ⟨g,k,none⟩ (.bool z)) (.slice (some ⟨g,0,none⟩) n c) (zs.set k z) := by
 obtain ⟨h1,h2⟩:=h
 have hl:zs.length=n:=by
  rcases h2 with ⟨e,_⟩ | ⟨g',cap,cur,e,_⟩
  · cases e
  · simp only [Value.slice.injEq] at e;exact e.2.1.symm
 subst hl
 refine ⟨by simp,.inr ?_⟩
 rcases h2 with ⟨e,_⟩ | ⟨g',cap,cur,e,hg,hh,hn,hm,hs,ht⟩
 · cases e
 · cases e
   refine ⟨g,c,cur.setIfInBounds k (.bool z),by rw [List.length_set],hg,?_,by rw [List.length_set];exact hn,hm,by simpa using hs,?_⟩
   · rw [Go.Sort.setCell_eq]
     show (w.heap.modify g _)[g]? = _
     rw [Array.getElem?_modify,if_pos rfl,hh]
     rfl
   · rw [List.length_set,Array.toList_setIfInBounds,List.take_set,ht,List.map_set]
set_option maxHeartbeats 800000 in
theorem mark_bl (B g len c : Nat) (zs : List Bool) (n : Int) (w : World) (h : OwnBools B w (.slice (some ⟨g,0,none⟩) len c) zs) (hn0 : 0≤n) (hn : n≤2097152) (hl : len≤1048576) :
  Calls Tryz.prog 41 #[.slice (some ⟨g,0,none⟩) len c,.int .i64 n] w fun e w'=>e=.returned (.int .i64 (n+len))∧OwnBools B w' (.slice (some ⟨g,0,none⟩) len c) (mks n len)∧w.grownBy w' (some g):=by
 have hlen:=(bown_holds h).1
 have HO:=hid h
 clear h
 go_enter Tryz.func41,Tryz.ntmps41
 go_wp2
 go_loopw [5,1] (fun i t wr=>∃ k:Nat,k≤len∧i=.int .i64 k∧t=.int .i64 (n+k)∧w.grownBy wr (some g)∧∃ ys,OwnBools B wr (.slice (some ⟨g,0,none⟩) len c) ys∧∀ j,j < k→ys[j]?.getD false=mk n j) (fun i _ _=>len - (intOf i).toNat)
 case atStart=>exact ⟨0,Nat.zero_le _,rfl,by simp,grown_refl _ _,zs,HO.out,fun j hj=>absurd hj (Nat.not_lt_zero _)⟩
 case round =>
  obtain ⟨k,hk,rfl,rfl,hgr,ys,hown,hys⟩:=hrel
  obtain ⟨hyl,hcells⟩:=bown_holds hown
  have HG:=hid hgr
  have HOw:=hid hown
  have HY:=hid hys
  clear hgr hys
  by_cases hlt:k < len
  · obtain ⟨hc,hf⟩:=hcells k hlt
    rw [Nat.zero_add] at hc hf
    have HYL:=hid hyl
    clear hown hcells hyl
    have HM:Hid (mk n k=((n+(k:Int)) % 3 == 0)):=rfl
    go_wp2
    go_roundw
    case rel =>
     refine ⟨k+1,by omega,by go_num,by congr 1;omega,grown_set HG.out,ys.set k ((n+(k:Int)) % 3 == 0),bown_set HOw.out hlt,fun j hj=>?_⟩
     rw [List.getElem?_set]
     by_cases e:k=j
     · subst e;rw [if_pos rfl,if_pos (by rw [HYL.out];exact hlt),HM.out];rfl
     · rw [if_neg e];exact HY.out j (by omega)
    case measure=>simp [intOf];omega
  · have e:k=len:=by omega
    subst e
    have HE:Hid (ys=mks n k):=by
     show _=_
     apply List.ext_getElem
     · simp [mks];omega
     · intro i h1 h2
       have:=HY.out i (by omega)
       rw [List.getElem?_eq_getElem h1] at this
       simp only [Option.getD_some] at this
       simp [mks,this]
    clear hown hcells hyl
    go_wp2
    go_ret
    exact ⟨rfl,by rw [← HE.out];exact HOw.out,HG.out⟩
set_option maxHeartbeats 400000 in
theorem mark_blany (B : Nat) (v : Value) (zs : List Bool) (n : Int) (w : World) (h : OwnBools B w v zs) (hn0 : 0≤n) (hn : n≤2097152) (hl : zs.length≤1048576) :
  Calls Tryz.prog 41 #[v,.int .i64 n] w fun e w'=>e=.returned (.int .i64 (n+zs.length))∧OwnBools B w' v (mks n zs.length)∧w.grownBy w' v.ownBlock:=by
 rcases h.2 with ⟨rfl,h0⟩ | ⟨g,cap,cur,rfl,_⟩
 · have hz:zs=[]:=List.length_eq_zero_iff.1 h0
   subst hz
   go_enter Tryz.func41,Tryz.ntmps41
   go_wp2
   go_loop [5,1] (fun i t=>i=.int .i64 0∧t=.int .i64 n) (fun _ _=>0)
   case atStart=>exact ⟨rfl,rfl⟩
   case round =>
    obtain ⟨rfl,rfl⟩:=hrel
    go_wp2
    go_ret
    exact ⟨rfl,World.ownsRow_nil _ _ _ _,grown_refl _ _⟩
 · exact mark_bl B g zs.length cap zs n w h hn0 hn hl
set_option maxHeartbeats 400000 in
theorem held_bools (a : Option Addr) (len cap : Nat) (n : Int) (w : World) (hr : BoolRow w a len (mks n len)) (hn0 : 0≤n) (hn : n≤9000000) (hl : len≤1048576) :
  Calls Tryz.prog 42 #[.slice a len cap,.int .i64 n] w fun e w'=>e=.returned (.int .i64 (n+len))∧w' = w:=by
 have HR:=hid hr
 clear hr
 go_enter Tryz.func42,Tryz.ntmps42
 go_wp2
 go_loop [5,1] (fun i t=>∃ k:Nat,k≤len∧i=.int .i64 k∧t=.int .i64 (n+k)) (fun i _=>len - (intOf i).toNat)
 case atStart=>exact ⟨0,Nat.zero_le _,rfl,by simp⟩
 case round =>
  obtain ⟨k,hk,rfl,rfl⟩:=hrel
  by_cases hlt:k < len
  · obtain ⟨b,off,rfl,hc⟩:=HR.out.cell k hlt
    rw [mks_get hlt] at hc
    have hm:mk n k=((n+(k:Int)) % 3 == 0):=rfl
    cases hv:mk n k with
    | true =>
     rw [hv] at hc hm
     have hq:((n+(k:Int)) % 3 == 0)=true:=hm.symm
     clear hm
     go_wp2
     go_round
     case rel=>exact ⟨k+1,by omega,by go_num,by congr 1;omega⟩
     case measure=>simp [intOf];omega
    | false =>
     rw [hv] at hc hm
     have hq:((n+(k:Int)) % 3 == 0)=false:=hm.symm
     clear hm
     go_wp2
     go_round
     case rel=>exact ⟨k+1,by omega,by go_num,by congr 1;omega⟩
     case measure=>simp [intOf];omega
  · have e:k=len:=by omega
    subst e
    go_wp2
    go_ret
    exact ⟨rfl,rfl⟩
theorem brow {B n c : Nat} {w : World} {a : Option Addr} {zs : List Bool} (h : OwnBools B w (.slice a n c) zs) : BoolRow w a n zs := pickB.brow_of_own h
theorem own_df {B n s : Nat} {t : TypeId} {w w' : World} {X : Nat→Prop} {v : Value} {xs : List Value} (h : w.ownsRow B t s v n xs) (hd : Df X w w') (hx : ∀ g,v.ownBlock=some g→¬ X g) : w'.ownsRow B t s v n xs :=
 own_atT h fun g cs hv hh=>hd.blk g (Array.getElem?_eq_some_iff.1 hh).1 (hx g hv)
theorem apart_bi {B B' : Nat} {w : World} {v v' : Value} {zs : List Bool} {ys : List Int} (h : OwnBools B w v zs) (h' : OwnInts B' w v' ys) : Ap v v' := fun g h1 h2=>by
 rcases h.2 with ⟨e,_⟩ | ⟨q,cap,cur,e,_,hh,_⟩
 · rw [e] at h1;simp [Value.ownBlock] at h1
 · rcases h'.2 with ⟨e',_⟩ | ⟨q',cap',cur',e',_,hh',_⟩
   · rw [e'] at h2;simp [Value.ownBlock] at h2
   · rw [e] at h1
     rw [e'] at h2
     simp [Value.ownBlock] at h1 h2
     subst h1
     subst h2
     rw [hh] at hh'
     injection hh' with hh'
     injection hh' with _ hh' _
     exact absurd hh' (by decide)
set_option maxHeartbeats 800000 in
theorem eq_ver (hb : Bool) (n pt : Int) (D : List Bool) (E V : List Int) (a1 a2 a3 b1 b2 b3 : Option Addr) (c1 c2 c3 d1 d2 d3 : Nat) (w : World) (h1 : BoolRow w a1 D.length D) (h2 : IntRow w a2 E.length E) (h3 : IntRow w a3 V.length V) (k1 : BoolRow w b1 D.length D) (k2 : IntRow w b2 E.length E) (k3 : IntRow w b3 V.length V) :
  Calls Tryz.prog 9 #[.agg #[.bool hb,.int .i64 n,.slice a1 D.length c1,.slice a2 E.length c2,.slice a3 V.length c3,.int .i64 pt],.agg #[.bool hb,.int .i64 n,.slice b1 D.length d1,.slice b2 E.length d2,.slice b3 V.length d3,.int .i64 pt]] w fun e w'=>e=.returned (.bool true)∧Below w.heap.size w w' := by
 obtain ⟨W1,hW1⟩:∃ W1,(w.alloc (.cells #[.bool hb,.int .i64 n,.slice a1 D.length c1,.slice a2 E.length c2,.slice a3 V.length c3,.int .i64 pt] 34)).alloc (.cells #[.bool hb,.int .i64 n,.slice b1 D.length d1,.slice b2 E.length d2,.slice b3 V.length d3,.int .i64 pt] 34)=W1:=⟨_,rfl⟩
 have HB1:Hid (Below w.heap.size w W1):=hid (by rw [← hW1];exact Bl)
 have HC:Hid (∀ w8,Below W1.heap.size W1 w8→(w8.cell? ⟨w.heap.size,0,none⟩=some (.bool hb)∧w8.cell? ⟨w.heap.size,1,none⟩=some (.int .i64 n)∧w8.cell? ⟨w.heap.size,2,none⟩=some (.slice a1 D.length c1)∧w8.cell? ⟨w.heap.size,3,none⟩=some (.slice a2 E.length c2)∧w8.cell? ⟨w.heap.size,4,none⟩=some (.slice a3 V.length c3)∧w8.cell? ⟨w.heap.size,5,none⟩=some (.int .i64 pt))∧(w8.cell? ⟨w.heap.size+1,0,none⟩=some (.bool hb)∧w8.cell? ⟨w.heap.size+1,1,none⟩=some (.int .i64 n)∧w8.cell? ⟨w.heap.size+1,2,none⟩=some (.slice b1 D.length d1)∧w8.cell? ⟨w.heap.size+1,3,none⟩=some (.slice b2 E.length d2)∧w8.cell? ⟨w.heap.size+1,4,none⟩=some (.slice b3 V.length d3)∧w8.cell? ⟨w.heap.size+1,5,none⟩=some (.int .i64 pt))):=hid (fun w8 hb=>by
  refine ⟨⟨keep hb ?_,keep hb ?_,keep hb ?_,keep hb ?_,keep hb ?_,keep hb ?_⟩,keep hb ?_,keep hb ?_,keep hb ?_,keep hb ?_,keep hb ?_,keep hb ?_⟩ <;> (rw [← hW1];simp [go_sem]))
 have HW1:=hid hW1
 have H1:=hid (h1.below HB1.out)
 have H2:=hid (h2.below HB1.out)
 have H3:=hid (h3.below HB1.out)
 have K1:=hid (k1.below HB1.out)
 have K2:=hid (k2.below HB1.out)
 have K3:=hid (k3.below HB1.out)
 have e0:(hb != hb)=false:=by simp
 have e1:(n != n)=false:=by simp
 have e5:(pt != pt)=false:=by simp
 have dD:decide (D=D)=true:=decide_eq_true rfl
 have dE:decide (E=E)=true:=decide_eq_true rfl
 have dV:decide (V=V)=true:=decide_eq_true rfl
 clear h1 h2 h3 k1 k2 k3 hW1
 go_enter Tryz.func9,Tryz.ntmps9
 go_wp2_with fail
 rw [HW1.out]
 refine (eqBoolS _ _ _ _ _ _ D D _ H1.out K1.out).mono ?_
 rintro e2 w2 ⟨rfl,n2,hw2⟩
 have hb2:Below W1.heap.size W1 w2:=by rw [hw2];exact below_drewN _ _
 obtain ⟨⟨p0,p1,p2,p3,p4,p5⟩,q0,q1,q2,q3,q4,q5⟩:=HC.out w2 hb2
 have HB2:=hid hb2
 clear hw2 hb2
 go_wp2_with fail
 refine (eqIntS _ _ _ _ _ _ E E _ (H2.out.below HB2.out) (K2.out.below HB2.out)).mono ?_
 rintro e3 w3 ⟨rfl,n3,hw3⟩
 have hb3:Below W1.heap.size W1 w3:=by rw [hw3];exact HB2.out.trans ((below_drewN _ _).mono HB2.out.size)
 clear p0 p1 p2 p3 p4 p5 q0 q1 q2 q3 q4 q5
 obtain ⟨⟨p0,p1,p2,p3,p4,p5⟩,q0,q1,q2,q3,q4,q5⟩:=HC.out w3 hb3
 have HB3:=hid hb3
 clear hw3 hb3
 go_wp2_with fail
 refine (eqIntS _ _ _ _ _ _ V V _ (H3.out.below HB3.out) (K3.out.below HB3.out)).mono ?_
 rintro e4 w4 ⟨rfl,n4,hw4⟩
 have hb4:Below W1.heap.size W1 w4:=by rw [hw4];exact HB3.out.trans ((below_drewN _ _).mono HB3.out.size)
 clear p0 p1 p2 p3 p4 p5 q0 q1 q2 q3 q4 q5
 obtain ⟨⟨p0,p1,p2,p3,p4,p5⟩,q0,q1,q2,q3,q4,q5⟩:=HC.out w4 hb4
 have HB4:=hid (HB1.out.trans (hb4.mono HB1.out.size))
 clear hw4 hb4
 go_wp2
 go_ret
 exact ⟨rfl,HB4.out⟩
set_option maxHeartbeats 800000 in
theorem mark_ver (B : Nat) (hb : Bool) (n pt : Int) (D : List Bool) (E V : List Int) (a1 a2 a3 : Option Addr) (c1 c2 c3 : Nat) (k : Int) (w : World) (h1 : OwnBools B w (.slice a1 D.length c1) D) (h2 : OwnInts B w (.slice a2 E.length c2) E) (h3 : OwnInts B w (.slice a3 V.length c3) V) (hap : Ap (.slice a2 E.length c2) (.slice a3 V.length c3)) (hk0 : 0≤k) (hk : k≤1000) (hD : D.length≤1000) (hE : E.length≤1000) (hV : V.length≤1000) :
  Calls Tryz.prog 12 #[.agg #[.bool hb,.int .i64 n,.slice a1 D.length c1,.slice a2 E.length c2,.slice a3 V.length c3,.int .i64 pt],.int .i64 k] w fun e w'=>e=.returned (.int .i64 (k+D.length+E.length+V.length))∧OwnBools B w' (.slice a1 D.length c1) (mks k D.length)∧OwnInts B w' (.slice a2 E.length c2) (marks (k+D.length) E.length)∧OwnInts B w' (.slice a3 V.length c3) (marks (k+D.length+E.length) V.length)∧Df (fun q=>(Value.slice a1 D.length c1).ownBlock=some q ∨ (Value.slice a2 E.length c2).ownBlock=some q ∨ (Value.slice a3 V.length c3).ownBlock=some q) w w' := by
 have A12:=hid (apart_bi h1 h2)
 have A13:=hid (apart_bi h1 h3)
 have HAp:=hid hap
 obtain ⟨W1,hW1⟩:∃ W1,w.alloc (.cells #[.bool hb,.int .i64 n,.slice a1 D.length c1,.slice a2 E.length c2,.slice a3 V.length c3,.int .i64 pt] 34)=W1:=⟨_,rfl⟩
 have hb1:Below w.heap.size w W1:=by rw [← hW1];exact Bl
 have hC:W1.cell? ⟨w.heap.size,0,none⟩=some (.bool hb)∧W1.cell? ⟨w.heap.size,1,none⟩=some (.int .i64 n)∧W1.cell? ⟨w.heap.size,2,none⟩=some (.slice a1 D.length c1)∧W1.cell? ⟨w.heap.size,3,none⟩=some (.slice a2 E.length c2)∧W1.cell? ⟨w.heap.size,4,none⟩=some (.slice a3 V.length c3)∧W1.cell? ⟨w.heap.size,5,none⟩=some (.int .i64 pt):=by refine ⟨?_,?_,?_,?_,?_,?_⟩ <;> (rw [← hW1];simp [go_sem])
 have hz:W1.heap.size=w.heap.size+1:=by rw [← hW1];simp
 have L1:=hid (fun g hg=>(World.ownsRow.lt h1 g hg).2)
 have L2:=hid (fun g hg=>(World.ownsRow.lt h2 g hg).2)
 have L3:=hid (fun g hg=>(World.ownsRow.lt h3 g hg).2)
 have H1:=hid (own_pass h1 hb1)
 have H2:=hid (own_pass h2 hb1)
 have H3:=hid (own_pass h3 hb1)
 have HD1:Hid (Df (fun q=>(Value.slice a1 D.length c1).ownBlock=some q ∨ (Value.slice a2 E.length c2).ownBlock=some q ∨ (Value.slice a3 V.length c3).ownBlock=some q) w W1):=hid ((Df.of_below hb1).mono (fun _ _ h=>h.elim))
 have HCl:Hid (∀ w8,Df (fun q=>(Value.slice a1 D.length c1).ownBlock=some q ∨ (Value.slice a2 E.length c2).ownBlock=some q ∨ (Value.slice a3 V.length c3).ownBlock=some q) W1 w8→w8.cell? ⟨w.heap.size,0,none⟩=some (.bool hb)∧w8.cell? ⟨w.heap.size,1,none⟩=some (.int .i64 n)∧w8.cell? ⟨w.heap.size,2,none⟩=some (.slice a1 D.length c1)∧w8.cell? ⟨w.heap.size,3,none⟩=some (.slice a2 E.length c2)∧w8.cell? ⟨w.heap.size,4,none⟩=some (.slice a3 V.length c3)∧w8.cell? ⟨w.heap.size,5,none⟩=some (.int .i64 pt)):=hid (fun w8 hd=>by
  have hn:¬ ((Value.slice a1 D.length c1).ownBlock=some w.heap.size ∨ (Value.slice a2 E.length c2).ownBlock=some w.heap.size ∨ (Value.slice a3 V.length c3).ownBlock=some w.heap.size):=fun h=>by
   rcases h with h | h | h
   · have:=L1.out _ h;omega
   · have:=L2.out _ h;omega
   · have:=L3.out _ h;omega
  obtain ⟨p0,p1,p2,p3,p4,p5⟩:=hC
  exact ⟨hd.cell p0 hn,hd.cell p1 hn,hd.cell p2 hn,hd.cell p3 hn,hd.cell p4 hn,hd.cell p5 hn⟩)
 have HW1:=hid hW1
 clear h1 h2 h3 hap hW1 hb1 hz
 obtain ⟨p0,p1,p2,p3,p4,p5⟩:=hC
 go_enter Tryz.func12,Tryz.ntmps12
 go_wp2_with fail
 rw [HW1.out]
 refine (mark_blany B (.slice a1 D.length c1) D k W1 H1.out hk0 (by omega) (by omega)).mono ?_
 rintro e2 w2 ⟨rfl,ho2,hg2⟩
 have hd2:Df (fun q=>(Value.slice a1 D.length c1).ownBlock=some q) W1 w2:=⟨hg2.os,hg2.tape,hg2.output,hg2.size,fun q hq hn=>hg2.block q hq (fun e=>hn e.symm)⟩
 have HD2:=hid (hd2.mono (Y:=fun q=>(Value.slice a1 D.length c1).ownBlock=some q ∨ (Value.slice a2 E.length c2).ownBlock=some q ∨ (Value.slice a3 V.length c3).ownBlock=some q) (fun _ _ h=>.inl h))
 have O1:=hid ho2
 have H2:=hid (own_df H2.out hd2 (fun g h1 h2=>A12.out g h2 h1))
 have H3:=hid (own_df H3.out hd2 (fun g h1 h2=>A13.out g h2 h1))
 clear ho2 hg2 hd2 p0 p1 p2 p3 p4 p5
 obtain ⟨p0,p1,p2,p3,p4,p5⟩:=HCl.out w2 HD2.out
 go_wp2_with fail
 refine (mark_any B (.slice a2 E.length c2) E (k+D.length) w2 H2.out (by omega) (by omega) (by omega)).mono ?_
 rintro e3 w3 ⟨rfl,ho3,hg3⟩
 have hd3:Df (fun q=>(Value.slice a2 E.length c2).ownBlock=some q) w2 w3:=⟨hg3.os,hg3.tape,hg3.output,hg3.size,fun q hq hn=>hg3.block q hq (fun e=>hn e.symm)⟩
 have HD3:=hid (HD2.out.trans (hd3.mono (fun _ _ h=>.inr (.inl h))))
 have O2:=hid ho3
 have O1:=hid (own_df O1.out hd3 (fun g h1 h2=>A12.out g h1 h2))
 have H3:=hid (own_df H3.out hd3 (fun g h1 h2=>HAp.out g h2 h1))
 clear ho3 hg3 hd3 p0 p1 p2 p3 p4 p5
 obtain ⟨p0,p1,p2,p3,p4,p5⟩:=HCl.out w3 HD3.out
 go_wp2_with fail
 refine (mark_any B (.slice a3 V.length c3) V (k+D.length+E.length) w3 H3.out (by omega) (by omega) (by omega)).mono ?_
 rintro e4 w4 ⟨rfl,ho4,hg4⟩
 have hd4:Df (fun q=>(Value.slice a3 V.length c3).ownBlock=some q) w3 w4:=⟨hg4.os,hg4.tape,hg4.output,hg4.size,fun q hq hn=>hg4.block q hq (fun e=>hn e.symm)⟩
 have HD4:=hid (HD1.out.trans (HD3.out.trans (hd4.mono (fun _ _ h=>.inr (.inr h)))))
 have O3:=hid ho4
 have O1:=hid (own_df O1.out hd4 (fun g h1 h2=>A13.out g h1 h2))
 have O2:=hid (own_df O2.out hd4 (fun g h1 h2=>HAp.out g h1 h2))
 clear ho4 hg4 hd4 p0 p1 p2 p3 p4 p5
 go_wp2
 go_ret
 exact ⟨rfl,O1.out,O2.out,O3.out,HD4.out⟩
set_option maxHeartbeats 800000 in
theorem held_ver (hb : Bool) (n pt : Int) (D : List Bool) (E V : List Int) (a1 a2 a3 : Option Addr) (c1 c2 c3 : Nat) (k : Int) (w : World) (h1 : BoolRow w a1 D.length (mks k D.length)) (h2 : IntRow w a2 E.length (marks (k+D.length) E.length)) (h3 : IntRow w a3 V.length (marks (k+D.length+E.length) V.length)) (hk0 : 0≤k) (hk : k≤1000) (hD : D.length≤1000) (hE : E.length≤1000) (hV : V.length≤1000) :
  Calls Tryz.prog 13 #[.agg #[.bool hb,.int .i64 n,.slice a1 D.length c1,.slice a2 E.length c2,.slice a3 V.length c3,.int .i64 pt],.int .i64 k] w fun e w'=>e=.returned (.int .i64 (k+D.length+E.length+V.length))∧Below w.heap.size w w' := by
 have H1:=hid (h1.below (show Below w.heap.size w (w.alloc (.cells #[.bool hb,.int .i64 n,.slice a1 D.length c1,.slice a2 E.length c2,.slice a3 V.length c3,.int .i64 pt] 34)) from Bl))
 have H2:=hid (h2.below (show Below w.heap.size w (w.alloc (.cells #[.bool hb,.int .i64 n,.slice a1 D.length c1,.slice a2 E.length c2,.slice a3 V.length c3,.int .i64 pt] 34)) from Bl))
 have H3:=hid (h3.below (show Below w.heap.size w (w.alloc (.cells #[.bool hb,.int .i64 n,.slice a1 D.length c1,.slice a2 E.length c2,.slice a3 V.length c3,.int .i64 pt] 34)) from Bl))
 clear h1 h2 h3
 have d1:decide (k+(D.length:Int) < 0)=false:=decide_eq_false (by omega)
 have d2:decide (k+(D.length:Int)+(E.length:Int) < 0)=false:=decide_eq_false (by omega)
 have d3:decide (k+(D.length:Int)+(E.length:Int)+(V.length:Int) < 0)=false:=decide_eq_false (by omega)
 go_enter Tryz.func13,Tryz.ntmps13
 go_wp2_with fail
 refine (held_bools a1 D.length c1 k _ H1.out hk0 (by omega) (by omega)).mono ?_
 rintro e2 w2 ⟨rfl,hw⟩
 have hw:=hw.symm
 subst hw
 go_wp2_with fail
 refine (held_ints a2 E.length c2 (k+D.length) _ H2.out (by omega) (by omega) (by omega)).mono ?_
 rintro e3 w3 ⟨rfl,hw⟩
 have hw:=hw.symm
 subst hw
 go_wp2_with fail
 refine (held_ints a3 V.length c3 (k+D.length+E.length) _ H3.out (by omega) (by omega) (by omega)).mono ?_
 rintro e4 w4 ⟨rfl,hw⟩
 have hw:=hw.symm
 subst hw
 go_wp2
 go_ret
 exact ⟨rfl,Bl⟩
end Go.Proofs.YtajhklklbfnmpaaGreat.verMark
