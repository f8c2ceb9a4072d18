import Derived.Test.YthompjbplddkgaaGreatDoorPart23
import Derived.Test.YthompjbplddkgaaGreatDoorCandImp
import Derived.Laws.ResultCell
set_option linter.unusedVariables false
namespace Go.Proofs.YthompjbplddkgaaGreatDoor.sceneSem
open Go.RowKit Go.Deep Go base netSem routeRow nbSem candSem candImp hopSem intsOwn hopMake hopBetween
variable {sb b B : Nat} {F : Nat→Value} {p : Nat→Option Addr} {l c : Nat→Nat} {g : R} {o e : List Int} {x : R} {ea da : Option Addr} {el ec dl dc : Nat} {env : List Int} {ds : List Bool} {w w' : World}
def annA (e env : List Int) (router : Int) : Int := if 0≤hasAt e router then zAt env (hasAt e router).toNat else 0
def openB (g : R) (nl : Nat) (o e env : List Int) (ds : List Bool) (router via : Int) : Bool :=
 if via = -3 then true else if via = -2 then decide (0≤hasAt o router) else if via = -1 then (annA e env router != 0) else nbB g nl ds router via.toNat
def byVia (g : R) (nl : Nat) (o e : List Int) (x : R) (nx : Nat) (env : List Int) (ds : List Bool) (rs : Rs) (n : Nat) (router via : Int) : Option Rt :=
 if openB g nl o e env ds router via=false then none else if via = -3 then some noRt else if via = -2 then some ⟨-2,200,0,false⟩ else if via = -1 then some ⟨-1,100,2,annA e env router == 2⟩
 else if (rs via.toNat).via = -3∨thru rs router n via=true then none else impR g nl x nx router via (rs via.toNat)
end Go.Proofs.YthompjbplddkgaaGreatDoor.sceneSem
namespace Go.Proofs.YthompjbplddkgaaGreatDoor.routesB
open Go.RowKit Go.Deep base names netSem routeRow walkSem
def noneB (r : Rt) : Bool := decide (r.via = -3) && decide (r.pref=0) && decide (r.len=0) && !r.mark
def routeB (g : R) (nl n : Nat) (i : Nat) (r : Rt) : Bool := inB r.via (-3) ((n : Int) - 1) && inB r.pref 0 1000 && inB r.len 0 10000 && !(decide (0≤r.via) && decide (linkAt g nl (i : Int) r.via<0)) && !(decide (r.via = -3) && !noneB r)
def routesB (g : R) (nl n rl : Nat) (rs : Rs) : Bool := decide (rl=n) && allN (fun i=>routeB g nl n i (rs i)) rl
def LinksIn (g : R) (nl n : Nat) : Prop := ∀ j,j<nl→0≤g j 0∧g j 0<n∧0≤g j 1∧g j 1<n
theorem links_in {l:Nat→Nat} {s:Ss} {g x f:R} {o e:List Int} (h:netB l s g o e x f=true):LinksIn g (l 1) (l 0):=by
 unfold netB linksB at h
 simp only [Bool.and_eq_true,decide_eq_true_eq] at h
 obtain ⟨⟨⟨⟨⟨⟨_,_,h1⟩,_⟩,_⟩,_⟩,_⟩,_⟩:=h
 intro j hj
 have:=allN_iff.1 h1 j hj
 unfold linkB inB at this
 simp only [Bool.and_eq_true,decide_eq_true_eq] at this
 omega
theorem link_in {g:R} {nl n:Nat} {a b:Int} (h:LinksIn g nl n) (hl:0≤linkAt g nl a b):0≤b∧b<n:=by
 obtain ⟨j,hj,hh⟩:=firstAt_spec.1 hl
 have:=h j hj
 unfold hit at hh
 rw [decide_eq_true_eq] at hh
 omega
theorem routes_viable {g:R} {nl n rl:Nat} {rs:Rs} (h:routesB g nl n rl rs=true):rl=n∧Viable rs n:=by
 unfold routesB at h
 simp only [Bool.and_eq_true,decide_eq_true_eq] at h
 obtain ⟨rfl,h⟩:=h
 refine ⟨rfl,fun i hi=>?_⟩
 have:=allN_iff.1 h i hi
 unfold routeB inB at this
 simp only [Bool.and_eq_true,decide_eq_true_eq] at this
 omega
def downB (g : R) (nl : Nat) (ds : List Bool) (i : Nat) (r : Rt) : Bool := decide (0≤linkAt g nl (i : Int) r.via) && ds[(linkAt g nl (i : Int) r.via).toNat]?.getD false
def anyDown (g : R) (nl rl : Nat) (ds : List Bool) (rs : Rs) : Bool := !allN (fun i=>!downB g nl ds i (rs i)) rl
end Go.Proofs.YthompjbplddkgaaGreatDoor.routesB
namespace Go.Proofs.YthompjbplddkgaaGreatDoor.sceneBy
open Go.RowKit Go.Deep Go base netSem routeRow nbSem candSem candImp hopSem intsOwn hopMake hopBetween sceneSem
structure Good (n : Nat) (l : Nat→Nat) (g x : R) (rs : Rs) : Prop where
 few:n≤4
 uniq:∀ i,i<l 1→linkAt g i (g i 0) (g i 1)<0
 cost:∀ i,i<l 1→0≤g i 2∧g i 2≤100
 deed:∀ i,i<l 4→1≤x i 3∧x i 3≤4
 via:∀ i,i<n→-3≤(rs i).via∧(rs i).via<n
 len:∀ i,i<n→0≤(rs i).len∧(rs i).len≤20000
end Go.Proofs.YthompjbplddkgaaGreatDoor.sceneBy
namespace Go.Proofs.YthompjbplddkgaaGreatDoor.nbSpec
open Go.RowKit Go.Deep Go base copy names netSem netSpec netOKSpec intsOwn nbSem
set_option maxHeartbeats 3200000 in
theorem list_spec (p:Nat→Option Addr) (l c:Nat→Nat) (s:Ss) (g:R) (o e:List Int) (x f:R) (router:Int) (da:Option Addr) (dl dc:Nat) (ds:List Bool) (w:World) (h:NetIs w p l s g o e x f) (hd:BoolRow w da dl ds) (hdl:dl=l 1) (h4:l 0≤4) :
  Calls Tryz.prog 115 #[netV p l c,.int .i64 router,.slice da dl dc] w fun e' w'=>∃ v,e' = .returned v∧OwnInts w.heap.size w' v (nbL g (l 1) ds router (l 0))∧Below w.heap.size w w' := by
 have HN:=hid h
 have HD:=hid hd
 have HDL:=hid hdl
 have m0:=h.routers.most
 have m1:=h.links.most
 have md:=hd.most
 unfold maxLen at m0 m1 md
 clear h hd hdl
 obtain ⟨i0,hi,hzz⟩:=Option.map_eq_some_iff.1 Tryz.info_int
 simp only [Prod.mk.injEq] at hzz
 obtain ⟨hz0,hz1,hz2⟩:=hzz
 have HI:=hid hi
 have HZ0:=hid hz0
 have HZ1:=hid hz1
 have HZ2:=hid hz2
 clear hi hz0 hz1 hz2
 have C1:∀ w8:World,Below ((w.alloc (.cells #[.slice (p 0) (l 0) (c 0),.slice (p 1) (l 1) (c 1),.slice (p 2) (l 2) (c 2),.slice (p 3) (l 3) (c 3),.slice (p 4) (l 4) (c 4),.slice (p 5) (l 5) (c 5)] 29))).heap.size (w.alloc (.cells #[.slice (p 0) (l 0) (c 0),.slice (p 1) (l 1) (c 1),.slice (p 2) (l 2) (c 2),.slice (p 3) (l 3) (c 3),.slice (p 4) (l 4) (c 4),.slice (p 5) (l 5) (c 5)] 29)) w8→(w8.cell? ⟨w.heap.size,0,none⟩=some (.slice (p 0) (l 0) (c 0))∧w8.cell? ⟨w.heap.size,1,none⟩=some (.slice (p 1) (l 1) (c 1))∧w8.cell? ⟨w.heap.size,2,none⟩=some (.slice (p 2) (l 2) (c 2))∧w8.cell? ⟨w.heap.size,3,none⟩=some (.slice (p 3) (l 3) (c 3))∧w8.cell? ⟨w.heap.size,4,none⟩=some (.slice (p 4) (l 4) (c 4))∧w8.cell? ⟨w.heap.size,5,none⟩=some (.slice (p 5) (l 5) (c 5)))∧NetIs w8 p l s g o e x f∧BoolRow w8 da dl ds∧Below w.heap.size w w8 :=
  fun w8 hb=>⟨⟨keep hb (by simp [go_sem]),keep hb (by simp [go_sem]),keep hb (by simp [go_sem]),keep hb (by simp [go_sem]),keep hb (by simp [go_sem]),keep hb (by simp [go_sem])⟩,(HN.out.below Bl).below hb,(HD.out.below Bl).below hb,(show Below w.heap.size w _ from Bl).trans (hb.mono (by simp))⟩
 have HC1:=hid C1
 clear C1
 unfold netV
 go_enter Tryz.func115,Tryz.ntmps115
 go_wp2
 go_loopw [8,7] (fun i v wr=>∃ k:Nat,k≤l 0∧i=.int .i64 k∧OwnInts ((w.alloc (.cells #[.slice (p 0) (l 0) (c 0),.slice (p 1) (l 1) (c 1),.slice (p 2) (l 2) (c 2),.slice (p 3) (l 3) (c 3),.slice (p 4) (l 4) (c 4),.slice (p 5) (l 5) (c 5)] 29))).heap.size wr v (nbL g (l 1) ds router k)∧Below ((w.alloc (.cells #[.slice (p 0) (l 0) (c 0),.slice (p 1) (l 1) (c 1),.slice (p 2) (l 2) (c 2),.slice (p 3) (l 3) (c 3),.slice (p 4) (l 4) (c 4),.slice (p 5) (l 5) (c 5)] 29))).heap.size (w.alloc (.cells #[.slice (p 0) (l 0) (c 0),.slice (p 1) (l 1) (c 1),.slice (p 2) (l 2) (c 2),.slice (p 3) (l 3) (c 3),.slice (p 4) (l 4) (c 4),.slice (p 5) (l 5) (c 5)] 29)) wr) (fun i _ _=>l 0 - (intOf i).toNat)
 case atStart=>exact ⟨0,Nat.zero_le _,rfl,own_empty _ _ _ (Nat.le_refl _) (by simp),Bl⟩
 case round =>
  rename_i v0
  obtain ⟨k,hk,rfl,hown,hbel⟩:=hrel
  have HO:=hid hown
  have HB:=hid hbel
  have HB0:=hid hbel.size
  obtain ⟨⟨q0,q1,q2,q3,q4,q5⟩,hn,hd,hB⟩:=HC1.out _ hbel
  have NR:=hid hn
  have DR:=hid hd
  have BR:=hid hB
  clear hown hbel hn hd hB q2 q3 q4 q5
  by_cases hlt:k<l 0
  · have HF:=hid (nbL_succ g (l 1) ds router k)
    have HLen:=hid (nbL_len g (l 1) ds router k)
    obtain ⟨L,hL⟩:∃ L,linkAt g (l 1) router k=L:=⟨_,rfl⟩
    have HQ:Hid (nbB g (l 1) ds router k=(decide (0≤L) && !(ds[L.toNat]?.getD false))):=by
     show _=_
     unfold nbB;rw [hL]
    have HLB:=hid (firstAt_bounds (hit g router k) (l 1))
    have hLL:firstAt (hit g router k) (l 1)=L:=hL
    rw [hLL] at HLB
    clear hLL
    go_wp2_with fail
    refine (link_spec (p 1) (l 1) (c 1) g router k _ NR.out.links).mono ?_
    rintro e' w1 ⟨rfl,rfl⟩
    have O1:=hid HO.out
    have B1:=hid HB.out
    have D1:=hid DR.out
    rw [hL]
    clear hL
    by_cases h0:0≤L
    · obtain ⟨m,rfl⟩:∃ m:Nat,L=(m:Int):=⟨L.toNat,by omega⟩
      have hml:m<l 1:=by have:=HLB.out;omega
      obtain ⟨b,off,hda,hdc⟩:=D1.out.cell m (by rw [HDL.out];exact hml)
      have hmd:(m:Int)<(dl:Int):=by rw [HDL.out];omega
      obtain ⟨da0,hda0⟩:∃ x,da=x:=⟨_,rfl⟩
      have HQ2:Hid (nbB g (l 1) ds router k = !(ds[m]?.getD false)):=by
       show _=_
       rw [HQ.out];simp
      clear HQ
      generalize ds[m]?.getD false=db at *
      have g0:decide ((0:Int)≤(m:Int))=true:=decide_eq_true (by omega)
      clear hda0 h0
      cases db with
      | true =>
       have HF2:=hid (show nbL g (l 1) ds router (k+1)=nbL g (l 1) ds router k by rw [HF.out,HQ2.out];simp)
       subst hda
       go_wp2
       go_roundw
       case rel=>exact ⟨k+1,by omega,by go_num,by rw [HF2.out];exact O1.out,B1.out⟩
       case measure=>simp [intOf];omega
      | false =>
       have HF2:=hid (show nbL g (l 1) ds router (k+1)=nbL g (l 1) ds router k ++ [(k:Int)] by rw [HF.out,HQ2.out];simp)
       have HS1:=hid B1.out.size
       subst hda
       go_wp2_with (at_builtin;(refine wpList_append_own _ rfl _ _ 25 rfl ((w.alloc (.cells #[.slice (p 0) (l 0) (c 0),.slice (p 1) (l 1) (c 1),.slice (p 2) (l 2) (c 2),.slice (p 3) (l 3) (c 3),.slice (p 4) (l 4) (c 4),.slice (p 5) (l 5) (c 5)] 29))).heap.size 3 i0 (.int .i64 0) 1 8 Tryz.underlying25 HI.out HZ0.out HZ1.out HZ2.out rfl (by decide) _ _ _ rfl (World.ownsRow.alloc O1.out _) ⟨_,0,none⟩ 1 1 [.int .i64 (k:Int)] rfl rfl (cell_one_new _ _ _) (fun x hx=>by simp at hx;subst hx;rfl) (by have:=HLen.out;unfold maxLen;omega) (by have:=HLen.out;omega) (by have:=HS1.out;simp at this ⊢;omega) ?_);intro v' w3 hown' hgrow3 hnil3)
       have HO2:Hid (OwnInts ((w.alloc (.cells #[.slice (p 0) (l 0) (c 0),.slice (p 1) (l 1) (c 1),.slice (p 2) (l 2) (c 2),.slice (p 3) (l 3) (c 3),.slice (p 4) (l 4) (c 4),.slice (p 5) (l 5) (c 5)] 29))).heap.size w3 v' (nbL g (l 1) ds router (k+1))):=by
        show OwnInts _ _ _ _
        rw [HF2.out]
        unfold OwnInts
        rw [List.length_append,List.map_append]
        exact hown'
       have HB2:Hid (Below ((w.alloc (.cells #[.slice (p 0) (l 0) (c 0),.slice (p 1) (l 1) (c 1),.slice (p 2) (l 2) (c 2),.slice (p 3) (l 3) (c 3),.slice (p 4) (l 4) (c 4),.slice (p 5) (l 5) (c 5)] 29))).heap.size (w.alloc (.cells #[.slice (p 0) (l 0) (c 0),.slice (p 1) (l 1) (c 1),.slice (p 2) (l 2) (c 2),.slice (p 3) (l 3) (c 3),.slice (p 4) (l 4) (c 4),.slice (p 5) (l 5) (c 5)] 29)) w3):=grown_below (OwnInts.below O1.out Bl) (B1.out.alloc HS1.out _) (by have:=HS1.out;simp at this ⊢;omega) hgrow3
       clear hown' hgrow3 hnil3
       go_wp2
       go_roundw
       case rel=>exact ⟨k+1,by omega,by go_num,HO2.out,HB2.out⟩
       case measure=>simp [intOf];omega
    · have HQ2 : Hid (nbB g (l 1) ds router k = false) := by
       show _=_
       rw [HQ.out,decide_eq_false h0];rfl
      have HF2:=hid (show nbL g (l 1) ds router (k+1)=nbL g (l 1) ds router k by rw [HF.out,HQ2.out];simp)
      have g0:decide ((0:Int)≤L)=false:=decide_eq_false h0
      clear HQ
      go_wp2
      go_roundw
      case rel=>exact ⟨k+1,by omega,by go_num,by rw [HF2.out];exact O1.out,B1.out⟩
      case measure=>simp [intOf];omega
  · have ek:k=l 0:=by omega
    have HO3:=hid HO.out
    rw [ek] at HO3
    have hlt':decide (k<l 0)=false:=decide_eq_false (by omega)
    clear hlt ek hk HO
    go_wp2
    go_ret
    exact ⟨_,rfl,HO3.out.mono (by simp),BR.out⟩
end Go.Proofs.YthompjbplddkgaaGreatDoor.nbSpec
