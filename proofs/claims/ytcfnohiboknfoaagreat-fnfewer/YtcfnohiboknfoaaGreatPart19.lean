import Derived.Test.YtcfnohiboknfoaaGreatPart18
import Derived.Laws.CopyOwn
import Derived.BigRegion
set_option linter.unusedVariables false
namespace Go.Proofs.YtcfnohiboknfoaaGreat.candEnv
open Go.RowKit Go.Deep Go base copy names netSem netSpec netOKSpec nbSem routeRow candSem
end Go.Proofs.YtcfnohiboknfoaaGreat.candEnv
namespace Go.Proofs.YtcfnohiboknfoaaGreat.sceneFault
open Go.RowKit Go.Deep Go base copy names netSem netImpl netParts netFace netOKImpl routeRow routesB routesImpl candEnv
end Go.Proofs.YtcfnohiboknfoaaGreat.sceneFault
namespace Go.Proofs.YtcfnohiboknfoaaGreat.sceneNew
open Go.RowKit Go.Deep Go base netSem routeRow nbSem candSem candImp hopSem intsOwn hopMake hopBetween sceneSem
def newCells (p : Nat→Option Addr) (l c : Nat→Nat) : Array Value := #[.slice (p 0) (l 0) (c 0),.slice (p 1) (l 1) (c 1),.slice (p 2) (l 2) (c 2),.slice (p 3) (l 3) (c 3),.slice (p 4) (l 4) (c 4),.slice (p 5) (l 5) (c 5),.int .u32 0,.int .i32 0,.int .u32 0,.int .i64 0,.int .i64 0,.slice none 0 0,.int .i64 0,.int .i64 0,.slice none 0 0,.int .i64 0,.int .i64 0,.slice none 0 0,.int .i64 0,.int .i64 0,.slice none 0 0,.int .i64 0,.int .i64 0,.slice none 0 0,.int .i64 0,.int .i64 0,.slice none 0 0,.int .i64 0,.int .i64 0,.slice none 0 0,.int .i64 0,.int .i64 0,.slice none 0 0,.int .i64 0,.int .i64 0,.slice none 0 0,.int .i64 0,.int .i64 0,.slice none 0 0,.int .i64 0,.int .i64 0,.slice none 0 0,.int .i64 0,.int .i64 0,.slice none 0 0,.int .i64 0,.int .i64 0,.slice none 0 0,.int .i64 0,.int .i64 0,.slice none 0 0,.int .i64 0,.int .i64 0,.slice none 0 0,.int .i64 0,.int .i64 0,.slice none 0 0]
def newF (p : Nat→Option Addr) (l c : Nat→Nat) : Nat→Value := fun i=>(newCells p l c)[i]?.getD (.bool false)
theorem new_row (p:Nat→Option Addr) (l c:Nat→Nat) (w:World):(w.alloc (.cells (newCells p l c) 79)).rowIs w.heap.size 79 57 (newF p l c) :=
 ⟨newCells p l c,(show (w.heap.push (.cells (newCells p l c) 79))[w.heap.size]? = _ from Array.getElem?_push_size),rfl,fun i hi=>by
  unfold newF
  rw [Array.getElem?_eq_getElem (show i<(newCells p l c).size from hi)]
  rfl⟩
theorem new_hf (p:Nat→Option Addr) (l c:Nat→Nat):Hf (newF p l c) (fun _ _=>0) (fun _ _=>0) (fun _ _=>.slice none 0 0):=by
 intro i j hi hj
 match i,hi with
 | 0,_=>match j,hj with
  | 0,_=>exact ⟨rfl,rfl,rfl⟩
  | 1,_=>exact ⟨rfl,rfl,rfl⟩
  | 2,_=>exact ⟨rfl,rfl,rfl⟩
  | 3,_=>exact ⟨rfl,rfl,rfl⟩
 | 1,_=>match j,hj with
  | 0,_=>exact ⟨rfl,rfl,rfl⟩
  | 1,_=>exact ⟨rfl,rfl,rfl⟩
  | 2,_=>exact ⟨rfl,rfl,rfl⟩
  | 3,_=>exact ⟨rfl,rfl,rfl⟩
 | 2,_=>match j,hj with
  | 0,_=>exact ⟨rfl,rfl,rfl⟩
  | 1,_=>exact ⟨rfl,rfl,rfl⟩
  | 2,_=>exact ⟨rfl,rfl,rfl⟩
  | 3,_=>exact ⟨rfl,rfl,rfl⟩
 | 3,_=>match j,hj with
  | 0,_=>exact ⟨rfl,rfl,rfl⟩
  | 1,_=>exact ⟨rfl,rfl,rfl⟩
  | 2,_=>exact ⟨rfl,rfl,rfl⟩
  | 3,_=>exact ⟨rfl,rfl,rfl⟩
theorem row_lt {m n:Nat} {w:World} {a:Option Addr} {g:R} (hm:0<m) (h:Row m w a n g):∀ q o,0<n→a=some ⟨q,o,none⟩→q<w.heap.size:=fun q o hn e=>by
 obtain ⟨q',o',e',hc⟩:=h.cell 0 hn
 rw [e] at e'
 injection e' with e'
 injection e' with e1 e2
 subst e1
 exact World.block_lt_of_cell? _ _ (hc 0 hm)
theorem int_lt {n:Nat} {w:World} {a:Option Addr} {z:List Int} (h:IntRow w a n z):∀ q o,0<n→a=some ⟨q,o,none⟩→q<w.heap.size:=fun q o hn e=>by
 obtain ⟨q',o',e',hc⟩:=h.cell 0 hn
 rw [e] at e'
 injection e' with e'
 injection e' with e1 e2
 subst e1
 exact World.block_lt_of_cell? _ _ hc
end Go.Proofs.YtcfnohiboknfoaaGreat.sceneNew
namespace Go.Proofs.YtcfnohiboknfoaaGreat.sceneFace
open Go.RowKit Go.Deep Go base netSem netImpl routeRow routesB nbSem candSem candImp hopSem intsOwn hopMake hopBetween sceneSem sceneFault sceneList sceneNew
theorem net_links {l:Nat→Nat} {s:Ss} {g x f:R} {o e:List Int} (h:netB l s g o e x f=true):l 0≤4∧l 4≤12∧(∀ i,i<l 1→linkB g (l 0) i=true)∧∀ i,i<l 4→importB g (l 1) x i=true:=by
 unfold netB routersB linksB importsB at h
 simp only [Bool.and_eq_true,decide_eq_true_eq,allN_iff] at h
 obtain ⟨⟨⟨⟨⟨⟨⟨h1,_⟩,⟨_,h2⟩⟩,_⟩,_⟩,_⟩,⟨h3,h4⟩⟩,_⟩:=h
 unfold inB at h1
 simp only [decide_eq_true_eq] at h1
 exact ⟨by omega,h3,h2,h4⟩
theorem link_facts {g:R} {r i:Nat} (h:linkB g r i=true) (hr:r≤4):(0≤g i 0∧g i 0<4∧0≤g i 1∧g i 1<4∧g i 0≠g i 1)∧linkAt g i (g i 0) (g i 1)<0∧0≤g i 2∧g i 2≤100:=by
 unfold linkB inB at h
 simp only [Bool.and_eq_true,decide_eq_true_eq] at h
 obtain ⟨⟨⟨⟨⟨h1,h2⟩,h3,h4⟩,h5⟩,h6,h7⟩,h8⟩:=h
 exact ⟨⟨by omega,by omega,by omega,by omega,h5⟩,h8,by omega,by omega⟩
theorem import_facts {g x:R} {nl i:Nat} (h:importB g nl x i=true) (hg:∀ j,j<nl→0≤g j 0∧g j 0<4∧0≤g j 1∧g j 1<4∧g j 0≠g j 1):(0≤x i 0∧x i 0<4∧0≤x i 1∧x i 1<4)∧1≤x i 3∧x i 3≤4:=by
 unfold importB deedB inB at h
 simp only [Bool.and_eq_true,decide_eq_true_eq] at h
 obtain ⟨h1,⟨_,h2,h3⟩,_⟩:=h
 obtain ⟨j,hj,hh⟩:=firstAt_spec.1 h1
 unfold hit at hh
 simp only [decide_eq_true_eq] at hh
 have:=hg j hj
 refine ⟨?_,h2,h3⟩
 rcases hh with ⟨e1,e2⟩|⟨e1,e2⟩ <;> omega
end Go.Proofs.YtcfnohiboknfoaaGreat.sceneFace
namespace Go.Proofs.YtcfnohiboknfoaaGreat.rtsHeld
open Go.RowKit Go.Deep Go base routeRow intsOwn candSem
end Go.Proofs.YtcfnohiboknfoaaGreat.rtsHeld
namespace Go.Proofs.YtcfnohiboknfoaaGreat.noRts
open Go.RowKit Go.Deep Go base routeRow intsOwn candSem rtsHeld
def noRs : Rs := fun _=>noRt
def noCs (m : Nat) : List Value := (List.range (m*4)).map fun j=>rc noRt (j % 4)
theorem noCs_len (m:Nat):(noCs m).length=m*4:=by simp [noCs]
theorem noCs_at {m j:Nat} (h:j<m*4):(noCs m)[j]? = some (rc noRt (j % 4)):=by simp [noCs,h]
theorem add0 (X j:Nat):(⟨X,0,none⟩:Addr).add j=⟨X,j,none⟩:=by
 simp only [Addr.add]
 split
 · rename_i h;rw [h]
 simp
theorem rc_one (r:Rt) (j:Nat) (h:j<4):(rc r j).oneCell' = true:=by
 match j,h with
 | 0,_=>rfl
 | 1,_=>rfl
 | 2,_=>rfl
 | 3,_=>rfl
 | j+4,h=>omega
theorem run_copy4 {P:Program} (w:World) (dT sT ty elem:TypeId) (g o dLen dCap:Nat) (a:Addr) (sLen sCap:Nat) (cur:Array Value) (t:TypeId) (cs:List Value)
  (hu:P.underlying dT=some (.slice elem)) (hs:(P.info? elem).map (·.size)=some 4)
  (hg:w.heap[g]? = some (.cells cur t (0,0))) (hn:cs.length=Nat.min sLen dLen*4)
  (hsrc:∀ j v,cs[j]? = some v→w.cell? (a.add j)=some v) (hfit:o+cs.length≤cur.size) (h1:∀ v∈cs,v.oneCell' = true) :
  (Builtin.copy_ #[dT,sT] ty #[.slice (some ⟨g,o,none⟩) dLen dCap,.slice (some a) sLen sCap]).run P w =
   .ok (goInt (Nat.min sLen dLen)) (w.setRow g (cur.toList.take o ++ cs ++ cur.toList.drop (o+cs.length)).toArray):=by
 have hl:=run_loadCells_list (P:=P) w a cs hsrc
 have hst:=run_storeCells_at P g o t cs 0 cur w hg (by simpa using hfit) h1
 cases hq:P.info? elem with
 | none=>simp [hq] at hs
 | some i =>
  have hi:i.size=4:=by simpa [hq] using hs
  simp [Builtin.copy_,run_underlying hu,Builtin.lenOf,Builtin.firstCells,sizeOf,typeInfo,hq,hi,← hn,hl,hst]
theorem laid_copied {w:World} {N len k m:Nat} {cur:Array Value} (h:RtLaid w N len k noRs) (hg:w.heap[N]? = some (.cells cur 106 (0,0))) (hk:k+m≤len) :
  RtLaid (w.setRow N (cur.toList.take (k*4) ++ noCs m ++ cur.toList.drop (k*4+(noCs m).length)).toArray) N len (k+m) noRs:=by
 obtain ⟨f,⟨cur',h1,h2,h3⟩,hc⟩:=h.row
 rw [hg] at h1
 injection h1 with h1
 injection h1 with h1
 subst h1
 have hl:=noCs_len m
 refine ⟨fun i=>(cur.toList.take (k*4) ++ noCs m ++ cur.toList.drop (k*4+(noCs m).length))[i]?.getD undef,⟨_,setRow_heap w N cur _ _ _ hg,by simp [hl];omega,fun i hi=>?_⟩,fun i hi j hj=>?_⟩
 · have h9:i<(cur.toList.take (k*4) ++ noCs m ++ cur.toList.drop (k*4+(noCs m).length)).length:=by simp [hl];omega
   simp only [List.getElem?_toArray]
   rw [List.getElem?_eq_getElem h9,Option.getD_some]
 show (cur.toList.take (k*4) ++ noCs m ++ cur.toList.drop (k*4+(noCs m).length))[i*4+j]?.getD undef=_
 by_cases hik:i<k
 · rw [List.append_assoc,List.getElem?_append_left (by simp;omega),List.getElem?_take_of_lt (by omega),Array.getElem?_toList,h3 (i*4+j) (by omega)]
   exact hc i hik j hj
 rw [List.getElem?_append_left (by simp [hl];omega),List.getElem?_append_right (by simp;omega)]
 rw [show i*4+j - (cur.toList.take (k*4)).length=(i - k)*4+j by simp;omega,noCs_at (by omega)]
 simp only [Option.getD_some,noRs]
 rw [show ((i - k)*4+j) % 4=j by omega]
open Go.RowKit in
theorem wpList_copy_laid {P:Program} {w:World} {ops:Array Oper} {rest:List Oper} {o:Oper} {a:Act} {Q:Exit→Act→World→Prop} (hgd:o.guard=none) (d s:Operand) (dT sT:TypeId)
  (ho:o.op=.call { callee:=.builtin .copy,args:=#[d,s],argTypes:=#[dT,sT] }) (elem:TypeId) (hu:P.underlying dT=some (.slice elem)) (hsz:(P.info? elem).map (·.size)=some 4)
  (N len k m dLen dCap:Nat) (ad:Addr) (sLen sCap:Nat) (hd:a.eval d=.slice (some ⟨N,k*4,none⟩) dLen dCap) (hs:a.eval s=.slice (some ad) sLen sCap)
  (hl:RtLaid w N len k noRs) (hm:m=Nat.min sLen dLen) (hk:k+m≤len) (hsrc:∀ j,j<m*4→w.cell? (ad.add j)=some (rc noRt (j % 4)))
  (B:Nat) (w0:World) (hb:Below B w0 w) (hBg:B≤N)
  (h:∀ w',Hid (RtLaid w' N len (k+m) noRs)→Hid (Below B w0 w')→wpList P ops Q rest (a.put o.dst (goInt m)) w') :
  wpList P ops Q (o::rest) a w:=by
 obtain ⟨f,⟨cur,h1,h2,h3⟩,hc⟩:=hl.row
 have hrun:=run_copy4 (P:=P) w dT sT o.type elem N (k*4) dLen dCap ad sLen sCap cur _ (noCs m) hu hsz h1 (by rw [noCs_len,hm]) (fun j v hv=>by
  by_cases hj:j<m*4
  · rw [noCs_at hj] at hv
    injection hv with hv
    rw [← hv]
    exact hsrc j hj
  · rw [List.getElem?_eq_none (by rw [noCs_len];omega)] at hv
    cases hv) (by rw [noCs_len,h2];omega) (fun v hv=>by
  obtain ⟨j,_,rfl⟩:=List.mem_map.1 hv
  exact rc_one _ _ (Nat.mod_lt _ (by decide)))
 refine wpList_plain hgd fun K hK=>?_
 unfold Oper.wp
 simp [execOp,ho,resolve,invoke,builtin,hd,hs,hrun,Result.andThen]
 rw [← hm]
 exact hK _ _ (h _ (show RtLaid _ _ _ _ _ by simpa using laid_copied hl h1 hk) (below_setRow hb hBg _))
open Go.RowKit in
theorem run_copy_laid {P:Program} {w:World} (dT sT ty elem:TypeId) (hu:P.underlying dT=some (.slice elem)) (hsz:(P.info? elem).map (·.size)=some 4)
  (N len k m dLen dCap:Nat) (ad:Addr) (sLen sCap:Nat) (hl:RtLaid w N len k noRs) (hm:m=Nat.min sLen dLen) (hk:k+m≤len) (hsrc:∀ j,j<m*4→w.cell? (ad.add j)=some (rc noRt (j % 4)))
  (B:Nat) (w0:World) (hb:Below B w0 w) (hBg:B≤N) :
  ∃ w',(Builtin.copy_ #[dT,sT] ty #[.slice (some ⟨N,k*4,none⟩) dLen dCap,.slice (some ad) sLen sCap]).run P w=.ok (.int .i64 (m:Int)) w'∧RtLaid w' N len (k+m) noRs∧Below B w0 w' := by
 obtain ⟨f,⟨cur,h1,h2,h3⟩,hc⟩:=hl.row
 have hrun:=run_copy4 (P:=P) w dT sT ty elem N (k*4) dLen dCap ad sLen sCap cur _ (noCs m) hu hsz h1 (by rw [noCs_len,hm]) (fun j v hv=>by
  by_cases hj:j<m*4
  · rw [noCs_at hj] at hv
    injection hv with hv
    rw [← hv]
    exact hsrc j hj
  · rw [List.getElem?_eq_none (by rw [noCs_len];omega)] at hv
    cases hv) (by rw [noCs_len,h2];omega) (fun v hv=>by
  obtain ⟨j,_,rfl⟩:=List.mem_map.1 hv
  exact rc_one _ _ (Nat.mod_lt _ (by decide)))
 rw [← hm] at hrun
 exact ⟨_,hrun,laid_copied hl h1 hk,below_setRow hb hBg _⟩
theorem size4 : (Tryz.prog.info? 106).map (·.size)=some 4:=by kernel_rfl
theorem mul64_impl (n:Int) (hn:n=1∨n=2∨n=3∨n=4) (w:World) :
  Calls Tryz.prog 154 #[.int .u64 1,.int .u64 n] w fun e w'=>e=.returned (.tuple #[.int .u64 0,.int .u64 n])∧w' = w:=by
 rcases hn with rfl|rfl|rfl|rfl
 all_goals
  go_enter Tryz.func154,Tryz.ntmps154
  go_wp2
  go_ret2
  exact ⟨rfl,rfl⟩
theorem mul_impl (n:Int) (hn:n=1∨n=2∨n=3∨n=4) (w:World) :
  Calls Tryz.prog 134 #[.int .u64 1,.int .u64 n] w fun e w'=>e=.returned (.tuple #[.int .u64 0,.int .u64 n])∧w' = w:=by
 have HM:=hid (mul64_impl n hn)
 rcases hn with rfl|rfl|rfl|rfl
 all_goals
  go_enter Tryz.func134,Tryz.ntmps134
  go_wp2_with (go_at_call 154;refine (HM.out _).mono ?_;rintro e w' ⟨rfl,rfl⟩)
  go_ret2
  exact ⟨rfl,rfl⟩
set_option maxHeartbeats 1600000 in
set_option maxRecDepth 8000 in
theorem repeat_impl (n:Nat) (hn:n=1∨n=2∨n=3∨n=4) (X:Nat) (w:World) (hX:∀ j,j<4→w.cell? ⟨X,j,none⟩=some (rc noRt j)) :
  Calls Tryz.prog 105 #[.slice (some ⟨X,0,none⟩) 1 1,.int .i64 (n:Int)] w fun e w'=>∃ N,e=.returned (.slice (some ⟨N,0,none⟩) n n)∧w.heap.size≤N∧RtLaid w' N n n noRs∧Below w.heap.size w w' := by
 have hmk:=run_make_Route n (by omega)
 have HM:=hid (mul_impl n (by omega))
 have hn4:n≤4:=by omega
 have hn1:1≤n:=by omega
 have HX:=hid hX
 clear hX hn
 go_enter Tryz.func105,Tryz.ntmps105
 have HL0:Hid (RtLaid (w.alloc (.cells (madeCells #[.int .i64 0,.int .i64 0,.int .i64 0,.bool false] (n*4)) 106)) w.heap.size n 0 noRs):=by
  refine ⟨fun i=>(madeCells #[.int .i64 0,.int .i64 0,.int .i64 0,.bool false] (n*4))[i]?.getD undef,?_,fun i hi=>absurd hi (Nat.not_lt_zero _)⟩
  have:=World.rowIs_alloc w (madeCells #[.int .i64 0,.int .i64 0,.int .i64 0,.bool false] (n*4)) 106 (fun i=>(madeCells #[.int .i64 0,.int .i64 0,.int .i64 0,.bool false] (n*4))[i]?.getD undef) (fun i hi=>by rw [Array.getElem?_eq_getElem hi];rfl)
  rwa [size_madeCells] at this
 have HX1:Hid (∀ j,j<1*4→(w.alloc (.cells (madeCells #[.int .i64 0,.int .i64 0,.int .i64 0,.bool false] (n*4)) 106)).cell? ((⟨X,0,none⟩:Addr).add j)=some (rc noRt (j % 4))):=fun j hj=>by
  have h1:=keep (show Below w.heap.size w (w.alloc (.cells (madeCells #[.int .i64 0,.int .i64 0,.int .i64 0,.bool false] (n*4)) 106)) from Bl) (HX.out j (by omega))
  rw [show j % 4=j by omega,add0]
  exact h1
 have HBA:Hid (Below w.heap.size w (w.alloc (.cells (madeCells #[.int .i64 0,.int .i64 0,.int .i64 0,.bool false] (n*4)) 106))):=Bl
 have hmin:(1:Nat)=Nat.min 1 n:=by have:Nat.min 1 n=min 1 n:=rfl;omega
 have HMin:=hid hmin
 clear hmin
 go_wp2_with fail
 refine (HM.out _).mono ?_
 rintro e w' ⟨rfl,hw'⟩
 have hw' := hw'.symm
 subst hw'
 go_wp2_with (refine wpList_copy_laid rfl _ _ _ _ rfl 106 Tryz.underlying52 size4 w.heap.size n 0 1 n n ⟨X,0,none⟩ 1 1 rfl rfl HL0.out HMin.out (by omega) HX1.out w.heap.size w HBA.out (Nat.le_refl _) ?_;intro w1 hl1 hb1)
 clear HL0 HX1 HBA HMin HX hmk HM
 go_loopw [8] (fun i wr=>∃ k:Nat,1≤k∧k≤n∧i=.int .i64 k∧RtLaid wr w.heap.size n k noRs∧Below w.heap.size w wr) (fun i _=>n - (intOf i).toNat)
 case atStart=>exact ⟨1,Nat.le_refl _,hn1,rfl,hl1.out,hb1.out⟩
 obtain ⟨k,hk1,hk,rfl,hl,hb⟩:=hrel
 have HL:=hid hl
 have HB:=hid hb
 clear hl hb
 by_cases hlt:k<n
 · have hsrc : Hid (∀ m, m ≤ k → ∀ j, j < m * 4 → wr.cell? ((⟨w.heap.size, 0, none⟩ : Addr).add j) = some (rc noRt (j % 4))) := fun m hm j hj => by
    obtain ⟨f,hf,hc⟩:=HL.out.row
    have h1:=hf.cell (i:=j) (by omega)
    have h2:=hc (j / 4) (by omega) (j % 4) (by omega)
    rw [show j / 4*4+j % 4=j by omega] at h2
    rw [h2] at h1
    rw [add0]
    exact h1
   obtain ⟨m,hm⟩:∃ m,Nat.min k (n - k)=m:=⟨_,rfl⟩
   have hm':m=Nat.min k (n - k):=hm.symm
   have hmm:m≤k∧k+m≤n∧1≤m:=by have:Nat.min k (n - k)=min k (n - k):=rfl;omega
   have HMm:=hid hm'
   have HS2:=hid (hsrc.out m hmm.1)
   clear hm hm' hsrc
   obtain ⟨w2,hcp,hl2,hb2⟩:=run_copy_laid (P:=Tryz.prog) (w:=wr.drew) 52 52 3 106 Tryz.underlying52 size4 w.heap.size n k m (n - k) (n - k) ⟨w.heap.size,0,none⟩ k n (HL.out.below (Below.refl _ wr).drew) HMm.out hmm.2.1 (fun j hj=>by have:=HS2.out j hj;rw [add0] at this ⊢;exact keep (Below.refl _ wr).drew this) w.heap.size w HB.out.drew (Nat.le_refl _)
   have HL2:=hid hl2
   have HB2:=hid hb2
   clear hl2 hb2 HS2 HMm
   obtain ⟨m1,m2,m3⟩:=hmm
   go_wp2
   go_region
   all_goals
    go_wp2
    go_roundw
    case rel=>exact ⟨k+m,by omega,m2,by go_num,HL2.out,HB2.out⟩
    case measure=>simp [intOf];omega
 have e:k=n:=by omega
 subst e
 go_wp2
 go_ret
 exact ⟨w.heap.size,rfl,Nat.le_refl _,HL.out,HB.out⟩
end Go.Proofs.YtcfnohiboknfoaaGreat.noRts
