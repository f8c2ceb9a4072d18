import Derived.Test.YtcnoemjeijjnjaaGreatPart24
import Derived.OrdersIn
import Derived.ControlIn
import Derived.RangeFuncCalls
set_option linter.unusedVariables false
namespace Go.Proofs.YtcnoemjeijjnjaaGreat.repOne
open Go.RowKit Go.Deep Go base noRts
def Rp (w : World) (t : TypeId) (N n k : Nat) (v : Value) : Prop := ∃ f : Nat→Value,w.rowIs N t n f∧∀ i,i<k→f i=v
theorem Rp.below {w w':World} {t:TypeId} {N n k:Nat} {v:Value} (h:Rp w t N n k v) (hb:Below w.heap.size w w'):Rp w' t N n k v:=by
 obtain ⟨f,hf,hc⟩:=h
 exact ⟨f,hf.of_block (hb.block _ hf.lt),hc⟩
theorem run_copy1 {P:Program} (w:World) (dT sT ty elem:TypeId) (g o dLen dCap:Nat) (a:Addr) (sLen sCap:Nat) (cur:Array Value) (t:TypeId) (cs:List Value)
  (hu:P.underlying dT=some (.slice elem)) (hs:(P.info? elem).map (·.size)=some 1)
  (hg:w.heap[g]? = some (.cells cur t (0,0))) (hn:cs.length=Nat.min sLen dLen)
  (hsrc:∀ j v,cs[j]? = some v→w.cell? (a.add j)=some v) (hfit:o+cs.length≤cur.size) (h1:∀ v∈cs,v.oneCell' = true) :
  (Builtin.copy_ #[dT,sT] ty #[.slice (some ⟨g,o,none⟩) dLen dCap,.slice (some a) sLen sCap]).run P w =
   .ok (goInt (Nat.min sLen dLen)) (w.setRow g (cur.toList.take o ++ cs ++ cur.toList.drop (o+cs.length)).toArray):=by
 have hl:=run_loadCells_list (P:=P) w a cs hsrc
 have hst:=run_storeCells_at P g o t cs 0 cur w hg (by simpa using hfit) h1
 cases hq:P.info? elem with
 | none=>simp [hq] at hs
 | some i =>
  have hi:i.size=1:=by simpa [hq] using hs
  simp [Builtin.copy_,run_underlying hu,Builtin.lenOf,Builtin.firstCells,sizeOf,typeInfo,hq,hi,← hn,hl,hst]
theorem rp_copied {w:World} {t:TypeId} {N n k m:Nat} {v:Value} {cur:Array Value} (h:Rp w t N n k v) (hg:w.heap[N]? = some (.cells cur t (0,0))) (hk:k+m≤n) :
  Rp (w.setRow N (cur.toList.take k ++ List.replicate m v ++ cur.toList.drop (k+(List.replicate m v).length)).toArray) t N n (k+m) v:=by
 obtain ⟨f,⟨cur',h1,h2,h3⟩,hc⟩:=h
 rw [hg] at h1
 injection h1 with h1
 injection h1 with h1
 subst h1
 refine ⟨fun i=>(cur.toList.take k ++ List.replicate m v ++ cur.toList.drop (k+(List.replicate m v).length))[i]?.getD undef,⟨_,setRow_heap w N cur _ _ _ hg,by simp;omega,fun i hi=>?_⟩,fun i hi=>?_⟩
 · have h9:i<(cur.toList.take k ++ List.replicate m v ++ cur.toList.drop (k+(List.replicate m v).length)).length:=by simp;omega
   simp only [List.getElem?_toArray]
   rw [List.getElem?_eq_getElem h9,Option.getD_some]
 show (cur.toList.take k ++ List.replicate m v ++ cur.toList.drop (k+(List.replicate m v).length))[i]?.getD undef=_
 by_cases hik:i<k
 · rw [List.append_assoc,List.getElem?_append_left (by simp;omega),List.getElem?_take_of_lt (by omega),Array.getElem?_toList,h3 i (by omega)]
   exact hc i hik
 rw [List.getElem?_append_left (by simp;omega),List.getElem?_append_right (by simp;omega)]
 rw [List.getElem?_replicate,if_pos (by simp;omega)]
 rfl
theorem run_copy_rp {P:Program} {w:World} (dT sT ty elem t:TypeId) (hu:P.underlying dT=some (.slice elem)) (hsz:(P.info? elem).map (·.size)=some 1)
  (N n k m dLen dCap:Nat) (ad:Addr) (sLen sCap:Nat) (v:Value) (hl:Rp w t N n k v) (hm:m=Nat.min sLen dLen) (hk:k+m≤n) (hv:v.oneCell' = true) (hsrc:∀ j,j<m→w.cell? (ad.add j)=some v)
  (B:Nat) (w0:World) (hb:Below B w0 w) (hBg:B≤N) :
  ∃ w',(Builtin.copy_ #[dT,sT] ty #[.slice (some ⟨N,k,none⟩) dLen dCap,.slice (some ad) sLen sCap]).run P w=.ok (.int .i64 (m:Int)) w'∧Rp w' t N n (k+m) v∧Below B w0 w' := by
 obtain ⟨f,⟨cur,h1,h2,h3⟩,hc⟩:=hl
 have hrun:=run_copy1 (P:=P) w dT sT ty elem N k dLen dCap ad sLen sCap cur _ (List.replicate m v) hu hsz h1 (by rw [List.length_replicate,hm]) (fun j u hu=>by
  rw [List.getElem?_replicate] at hu
  split at hu
  · injection hu with hu
    rw [← hu]
    exact hsrc j (by assumption)
  cases hu) (by rw [List.length_replicate,h2];omega) (fun u hu=>by rw [List.eq_of_mem_replicate hu];exact hv)
 rw [← hm] at hrun
 exact ⟨_,hrun,rp_copied ⟨f,⟨cur,h1,h2,h3⟩,hc⟩ h1 hk,below_setRow hb hBg _⟩
open Go.RowKit in
theorem wpList_copy_rp {P:Program} {w:World} {ops:Array Oper} {rest:List Oper} {o:Oper} {a:Act} {Q:Exit→Act→World→Prop} (hgd:o.guard=none) (d s:Operand) (dT sT:TypeId)
  (ho:o.op=.call { callee:=.builtin .copy,args:=#[d,s],argTypes:=#[dT,sT] }) (elem t:TypeId) (hu:P.underlying dT=some (.slice elem)) (hsz:(P.info? elem).map (·.size)=some 1)
  (N n k m dLen dCap:Nat) (ad:Addr) (sLen sCap:Nat) (v:Value) (hd:a.eval d=.slice (some ⟨N,k,none⟩) dLen dCap) (hs:a.eval s=.slice (some ad) sLen sCap)
  (hl:Rp w t N n k v) (hm:m=Nat.min sLen dLen) (hk:k+m≤n) (hv:v.oneCell' = true) (hsrc:∀ j,j<m→w.cell? (ad.add j)=some v)
  (B:Nat) (w0:World) (hb:Below B w0 w) (hBg:B≤N)
  (h:∀ w',Hid (Rp w' t N n (k+m) v)→Hid (Below B w0 w')→wpList P ops Q rest (a.put o.dst (goInt m)) w') :
  wpList P ops Q (o::rest) a w:=by
 obtain ⟨w',hrun,h1,h2⟩:=run_copy_rp (P:=P) (w:=w) dT sT o.type elem t hu hsz N n k m dLen dCap ad sLen sCap v hl hm hk hv hsrc B w0 hb hBg
 refine wpList_plain hgd fun K hK=>?_
 unfold Oper.wp
 simp [execOp,ho,resolve,invoke,builtin,hd,hs,hrun,Result.andThen]
 exact hK _ _ (h _ h1 h2)
theorem mul64_six (n:Int) (hn:n=0∨n=1∨n=2∨n=3∨n=4∨n=5∨n=6) (w:World) :
  Calls Tryz.prog 153 #[.int .u64 1,.int .u64 n] w fun e w'=>e=.returned (.tuple #[.int .u64 0,.int .u64 n])∧w' = w:=by
 rcases hn with rfl|rfl|rfl|rfl|rfl|rfl|rfl
 all_goals
  go_enter Tryz.func153,Tryz.ntmps153
  go_wp2
  go_ret2
  exact ⟨rfl,rfl⟩
theorem mul_six (n:Int) (hn:n=0∨n=1∨n=2∨n=3∨n=4∨n=5∨n=6) (w:World) :
  Calls Tryz.prog 133 #[.int .u64 1,.int .u64 n] w fun e w'=>e=.returned (.tuple #[.int .u64 0,.int .u64 n])∧w' = w:=by
 have HM:=hid (mul64_six n hn)
 rcases hn with rfl|rfl|rfl|rfl|rfl|rfl|rfl
 all_goals
  go_enter Tryz.func133,Tryz.ntmps133
  go_wp2_with (go_at_call 153;refine (HM.out _).mono ?_;rintro e w' ⟨rfl,rfl⟩)
  go_ret2
  exact ⟨rfl,rfl⟩
theorem size_bool : (Tryz.prog.info? 35).map (·.size)=some 1:=by kernel_rfl
theorem info_rbool : (Tryz.prog.info? 35).map (fun i=>(i.zero,i.size,i.bytes))=some (some (.slice none 0 0),1,24):=by kernel_rfl
set_option maxHeartbeats 1600000 in
set_option maxRecDepth 8000 in
theorem repeat_bool (n:Nat) (hn:n≤6) (X:Nat) (Y:Option Addr) (yl yc:Nat) (w:World) (hX:w.cell? ⟨X,0,none⟩=some (.slice Y yl yc)) :
  Calls Tryz.prog 123 #[.slice (some ⟨X,0,none⟩) 1 1,.int .i64 (n:Int)] w fun e w'=>∃ N,e=.returned (.slice (some ⟨N,0,none⟩) n n)∧w.heap.size≤N∧w'.rowIs N 35 n (fun _=>.slice Y yl yc)∧Below w.heap.size w w' := by
 have hmk:=run_make_row' (P:=Tryz.prog) 133 35 (.slice none 0 0) 24 Tryz.underlying133 info_rbool rfl .i64 .i64 n (by omega) (by omega)
 have HM:=hid (mul_six n (by omega))
 have HX:=hid hX
 clear hX
 go_enter Tryz.func123,Tryz.ntmps123
 have HL0:Hid (Rp (w.alloc (.cells (madeCells #[.slice none 0 0] n) 35)) 35 w.heap.size n 0 (.slice Y yl yc)):=⟨fun _=>.slice none 0 0,World.rowIs_made w _ n 35,fun i hi=>absurd hi (Nat.not_lt_zero _)⟩
 have HBA:Hid (Below w.heap.size w (w.alloc (.cells (madeCells #[.slice none 0 0] n) 35))):=Bl
 obtain ⟨k0,hk0⟩:∃ k,k=Nat.min 1 n:=⟨_,rfl⟩
 have hk01:k0≤1∧k0≤n∧(k0=1∨n=0):=by have:Nat.min 1 n=min 1 n:=rfl;omega
 have HK0:=hid hk0
 have HX1:Hid (∀ j,j<k0→(w.alloc (.cells (madeCells #[.slice none 0 0] n) 35)).cell? ((⟨X,0,none⟩:Addr).add j)=some (.slice Y yl yc)):=fun j hj=>by
  have e:j=0:=by omega
  subst e
  rw [add0]
  exact keep HBA.out HX.out
 obtain ⟨q1,q2,q3⟩:=hk01
 clear hk0
 go_wp2_with fail
 refine (HM.out _).mono ?_
 rintro e w' ⟨rfl,hw'⟩
 have hw' := hw'.symm
 subst hw'
 go_wp2_with (refine wpList_copy_rp rfl _ _ _ _ rfl 35 35 Tryz.underlying133 size_bool w.heap.size n 0 k0 n n ⟨X,0,none⟩ 1 1 (.slice Y yl yc) rfl rfl HL0.out HK0.out (by omega) rfl HX1.out w.heap.size w HBA.out (Nat.le_refl _) ?_;intro w1 hl1 hb1)
 clear HL0 HX1 HBA HX hmk HM HK0
 go_loopw [8] (fun i wr=>∃ k:Nat,(1≤k∨n=0)∧k≤n∧i=.int .i64 k∧Rp wr 35 w.heap.size n k (.slice Y yl yc)∧Below w.heap.size w wr) (fun i _=>n - (intOf i).toNat)
 case atStart=>exact ⟨k0,by omega,q2,rfl,by have:=hl1.out;rwa [Nat.zero_add] at this,hb1.out⟩
 clear q1 q2 q3
 obtain ⟨k,hk1,hk,rfl,hl,hb⟩:=hrel
 have HL:=hid hl
 have HB:=hid hb
 clear hl hb
 by_cases hlt:k<n
 · have hsrc : Hid (∀ m, m ≤ k → ∀ j, j < m → wr.cell? ((⟨w.heap.size, 0, none⟩ : Addr).add j) = some (.slice Y yl yc)) := fun m hm j hj => by
    obtain ⟨f,hf,hc⟩:=HL.out
    have h1:=hf.cell (i:=j) (by omega)
    rw [hc j (by omega)] at h1
    rw [add0]
    exact h1
   have hk1':1≤k:=by omega
   obtain ⟨m,hm⟩:∃ m,Nat.min k (n - k)=m:=⟨_,rfl⟩
   have hm':m=Nat.min k (n - k):=hm.symm
   have hmm:m≤k∧k+m≤n∧1≤m:=by have:Nat.min k (n - k)=min k (n - k):=rfl;omega
   have HMm:=hid hm'
   have HS2:=hid (hsrc.out m hmm.1)
   clear hm hm' hsrc hk1
   obtain ⟨w2,hcp,hl2,hb2⟩:=run_copy_rp (P:=Tryz.prog) (w:=wr.drew) 133 133 3 35 35 Tryz.underlying133 size_bool w.heap.size n k m (n - k) (n - k) ⟨w.heap.size,0,none⟩ k n (.slice Y yl yc) (HL.out.below (Below.refl _ wr).drew) HMm.out hmm.2.1 rfl (fun j hj=>by have:=HS2.out j hj;rw [add0] at this ⊢;exact keep (Below.refl _ wr).drew this) w.heap.size w HB.out.drew (Nat.le_refl _)
   have HL2:=hid hl2
   have HB2:=hid hb2
   clear hl2 hb2 HS2 HMm
   obtain ⟨m1,m2,m3⟩:=hmm
   go_wp2
   go_region
   all_goals
    go_wp2
    go_roundw
    case rel=>exact ⟨k+m,by omega,m2,by go_num,HL2.out,HB2.out⟩
    case measure=>simp [intOf];omega
 have e:k=n:=by omega
 subst e
 go_wp2
 go_ret
 obtain ⟨f,hf,hc⟩:=HL.out
 exact ⟨w.heap.size,rfl,Nat.le_refl _,hf.congr (fun i hi=>hc i hi),HB.out⟩
theorem size_int : (Tryz.prog.info? 25).map (·.size)=some 1:=by kernel_rfl
theorem info_rint : (Tryz.prog.info? 25).map (fun i=>(i.zero,i.size,i.bytes))=some (some (.slice none 0 0),1,24):=by kernel_rfl
set_option maxHeartbeats 1600000 in
set_option maxRecDepth 8000 in
theorem repeat_int (n:Nat) (hn:n≤6) (X:Nat) (Y:Option Addr) (yl yc:Nat) (w:World) (hX:w.cell? ⟨X,0,none⟩=some (.slice Y yl yc)) :
  Calls Tryz.prog 125 #[.slice (some ⟨X,0,none⟩) 1 1,.int .i64 (n:Int)] w fun e w'=>∃ N,e=.returned (.slice (some ⟨N,0,none⟩) n n)∧w.heap.size≤N∧w'.rowIs N 25 n (fun _=>.slice Y yl yc)∧Below w.heap.size w w' := by
 have hmk:=run_make_row' (P:=Tryz.prog) 135 25 (.slice none 0 0) 24 Tryz.underlying135 info_rint rfl .i64 .i64 n (by omega) (by omega)
 have HM:=hid (mul_six n (by omega))
 have HX:=hid hX
 clear hX
 go_enter Tryz.func125,Tryz.ntmps125
 have HL0:Hid (Rp (w.alloc (.cells (madeCells #[.slice none 0 0] n) 25)) 25 w.heap.size n 0 (.slice Y yl yc)):=⟨fun _=>.slice none 0 0,World.rowIs_made w _ n 25,fun i hi=>absurd hi (Nat.not_lt_zero _)⟩
 have HBA:Hid (Below w.heap.size w (w.alloc (.cells (madeCells #[.slice none 0 0] n) 25))):=Bl
 obtain ⟨k0,hk0⟩:∃ k,k=Nat.min 1 n:=⟨_,rfl⟩
 have hk01:k0≤1∧k0≤n∧(k0=1∨n=0):=by have:Nat.min 1 n=min 1 n:=rfl;omega
 have HK0:=hid hk0
 have HX1:Hid (∀ j,j<k0→(w.alloc (.cells (madeCells #[.slice none 0 0] n) 25)).cell? ((⟨X,0,none⟩:Addr).add j)=some (.slice Y yl yc)):=fun j hj=>by
  have e:j=0:=by omega
  subst e
  rw [add0]
  exact keep HBA.out HX.out
 obtain ⟨q1,q2,q3⟩:=hk01
 clear hk0
 go_wp2_with fail
 refine (HM.out _).mono ?_
 rintro e w' ⟨rfl,hw'⟩
 have hw' := hw'.symm
 subst hw'
 go_wp2_with (refine wpList_copy_rp rfl _ _ _ _ rfl 25 25 Tryz.underlying135 size_int w.heap.size n 0 k0 n n ⟨X,0,none⟩ 1 1 (.slice Y yl yc) rfl rfl HL0.out HK0.out (by omega) rfl HX1.out w.heap.size w HBA.out (Nat.le_refl _) ?_;intro w1 hl1 hb1)
 clear HL0 HX1 HBA HX hmk HM HK0
 go_loopw [8] (fun i wr=>∃ k:Nat,(1≤k∨n=0)∧k≤n∧i=.int .i64 k∧Rp wr 25 w.heap.size n k (.slice Y yl yc)∧Below w.heap.size w wr) (fun i _=>n - (intOf i).toNat)
 case atStart=>exact ⟨k0,by omega,q2,rfl,by have:=hl1.out;rwa [Nat.zero_add] at this,hb1.out⟩
 clear q1 q2 q3
 obtain ⟨k,hk1,hk,rfl,hl,hb⟩:=hrel
 have HL:=hid hl
 have HB:=hid hb
 clear hl hb
 by_cases hlt:k<n
 · have hsrc : Hid (∀ m, m ≤ k → ∀ j, j < m → wr.cell? ((⟨w.heap.size, 0, none⟩ : Addr).add j) = some (.slice Y yl yc)) := fun m hm j hj => by
    obtain ⟨f,hf,hc⟩:=HL.out
    have h1:=hf.cell (i:=j) (by omega)
    rw [hc j (by omega)] at h1
    rw [add0]
    exact h1
   have hk1':1≤k:=by omega
   obtain ⟨m,hm⟩:∃ m,Nat.min k (n - k)=m:=⟨_,rfl⟩
   have hm':m=Nat.min k (n - k):=hm.symm
   have hmm:m≤k∧k+m≤n∧1≤m:=by have:Nat.min k (n - k)=min k (n - k):=rfl;omega
   have HMm:=hid hm'
   have HS2:=hid (hsrc.out m hmm.1)
   clear hm hm' hsrc hk1
   obtain ⟨w2,hcp,hl2,hb2⟩:=run_copy_rp (P:=Tryz.prog) (w:=wr.drew) 135 135 3 25 25 Tryz.underlying135 size_int w.heap.size n k m (n - k) (n - k) ⟨w.heap.size,0,none⟩ k n (.slice Y yl yc) (HL.out.below (Below.refl _ wr).drew) HMm.out hmm.2.1 rfl (fun j hj=>by have:=HS2.out j hj;rw [add0] at this ⊢;exact keep (Below.refl _ wr).drew this) w.heap.size w HB.out.drew (Nat.le_refl _)
   have HL2:=hid hl2
   have HB2:=hid hb2
   clear hl2 hb2 HS2 HMm
   obtain ⟨m1,m2,m3⟩:=hmm
   go_wp2
   go_region
   all_goals
    go_wp2
    go_roundw
    case rel=>exact ⟨k+m,by omega,m2,by go_num,HL2.out,HB2.out⟩
    case measure=>simp [intOf];omega
 have e:k=n:=by omega
 subst e
 go_wp2
 go_ret
 obtain ⟨f,hf,hc⟩:=HL.out
 exact ⟨w.heap.size,rfl,Nat.le_refl _,hf.congr (fun i hi=>hc i hi),HB.out⟩
end Go.Proofs.YtcnoemjeijjnjaaGreat.repOne
namespace Go.Proofs.YtcnoemjeijjnjaaGreat.countImpl
open Go.RowKit Go.Deep Go.Shelf Go base copy downsSpec verHold noRts repOne
set_option maxHeartbeats 1600000 in
theorem count_impl (a:Option Addr) (n c:Nat) (ds:List Bool) (w:World) (h:BoolRow w a n ds) (hn:n≤6) :
  Calls Tryz.prog 30 #[.slice a n c] w fun e w'=>e=.returned (.int .i64 (cntT ds:Nat))∧w' = w:=by
 have hl:=h.length
 have HL:=hid hl
 have HR:=hid h
 clear h hl
 go_enter Tryz.func30,Tryz.ntmps30
 go_wp2
 go_loopw [8,3] (fun i m wr=>∃ q:Nat,q≤n∧i=.int .i64 q∧m=.int .i64 (cntT (ds.take q):Nat)∧wr=w) (fun i _ _=>n - (intOf i).toNat)
 case atStart=>exact ⟨0,Nat.zero_le _,rfl,rfl,rfl⟩
 obtain ⟨q,hq,rfl,rfl,rfl⟩:=hrel
 by_cases hlt:q<n
 · obtain ⟨b,off,rfl,hc⟩:=HR.out.cell q hlt
   obtain ⟨v,hv⟩:∃ v,ds[q]?.getD false=v:=⟨_,rfl⟩
   rw [hv] at hc
   have hvq:ds[q]? = some v:=by
    rw [List.getElem?_eq_getElem (by rw [HL.out];exact hlt)] at hv ⊢
    exact congrArg some hv
   have hT:=cnt_snoc (ds.take q) v
   have hT2:ds.take (q+1)=ds.take q ++ [v]:=by rw [List.take_add_one,hvq];rfl
   rw [← hT2] at hT
   have hle:cntT (ds.take q)≤q:=Nat.le_trans (cnt_le _) (by rw [List.length_take];omega)
   obtain ⟨C,hC⟩:∃ C,cntT (ds.take q)=C:=⟨_,rfl⟩
   rw [hC] at hT hle ⊢
   have HT:=hid hT
   have hqi:(q:Int)<(n:Int):=by omega
   clear hT hT2 hvq hv hC
   cases v with
   | false =>
    go_wp2
    go_roundw
    case rel=>exact ⟨q+1,hlt,by go_num,by rw [HT.out];rfl,by first|rfl|trivial⟩
    case measure=>simp [intOf];omega
   | true =>
    go_wp2
    go_roundw
    case rel=>exact ⟨q+1,hlt,by go_num,by rw [HT.out];go_num,by first|rfl|trivial⟩
    case measure=>simp [intOf];omega
 have e:q=n:=by omega
 subst e
 have HT:Hid (ds.take q=ds):=hid (List.take_of_length_le (Nat.le_of_eq HL.out))
 rw [HT.out]
 obtain ⟨C,hC⟩:∃ C,cntT ds=C:=⟨_,rfl⟩
 rw [hC]
 have HC:=hid hC
 clear hC
 go_wp2
 go_ret
 exact ⟨by rw [HC.out];rfl,by first|rfl|trivial⟩
theorem rows_int {w w':World} {RB n Y:Nat} (hY:w.heap[Y]? = some (.cells #[.int .i64 0,.int .i64 1,.int .i64 2] 3 (0,0))) (hr:w'.rowIs RB 25 n (fun _=>.slice (some ⟨Y,0,none⟩) 3 3)) (hb:Below w.heap.size w w') {B0:Nat} (hB:B0≤Y) :
  pickI.RowsD B0 w'.heap.size RB n (fun _=>.slice (some ⟨Y,0,none⟩) 3 3) (fun _=>[0,1,2]) w' := by
 have hy' := (hb.block _ (Array.getElem?_eq_some_iff.1 hY).1).trans hY
 exact ⟨hr,fun i hi=>⟨rfl,.inr ⟨Y,3,_,rfl,hB,hy',by decide,by decide,rfl,rfl⟩⟩,fun i g hi hg=>by injection hg with hg;subst hg;exact (Array.getElem?_eq_some_iff.1 hy').1,fun i hi=>by simp⟩
theorem rows_bool {w w':World} {RB n Y:Nat} (hY:w.heap[Y]? = some (.cells #[.bool false,.bool true] 4 (0,0))) (hr:w'.rowIs RB 35 n (fun _=>.slice (some ⟨Y,0,none⟩) 2 2)) (hb:Below w.heap.size w w') {B0:Nat} (hB:B0≤Y) :
  pickB.RowsD B0 w'.heap.size RB n (fun _=>.slice (some ⟨Y,0,none⟩) 2 2) (fun _=>[false,true]) w' := by
 have hy' := (hb.block _ (Array.getElem?_eq_some_iff.1 hY).1).trans hY
 exact ⟨hr,fun i hi=>⟨rfl,.inr ⟨Y,2,_,rfl,hB,hy',by decide,by decide,rfl,rfl⟩⟩,fun i g hi hg=>by injection hg with hg;subst hg;exact (Array.getElem?_eq_some_iff.1 hy').1,fun i hi=>by simp⟩
theorem downs_impl (L k:Nat) (w:World) :
  Calls Tryz.prog 82 #[.int .i64 (L:Int),.int .i64 (k:Int)] w fun e w'=>e=.returned (.func (.func 121) #[] #[.pointer (some ⟨w.heap.size+1,0,none⟩),.pointer (some ⟨w.heap.size,0,none⟩)])∧w' = (w.alloc (.cells #[.int .i64 (L:Int)] 3)).alloc (.cells #[.int .i64 (k:Int)] 3):=by
 go_enter Tryz.func82,Tryz.ntmps82
 go_wp2
 go_ret
 exact ⟨rfl,rfl⟩
set_option maxHeartbeats 1600000 in
theorem ann_impl (n:Nat) (hn:n≤6) (w:World) :
  Calls Tryz.prog 83 #[.int .i64 (n:Int)] w fun e w'=>∃ Bx RB V,e=.returned (.func (.func 148) #[] #[.pointer (some ⟨Bx,0,none⟩)])∧pickI.RowsD w.heap.size w'.heap.size RB n V (fun _=>[0,1,2]) w'∧Boxed w' Bx 135 (.slice (some ⟨RB,0,none⟩) n n)∧Below w.heap.size w w' := by
 obtain ⟨W1,hW1⟩:∃ W1,(w.alloc (.cells #[.int .i64 0,.int .i64 1,.int .i64 2] 3)).alloc (.cells #[.slice (some ⟨w.heap.size,0,none⟩) 3 3] 25)=W1:=⟨_,rfl⟩
 have HB1:Hid (Below w.heap.size w W1):=hid (by rw [← hW1];exact Bl)
 have HY:Hid (W1.heap[w.heap.size]? = some (.cells #[.int .i64 0,.int .i64 1,.int .i64 2] 3 (0,0))):=hid (by rw [← hW1,Below.heap_alloc _ _ _ (by simp)];exact World.alloc_heap_new w _)
 have HR:=hid (repeat_int n hn (w.heap.size+1) (some ⟨w.heap.size,0,none⟩) 3 3 W1 (by rw [← hW1];simp [go_sem]))
 have HW1:=hid hW1
 clear hW1
 go_enter Tryz.func83,Tryz.ntmps83
 go_wp2_with fail
 rw [HW1.out]
 refine HR.out.mono ?_
 rintro e1 w2 ⟨N,rfl,hN,hr,hb⟩
 have HBx:Hid (Boxed (w2.alloc (.cells #[.slice (some ⟨N,0,none⟩) n n] 135)) w2.heap.size 135 (.slice (some ⟨N,0,none⟩) n n)):=hid (Boxed.new _ _ _)
 have HRd:Hid (pickI.RowsD w.heap.size (w2.alloc (.cells #[.slice (some ⟨N,0,none⟩) n n] 135)).heap.size N n (fun _=>.slice (some ⟨w.heap.size,0,none⟩) 3 3) (fun _=>[0,1,2]) (w2.alloc (.cells #[.slice (some ⟨N,0,none⟩) n n] 135))):=hid (rows_int HY.out (hr.of_block (Below.heap_alloc _ _ _ hr.lt)) (hb.alloc hb.size _) (Nat.le_refl _))
 have HB2:Hid (Below w.heap.size w (w2.alloc (.cells #[.slice (some ⟨N,0,none⟩) n n] 135))):=hid ((HB1.out.trans (hb.mono HB1.out.size)).alloc (Nat.le_trans HB1.out.size hb.size) _)
 clear hr hb hN
 go_wp2_with (go_at_call 124;refine (picksI.picks_impl _ _ _ _).mono ?_;rintro e3 w3 ⟨rfl,hw3⟩;have hw3:=hw3.symm;subst hw3)
 go_ret
 exact ⟨_,N,_,rfl,HRd.out,HBx.out,HB2.out⟩
end Go.Proofs.YtcnoemjeijjnjaaGreat.countImpl
namespace Go.Proofs.YtcnoemjeijjnjaaGreat.drawnIn
open Go heldStore drawn
variable {P : Program} {ops : Array Oper} {Q : Exit→Act→World→Prop} {l m : Nat}
theorem rows_in {row:String} {args:Array Value} {w:World} {R:Value→World→Prop} (h:Rows P row args w R):RowsIn (Fence.wide.inRound l) m P row args w R :=
 fun c cs _=>let ⟨v,w',r,s⟩:=h c cs;⟨v,w',r,stepsIn_wide.2 s⟩
theorem oper_in {o:Oper} {a:Act} {w:World} {K:Act→World→Prop} (hd:∀ c,o.op≠.defer c) (h:o.wp P a w K Q):o.wpIn (Fence.wide.inRound l) m P a w K Q:=by
 refine ⟨fun _ _=>trivial,?_⟩
 rw [Oper.semAt_eq _ _ _ hd]
 unfold Oper.wp at h
 generalize (execOp a.eval o).run P w=r at h ⊢
 cases r with
 | ok x w' =>
  cases x with
  | value v=>exact h
  | skip=>exact h
  | defer d=>exact h
  | enter f args=>exact ⟨fun e=>(by cases e),CallsIn.inRound l (callsIn_wide.2 h)⟩
  | row r args=>exact ⟨fun e=>(by cases e),rows_in h⟩
  | _=>exact h.elim
 | halt x w'=>cases x <;> exact h
def nodef (ops : Array Oper) : Bool := ops.all fun o=>match o.op with | .defer _=>false|_=>true
theorem nodef_spec (h:nodef ops=true) {i:Nat} {o:Oper} (ho:ops[i]? = some o):∀ c,o.op≠.defer c:=by
 obtain ⟨hi,e⟩:=Array.getElem?_eq_some_iff.1 ho
 have h1:=(Array.all_eq_true.1 h) i hi
 rw [e] at h1
 intro c hc
 rw [hc] at h1
 cases h1
def upA (ops : Array Oper) : Bool := (List.range ops.size).all fun i=>((ops[i]?).map (·.after.all fun e=>decide (e.on<i) || !Region.binds .any e)).getD true
theorem upA_spec (h:upA ops=true) {i:Nat} {o:Oper} (ho:ops[i]? = some o):∀ e∈o.after,Region.binds .any e=true→e.on<i:=by
 have hlt:i<ops.size:=(Array.getElem?_eq_some_iff.1 ho).1
 have h1:=List.all_eq_true.1 h i (List.mem_range.2 hlt)
 rw [ho] at h1
 simp only [Option.map_some,Option.getD_some,Array.all_eq_true_iff_forall_mem] at h1
 intro e he hb
 have:=h1 e he
 rw [hb] at this
 simpa using this
theorem ready_some (h:upA ops=true) {listed:Array Bool} (hs:listed.size=ops.size):∀ n,listed.getD n true=false→Region.ready .any ops listed≠[]:=by
 intro n
 induction n using Nat.strongRecOn with
 | _ n ih =>
  intro hn he
  have hlt:n<ops.size:=by
   rcases Nat.lt_or_ge n listed.size with h'|h'
   · omega
   simp [Array.getElem?_eq_none h'] at hn
  by_cases hall:∀ e∈(ops[n]).after,Region.binds .any e=true→listed.getD e.on false=true
  · have:n∈Region.ready .any ops listed:=mem_ready.2 ⟨hn,ops[n],by simp [hlt],hall⟩
    rw [he] at this
    cases this
  have hx:∃ e∈(ops[n]).after,Region.binds .any e=true∧listed.getD e.on false=false:=by
   apply Classical.byContradiction
   intro hno
   refine hall fun e he' hb'=>?_
   cases hb:listed.getD e.on false with
   | true=>rfl
   | false=>exact absurd ⟨e,he',hb',hb⟩ hno
  obtain ⟨e,he',hb',hb⟩:=hx
  have hlt' := upA_spec h (i:=n) (o:=ops[n]) (by simp [hlt]) e he' hb'
  exact ih e.on hlt' (getD_in (by omega) hb) he
variable {A : (Nat→Value)→Act} {s : Nat→Nat} {Inv : (Nat→Bool)→(Nat→Value)→World→Prop} {n : Nat}
def come (L : Nat→Bool) (i : Nat) : Nat→Bool := fun j=>if j=i then true else L j
def Known (m : Nat) (sl : Nat→Nat) (val : Nat→Value) (L : Nat→Bool) (u : Nat→Value) : Prop := ∀ j,j<m→L j=true→u (sl j)=val j
theorem Known.none (m:Nat) (sl:Nat→Nat) (val:Nat→Value) (u:Nat→Value):Known m sl val (fun _=>false) u:=fun _ _ h=>(by cases h)
theorem Known.put {m:Nat} {sl:Nat→Nat} {val:Nat→Value} {L:Nat→Bool} {u:Nat→Value} (h:Known m sl val L u) (hinj:∀ a b,a<m→b<m→sl a=sl b→a=b) {i:Nat} (hi:i<m) {v:Value} (hv:v=val i):Known m sl val (come L i) (upd u (sl i) v):=fun j hj hL=>by
 by_cases e:j=i
 · subst e;rw [upd_same,hv]
 rw [upd_ne _ _ (fun e'=>e (hinj j i hj hi e'))]
 unfold come at hL
 rw [if_neg e] at hL
 exact h j hj hL
theorem Known.other {m:Nat} {sl:Nat→Nat} {val:Nat→Value} {L:Nat→Bool} {u:Nat→Value} (h:Known m sl val L u) {i k:Nat} (hi:m≤i) (hk:∀ j,j<m→sl j≠k) (v:Value):Known m sl val (come L i) (upd u k v):=fun j hj hL=>by
 rw [upd_ne _ _ (hk j hj)]
 unfold come at hL
 rw [if_neg (by omega)] at hL
 exact h j hj hL
theorem any_all (hd:nodef ops=true) (hz:ops.size=n+1) (hE:LastOf ops n) (hup:upA ops=true)
  (hput:∀ i,i<n→∀ u v,(A u).put (some (s i)) v=A (upd u (s i) v))
  (step:∀ i,i<n→∀ L u w,L i=false→(∀ j,Region.waitsFor .any ops i j=true→L j=true)→Inv L u w→∃ o,ops[i]? = some o∧∀ K':Act→World→Prop,Shut (∀ v w',Inv (come L i) (upd u (s i) v) w'→K' ((A u).put (some (s i)) v) w')→if Region.wanted o (yielded ops (A u).tmps)=true then Oper.wp P o (A u) w K' Q else K' ((A u).put o.dst undef) w)
  (last:∀ L u w,(∀ j,j<n→L j=true)→Inv L u w→∃ o,ops[n]? = some o∧∀ K':Act→World→Prop,Shut (∀ a w,Q .normal a w→K' a w)→if Region.wanted o (yielded ops (A u).tmps)=true then Oper.wp P o (A u) w K' Q else K' ((A u).put o.dst undef) w) :
  ∀ (fuel:Nat) (listed:Array Bool) (u:Nat→Value) (w:World),falses listed.toList≤fuel→HeadInv .any ops n listed→Inv (fun j=>listed.getD j false) u w →
   wpAnyIn (Fence.wide.inRound l) m P .any ops Q fuel listed (A u) w:=by
 intro fuel
 induction fuel with
 | zero =>
  intro listed u w hf inv _
  have:=falses_pos _ _ (at_false (inv.tail n (Nat.le_refl _) (by omega)))
  omega
 | succ fuel ih =>
  intro listed u w hf inv hI
  have hn:=inv.tail n (Nat.le_refl _) (by omega)
  refine ⟨fun h=>absurd h (ready_some hup inv.size n hn),fun i hi=>?_⟩
  have hi' := mem_ready.1 hi
  obtain ⟨hun,oi,hoi,hall⟩:=hi'
  have hisz:i<n+1:=by rw [← hz];exact (Array.getElem?_eq_some_iff.1 hoi).1
  have go:∀ {o:Oper} {K K':Act→World→Prop},ops[i]? = some o→(∀ a w,K' a w→K a w)→(if Region.wanted o (yielded ops (A u).tmps)=true then Oper.wp P o (A u) w K' Q else K' ((A u).put o.dst undef) w)→wpOpIn (Fence.wide.inRound l) m P ops Q i K (A u) w:=by
   intro o K K' ho hK h
   unfold wpOpIn
   rw [ho]
   simp only
   split
   · next hw=>rw [if_pos hw] at h;exact Oper.wpIn_mono hK (oper_in (nodef_spec hd ho) h)
   next hw=>rw [if_neg hw] at h;exact ⟨fun _ _=>trivial,hK _ _ h⟩
  by_cases hin:i<n
  · obtain ⟨o, ho, h⟩ := step i hin (fun j => listed.getD j false) u w (getD_both hun) (fun j hj => by
     obtain ⟨oj,hoj,e,he,hb,hon⟩:=Region.waitsFor_spec hj
     have e1:oj=oi:=Option.some.inj (hoj.symm.trans hoi)
     subst e1
     have h1:=hall e he hb
     rw [hon] at h1
     exact h1) hI
    refine go ho (K' := wpAnyIn (Fence.wide.inRound l) m P .any ops Q fuel (listed.setIfInBounds i true)) (fun _ _ h=>h) (h _ fun v w' hI'=>?_)
    rw [hput i hin]
    refine ih _ _ _ ?_ (inv.set hi hin) ?_
    · have:=falses_set _ _ (at_false hun)
      simp only [Array.toList_setIfInBounds]
      omega
    have:(fun j=>(listed.setIfInBounds i true).getD j false)=come (fun j=>listed.getD j false) i:=by
     funext j
     unfold come
     by_cases e:j=i
     · subst e
       rw [if_pos rfl]
       have:j<listed.size:=by rw [inv.size,hz];omega
       simp [this]
     rw [if_neg e,getD_set_ne false (Ne.symm e)]
    rw [this]
    exact hI'
  have e:i=n:=by omega
  subst e
  have hlall:∀ j,j<i→listed.getD j false=true:=by
   intro j hj
   cases hb:listed.getD j false with
   | true=>rfl
   | false=>exact absurd hi (tail_waits hE.sink hE.chain hE.lt inv _ j rfl hj (getD_in (by rw [inv.size];omega) hb) i (Nat.le_refl _))
  obtain ⟨o,ho,h⟩:=last _ u w hlall hI
  refine go ho (K' := wpAnyIn (Fence.wide.inRound l) m P .any ops Q fuel (listed.setIfInBounds i true)) (fun _ _ h=>h) (h _ fun a' w' hq=>?_)
  have hdn:Region.ready .any ops (listed.setIfInBounds i true)=[]:=by
   cases hr:Region.ready .any ops (listed.setIfInBounds i true) with
   | nil=>rfl
   | cons k l =>
    have hk:k∈Region.ready .any ops (listed.setIfInBounds i true):=by rw [hr];exact List.mem_cons_self
    obtain ⟨h1,ok,hok,_⟩:=mem_ready.1 hk
    have hklt:k<i+1:=by rw [← hz];exact (Array.getElem?_eq_some_iff.1 hok).1
    by_cases e:k=i
    · subst e
      have:k<listed.size:=by rw [inv.size];omega
      simp [this] at h1
    rw [getD_set_ne true (Ne.symm e)] at h1
    have h2:=hlall k (by omega)
    rw [getD_both h1] at h2
    cases h2
  cases fuel with
  | zero=>exact ⟨hdn,hq⟩
  | succ f=>exact ⟨fun _=>hq,fun k hk=>by rw [hdn] at hk;cases hk⟩
theorem region_all {id:Nat} {a:Act} {w:World} (A:(Nat→Value)→Act) (s:Nat→Nat) (Inv:(Nat→Bool)→(Nat→Value)→World→Prop) (n:Nat) (u0:Nat→Value) (ha:a=A u0)
  (hm:P.follows .mixedOrders=true) (hd:nodef ops=true) (hz:ops.size=n+1) (hE:LastOf ops n) (hup:upA ops=true) (hS:Inv (fun _=>false) u0 w.drew)
  (hput:∀ i,i<n→∀ u v,(A u).put (some (s i)) v=A (upd u (s i) v))
  (step:∀ i,i<n→∀ L u w,L i=false→(∀ j,Region.waitsFor .any ops i j=true→L j=true)→Inv L u w→∃ o,ops[i]? = some o∧∀ K':Act→World→Prop,Shut (∀ v w',Inv (come L i) (upd u (s i) v) w'→K' ((A u).put (some (s i)) v) w')→if Region.wanted o (yielded ops (A u).tmps)=true then Oper.wp P o (A u) w K' Q else K' ((A u).put o.dst undef) w)
  (last:∀ L u w,(∀ j,j<n→L j=true)→Inv L u w→∃ o,ops[n]? = some o∧∀ K':Act→World→Prop,Shut (∀ a w,Q .normal a w→K' a w)→if Region.wanted o (yielded ops (A u).tmps)=true then Oper.wp P o (A u) w K' Q else K' ((A u).put o.dst undef) w) :
  (Code.region id ops true).wpIn (Fence.wide.inRound l) m P Q a w:=by
 subst ha
 refine wpIn_region_any hm ?_
 rw [hz]
 have he:(fun j=>(Array.replicate (n+1) false).getD j false)=fun _=>false:=by funext j;exact getD_replicate_false _ _
 refine any_all hd hz hE hup hput step last _ _ _ _ ?_ ⟨by simp [hz],fun j oj _ hl=>(by rw [getD_replicate_false] at hl;cases hl),fun t _ ht=>getD_in (by simp;omega) (getD_replicate_false _ _)⟩ (by rw [he];exact hS)
 simp [falses_replicate]
end Go.Proofs.YtcnoemjeijjnjaaGreat.drawnIn
namespace Go.Proofs.YtcnoemjeijjnjaaGreat.drawnYield
open Go heldStore drawn drawnIn
variable {P : Program} {ops : Array Oper} {Q : Exit→Act→World→Prop} {l m : Nat}
variable {A : (Nat→Value)→Act} {s : Nat→Nat} {Inv : (Nat→Bool)→(Nat→Value)→World→Prop} {n : Nat}
theorem step_in {o:Oper} {a:Act} {w:World} {K:Act→World→Prop} {c:Bool} (hd:∀ c,o.op≠.defer c) {Z:Prop} (h:if c=true then Oper.wp P o a w K Q else Z):if c=true then Oper.wpIn (Fence.wide.inRound l) m P o a w K Q else Z:=by
 split
 · next hc=>rw [if_pos hc] at h;exact oper_in hd h
 next hc=>rw [if_neg hc] at h;exact h
theorem any_yield (hz:ops.size=n+1) (hE:LastOf ops n) (hup:upA ops=true)
  (hput:∀ i,i<n→∀ u v,(A u).put (some (s i)) v=A (upd u (s i) v))
  (step:∀ i,i<n→∀ L u w,L i=false→(∀ j k,L j=true→Region.waitsFor .any ops j k=true→L k=true)→(∀ j,Region.waitsFor .any ops i j=true→L j=true)→Inv L u w→∃ o,ops[i]? = some o∧∀ K':Act→World→Prop,Shut (∀ v w',Inv (come L i) (upd u (s i) v) w'→K' ((A u).put (some (s i)) v) w')→if Region.wanted o (yielded ops (A u).tmps)=true then Oper.wpIn (Fence.wide.inRound l) m P o (A u) w K' Q else K' ((A u).put o.dst undef) w)
  (last:∀ L u w,(∀ j,j<n→L j=true)→Inv L u w→∃ o,ops[n]? = some o∧∀ K':Act→World→Prop,Shut (∀ a w,Q .normal a w→K' a w)→if Region.wanted o (yielded ops (A u).tmps)=true then Oper.wpIn (Fence.wide.inRound l) m P o (A u) w K' Q else K' ((A u).put o.dst undef) w) :
  ∀ (fuel:Nat) (listed:Array Bool) (u:Nat→Value) (w:World),falses listed.toList≤fuel→HeadInv .any ops n listed→Inv (fun j=>listed.getD j false) u w →
   wpAnyIn (Fence.wide.inRound l) m P .any ops Q fuel listed (A u) w:=by
 intro fuel
 induction fuel with
 | zero =>
  intro listed u w hf inv _
  have:=falses_pos _ _ (at_false (inv.tail n (Nat.le_refl _) (by omega)))
  omega
 | succ fuel ih =>
  intro listed u w hf inv hI
  have hn:=inv.tail n (Nat.le_refl _) (by omega)
  refine ⟨fun h=>absurd h (ready_some hup inv.size n hn),fun i hi=>?_⟩
  have hi' := mem_ready.1 hi
  obtain ⟨hun,oi,hoi,hall⟩:=hi'
  have hisz:i<n+1:=by rw [← hz];exact (Array.getElem?_eq_some_iff.1 hoi).1
  have go:∀ {o:Oper} {K K':Act→World→Prop},ops[i]? = some o→(∀ a w,K' a w→K a w)→(if Region.wanted o (yielded ops (A u).tmps)=true then Oper.wpIn (Fence.wide.inRound l) m P o (A u) w K' Q else K' ((A u).put o.dst undef) w)→wpOpIn (Fence.wide.inRound l) m P ops Q i K (A u) w:=by
   intro o K K' ho hK h
   unfold wpOpIn
   rw [ho]
   simp only
   split
   · next hw=>rw [if_pos hw] at h;exact Oper.wpIn_mono hK h
   next hw=>rw [if_neg hw] at h;exact ⟨fun _ _=>trivial,hK _ _ h⟩
  by_cases hin:i<n
  · obtain ⟨o, ho, h⟩ := step i hin (fun j => listed.getD j false) u w (getD_both hun) (fun j k hj hk => by
     obtain ⟨oj,hoj,e,he,hb,hon⟩:=Region.waitsFor_spec hk
     have h1:=inv.closed j oj hoj hj e he hb
     rw [hon] at h1
     exact h1) (fun j hj=>by
     obtain ⟨oj,hoj,e,he,hb,hon⟩:=Region.waitsFor_spec hj
     have e1:oj=oi:=Option.some.inj (hoj.symm.trans hoi)
     subst e1
     have h1:=hall e he hb
     rw [hon] at h1
     exact h1) hI
    refine go ho (K' := wpAnyIn (Fence.wide.inRound l) m P .any ops Q fuel (listed.setIfInBounds i true)) (fun _ _ h=>h) (h _ fun v w' hI'=>?_)
    rw [hput i hin]
    refine ih _ _ _ ?_ (inv.set hi hin) ?_
    · have:=falses_set _ _ (at_false hun)
      simp only [Array.toList_setIfInBounds]
      omega
    have:(fun j=>(listed.setIfInBounds i true).getD j false)=come (fun j=>listed.getD j false) i:=by
     funext j
     unfold come
     by_cases e:j=i
     · subst e
       rw [if_pos rfl]
       have:j<listed.size:=by rw [inv.size,hz];omega
       simp [this]
     rw [if_neg e,getD_set_ne false (Ne.symm e)]
    rw [this]
    exact hI'
  have e:i=n:=by omega
  subst e
  have hlall:∀ j,j<i→listed.getD j false=true:=by
   intro j hj
   cases hb:listed.getD j false with
   | true=>rfl
   | false=>exact absurd hi (tail_waits hE.sink hE.chain hE.lt inv _ j rfl hj (getD_in (by rw [inv.size];omega) hb) i (Nat.le_refl _))
  obtain ⟨o,ho,h⟩:=last _ u w hlall hI
  refine go ho (K' := wpAnyIn (Fence.wide.inRound l) m P .any ops Q fuel (listed.setIfInBounds i true)) (fun _ _ h=>h) (h _ fun a' w' hq=>?_)
  have hdn:Region.ready .any ops (listed.setIfInBounds i true)=[]:=by
   cases hr:Region.ready .any ops (listed.setIfInBounds i true) with
   | nil=>rfl
   | cons k l =>
    have hk:k∈Region.ready .any ops (listed.setIfInBounds i true):=by rw [hr];exact List.mem_cons_self
    obtain ⟨h1,ok,hok,_⟩:=mem_ready.1 hk
    have hklt:k<i+1:=by rw [← hz];exact (Array.getElem?_eq_some_iff.1 hok).1
    by_cases e:k=i
    · subst e
      have:k<listed.size:=by rw [inv.size];omega
      simp [this] at h1
    rw [getD_set_ne true (Ne.symm e)] at h1
    have h2:=hlall k (by omega)
    rw [getD_both h1] at h2
    cases h2
  cases fuel with
  | zero=>exact ⟨hdn,hq⟩
  | succ f=>exact ⟨fun _=>hq,fun k hk=>by rw [hdn] at hk;cases hk⟩
theorem region_yield {id:Nat} {a:Act} {w:World} (A:(Nat→Value)→Act) (s:Nat→Nat) (Inv:(Nat→Bool)→(Nat→Value)→World→Prop) (n:Nat) (u0:Nat→Value) (ha:a=A u0)
  (hm:P.follows .mixedOrders=true) (hz:ops.size=n+1) (hE:LastOf ops n) (hup:upA ops=true) (hS:Inv (fun _=>false) u0 w.drew)
  (hput:∀ i,i<n→∀ u v,(A u).put (some (s i)) v=A (upd u (s i) v))
  (step:∀ i,i<n→∀ L u w,L i=false→(∀ j k,L j=true→Region.waitsFor .any ops j k=true→L k=true)→(∀ j,Region.waitsFor .any ops i j=true→L j=true)→Inv L u w→∃ o,ops[i]? = some o∧∀ K':Act→World→Prop,Shut (∀ v w',Inv (come L i) (upd u (s i) v) w'→K' ((A u).put (some (s i)) v) w')→if Region.wanted o (yielded ops (A u).tmps)=true then Oper.wpIn (Fence.wide.inRound l) m P o (A u) w K' Q else K' ((A u).put o.dst undef) w)
  (last:∀ L u w,(∀ j,j<n→L j=true)→Inv L u w→∃ o,ops[n]? = some o∧∀ K':Act→World→Prop,Shut (∀ a w,Q .normal a w→K' a w)→if Region.wanted o (yielded ops (A u).tmps)=true then Oper.wpIn (Fence.wide.inRound l) m P o (A u) w K' Q else K' ((A u).put o.dst undef) w) :
  (Code.region id ops true).wpIn (Fence.wide.inRound l) m P Q a w:=by
 subst ha
 refine wpIn_region_any hm ?_
 rw [hz]
 have he:(fun j=>(Array.replicate (n+1) false).getD j false)=fun _=>false:=by funext j;exact getD_replicate_false _ _
 refine any_yield hz hE hup hput step last _ _ _ _ ?_ ⟨by simp [hz],fun j oj _ hl=>(by rw [getD_replicate_false] at hl;cases hl),fun t _ ht=>getD_in (by simp;omega) (getD_replicate_false _ _)⟩ (by rw [he];exact hS)
 simp [falses_replicate]
end Go.Proofs.YtcnoemjeijjnjaaGreat.drawnYield
