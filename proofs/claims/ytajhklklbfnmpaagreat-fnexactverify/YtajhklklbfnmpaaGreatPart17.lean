import Derived.Test.YtajhklklbfnmpaaGreatPart13
import Derived.Test.YtajhklklbfnmpaaGreatCandSpec
import Derived.Laws.CopyOwn
import Derived.BigRegion
set_option linter.unusedVariables false
namespace Go.Proofs.YtajhklklbfnmpaaGreat.sceneCand
open Go.RowKit Go.Deep Go base netSem routeRow nbSem candSem candImp hopSem intsOwn hopMake hopBetween sceneSem sceneOpen sceneBy candSpec
def lst (g : R) (nl : Nat) (o e : List Int) (x : R) (nx : Nat) (env : List Int) (ds : List Bool) (rs : Rs) (n : Nat) (router : Int) (k : Nat) : List Rt := (List.range k).flatMap fun i : Nat=>(byVia g nl o e x nx env ds rs n router ((i : Int) - 2)).toList
theorem lst_succ (g : R) (nl : Nat) (o e : List Int) (x : R) (nx : Nat) (env : List Int) (ds : List Bool) (rs : Rs) (n : Nat) (router : Int) (k : Nat) : lst g nl o e x nx env ds rs n router (k+1)=lst g nl o e x nx env ds rs n router k ++ (byVia g nl o e x nx env ds rs n router ((k : Int) - 2)).toList := by
 unfold lst
 rw [List.range_succ,List.flatMap_append]
 simp
theorem lst_len (g : R) (nl : Nat) (o e : List Int) (x : R) (nx : Nat) (env : List Int) (ds : List Bool) (rs : Rs) (n : Nat) (router : Int) : ∀ k,(lst g nl o e x nx env ds rs n router k).length≤k
 | 0=>by simp [lst]
 | k+1=>by
  have ih:=lst_len g nl o e x nx env ds rs n router k
  rw [lst_succ,List.length_append]
  cases byVia g nl o e x nx env ds rs n router ((k:Int) - 2) <;> simp <;> omega
theorem row_end {sb b B : Nat} {F : Nat→Value} {p : Nat→Option Addr} {l c : Nat→Nat} {g : R} {o e : List Int} {x : R} {ea da : Option Addr} {el ec dl dc : Nat} {env : List Int} {ds : List Bool} {w W W2 : World} {v : Value} {zs : List Rt} (h0 : Sc sb b B F p l c g o e x ea da el ec dl dc env ds w) (hbw : b < w.heap.size) (h : Sc sb b B F p l c g o e x ea da el ec dl dc env ds W) (hg : w.grownBy W (some b))
  (ho:OwnRts w.heap.size W v zs) (h2:W.grownBy W2 v.ownBlock):Sc sb b B F p l c g o e x ea da el ec dl dc env ds W2∧w.grownBy W2 (some b):=by
 have hge:∀ k,v.ownBlock=some k→w.heap.size≤k:=fun k hk=>(World.ownsRow.lt ho k hk).1
 have hz:=hg.size
 have hg2:w.grownBy W2 (some b):=⟨h2.os.trans hg.os,h2.tape.trans hg.tape,h2.output.trans hg.output,Nat.le_trans hg.size h2.size,fun j hj hne=>(h2.block j (by omega) (fun e=>by have:=hge j e.symm;omega)).trans (hg.block j hj hne)⟩
 have hkb:W2.heap[b]? = W.heap[b]?:=h2.block b (by omega) (fun e=>by have:=hge b e.symm;omega)
 refine ⟨h0.step hg2 ?_,hg2⟩
 rcases h.ready with ⟨h1,h2,h3,h4⟩ | ⟨V,F',hm⟩
 · exact .inl ⟨h1.of_block hkb,h2,h3,h4⟩
 · refine .inr ⟨V,F',hm.row.of_block hkb,hm.net,hm.done,hm.hops,fun p q hp hq=>own_keep (hm.own p q hp hq) fun k hk=>h2.block k (World.ownsRow.lt (hm.own p q hp hq) k hk).2 fun ek=>?_⟩
   rcases (hm.own p q hp hq).2 with ⟨e1,_⟩ | ⟨k',cap,cur,e1,_,hh,_⟩
   · rw [e1] at hk
     simp [Value.ownBlock] at hk
   · rw [e1] at hk
     simp [Value.ownBlock] at hk
     rcases ho.2 with ⟨f1,_⟩ | ⟨k2,cap2,cur2,f1,_,hh2,_⟩
     · rw [f1] at ek
       simp [Value.ownBlock] at ek
     · rw [f1] at ek
       simp [Value.ownBlock] at ek
       rw [hk,ek,hh2] at hh
       injection hh with hh
       injection hh with _ hh3 _
       exact absurd hh3 (by decide)
set_option maxHeartbeats 6400000 in
set_option maxRecDepth 8000 in
theorem cand_impl (sb b B : Nat) (F : Nat→Value) (p : Nat→Option Addr) (l c : Nat→Nat) (g : R) (o e : List Int) (x : R) (ea da : Option Addr) (el ec dl dc : Nat) (env : List Int) (ds : List Bool) (ra : Option Addr) (n cr : Nat) (rs : Rs) (r : Nat) (w : World) (h : Sc sb b B F p l c g o e x ea da el ec dl dc env ds w) (hgd : sceneBy.Good n l g x rs) (hrt : RtRow w ra n rs) (hna : ∀ a o,ra=some ⟨a,o,none⟩→a ≠ b) (hr : r < n) :
  Calls Tryz.prog 150 #[.pointer (some ⟨sb,0,none⟩),.int .i64 (r:Int),.slice ra n cr] w fun e' w'=>∃ v,e' = .returned v∧OwnRts w.heap.size w' v (lst g (l 1) o e x (l 4) env ds rs n r (n+2))∧Sc sb b B F p l c g o e x ea da el ec dl dc env ds w'∧w.grownBy w' (some b):=by
 have HS:=hid h
 have HGd:=hid hgd
 have HT:=hid hrt
 have HNa:=hid hna
 have hn4:=hgd.few
 have hbw:b < w.heap.size:=by rcases h.ready with ⟨h1,_⟩ | ⟨V,F',hm⟩;exact h1.lt;exact hm.row.lt
 clear h hgd hrt hna
 have HRt:Hid (∀ W:World,w.grownBy W (some b)→RtRow W ra n rs):=hid (fun W hg=>⟨HT.out.most,fun i hi=>by
  obtain ⟨q,off,e,hc⟩:=HT.out.cell i hi
  exact ⟨q,off,e,fun j hj=>grown_cell hg q _ _ (HNa.out q off e) (hc j hj)⟩⟩)
 have hni:(n:Int)≤4:=by omega
 obtain ⟨i0,hi,hzz⟩:=Option.map_eq_some_iff.1 info_Route
 simp only [Prod.mk.injEq] at hzz
 obtain ⟨hz0,hz1,hz2⟩:=hzz
 have HI:=hid hi
 have HZ0:=hid hz0
 have HZ1:=hid hz1
 have HZ2:=hid hz2
 clear hi hz0 hz1 hz2
 go_enter Tryz.func150,Tryz.ntmps150
 go_wp2_with fail
 go_loopw [8,7] (fun i v wr=>∃ k:Nat,k≤n+2∧i=.int .i64 ((k:Int) - 2)∧OwnRts w.heap.size wr v (lst g (l 1) o e x (l 4) env ds rs n r k)∧Sc sb b B F p l c g o e x ea da el ec dl dc env ds wr∧w.grownBy wr (some b)) (fun i _ _=>(n:Nat)+2 - (intOf i+2).toNat)
 case atStart=>exact ⟨0,by omega,rfl,⟨rfl,.inl ⟨rfl,rfl⟩⟩,HS.out,grown_refl _ _⟩
 case round =>
  obtain ⟨k,hk,rfl,ho,hs,hg⟩:=hrel
  have HOr:=hid ho
  have HSr:=hid hs
  have HGr:=hid hg
  clear ho hs hg
  obtain ⟨vi,hvi⟩:∃ vi:Int,(k:Int) - 2=vi:=⟨_,rfl⟩
  have HVi:=hid hvi
  rw [hvi]
  by_cases hlt:vi < n
  · obtain ⟨⟨qv,qp,ql,qm⟩,hq⟩:∃ q,(byVia g (l 1) o e x (l 4) env ds rs n r vi).getD zRt=q:=⟨_,rfl⟩
    obtain ⟨qs,hqs⟩:∃ q,(byVia g (l 1) o e x (l 4) env ds rs n r vi).isSome=q:=⟨_,rfl⟩
    have HBy:Hid (Calls Tryz.prog 121 #[.pointer (some ⟨sb,0,none⟩),.int .i64 (r:Int),.int .i64 vi,.slice ra n cr] wr fun e' w'=>e' = .returned (.tuple #[.agg #[.int .i64 qv,.int .i64 qp,.int .i64 ql,.bool qm],.bool qs])∧Sc sb b B F p l c g o e x ea da el ec dl dc env ds w'∧wr.grownBy w' (some b)):=hid (by
     have h:=by_impl sb b B F p l c g o e x ea da el ec dl dc env ds ra n cr rs r vi wr HSr.out HGd.out (HRt.out _ HGr.out) HNa.out hr (by omega) hlt
     rw [hq,hqs] at h
     exact h)
    have HQ:=hid (And.intro hq hqs)
    have d1:decide (vi < (n:Int))=true:=decide_eq_true hlt
    have hlo : -2≤vi:=by omega
    clear hq hqs hvi
    go_wp2_with fail
    refine HBy.out.mono ?_
    rintro e' w1 ⟨rfl,hs1,hg1⟩
    have HS1:=hid hs1
    have HG1:=hid hg1
    have HO1:Hid (OwnRts w.heap.size w1 u7 (lst g (l 1) o e x (l 4) env ds rs n r k)):=hid (own_keep HOr.out fun q hq=>hg1.block q (World.ownsRow.lt HOr.out q hq).2 (fun e=>by have:=(World.ownsRow.lt HOr.out q hq).1;injection e with e;omega))
    clear hs1 hg1
    have hz1:w.heap.size≤w1.heap.size:=Nat.le_trans HGr.out.size HG1.out.size
    have HG2:=hid (grown_trans HGr.out HG1.out)
    have hL:=lst_len g (l 1) o e x (l 4) env ds rs n r k
    have HSuc:=hid (lst_succ g (l 1) o e x (l 4) env ds rs n r k)
    rw [HVi.out] at HSuc
    obtain ⟨Ls,hLs⟩:∃ L,lst g (l 1) o e x (l 4) env ds rs n r k=L:=⟨_,rfl⟩
    rw [hLs] at HO1 HSuc hL
    clear hLs
    cases qs with
    | false =>
     have HN:Hid (lst g (l 1) o e x (l 4) env ds rs n r (k+1)=Ls):=hid (by
      rw [HSuc.out]
      have h:=HQ.out.2
      cases hby:byVia g (l 1) o e x (l 4) env ds rs n r vi with
      | none=>simp
      | some y=>rw [hby] at h;cases h)
     go_wp2
     go_roundw
     case rel=>exact ⟨k+1,by have:=HVi.out;omega,by have:=HVi.out;congr 1;omega,by rw [HN.out];exact World.ownsRow.alloc HO1.out _,HS1.out.below Bl,grown_trans HG2.out (grown_of_below Bl _)⟩
     case measure=>have:=HVi.out;simp [intOf];omega
    | true =>
     have HN:Hid (lst g (l 1) o e x (l 4) env ds rs n r (k+1)=Ls ++ [⟨qv,qp,ql,qm⟩]):=hid (by
      rw [HSuc.out]
      have h:=HQ.out
      cases hby:byVia g (l 1) o e x (l 4) env ds rs n r vi with
      | none=>rw [hby] at h;cases h.2
      | some y=>rw [hby] at h;have h1:=h.1;simp at h1;rw [h1];rfl)
     have HB3:Hid (Below w1.heap.size w1 ((w1.alloc (.cells #[.int .i64 qv,.int .i64 qp,.int .i64 ql,.bool qm] 154)).alloc (.cells #[.int .i64 qv,.int .i64 qp,.int .i64 ql,.bool qm] 154))):=hid Bl
     have HO3:Hid (OwnRts w.heap.size ((w1.alloc (.cells #[.int .i64 qv,.int .i64 qp,.int .i64 ql,.bool qm] 154)).alloc (.cells #[.int .i64 qv,.int .i64 qp,.int .i64 ql,.bool qm] 154)) u7 Ls):=hid (World.ownsRow.alloc (World.ownsRow.alloc HO1.out _) _)
     have HC4:Hid (∀ (j:Nat) (u:Value),[.int .i64 qv,.int .i64 qp,.int .i64 ql,.bool qm][j]? = some u→((w1.alloc (.cells #[.int .i64 qv,.int .i64 qp,.int .i64 ql,.bool qm] 154)).alloc (.cells #[.int .i64 qv,.int .i64 qp,.int .i64 ql,.bool qm] 154)).cell? ((⟨w1.heap.size+1,0,none⟩:Addr).add j)=some u):=hid (by
      have h:=cell_four (w1.alloc (.cells #[.int .i64 qv,.int .i64 qp,.int .i64 ql,.bool qm] 154)) (.int .i64 qv) (.int .i64 qp) (.int .i64 ql) (.bool qm) 154
      have e:(w1.alloc (.cells #[.int .i64 qv,.int .i64 qp,.int .i64 ql,.bool qm] 154)).heap.size=w1.heap.size+1:=by simp
      rw [e] at h
      exact h)
     go_wp2_with (at_builtin
                  refine wpList_append_own_at _ rfl _ _ 107 rfl w.heap.size 154 i0 _ 4 32 Tryz.underlying107 HI.out HZ0.out HZ1.out HZ2.out rfl (by decide) _ _ _ rfl HO3.out ⟨w1.heap.size+1,0,none⟩ 1 1 [.int .i64 qv,.int .i64 qp,.int .i64 ql,.bool qm] rfl rfl HC4.out (fun u hu=>by simp at hu;rcases hu with rfl | rfl | rfl | rfl <;> rfl) (by unfold maxLen;omega) (by omega) (by simp;omega) ?_
                  intro vA w3 hown' hgrow3 hnil3 hat3)
     have hmid:=row_end HS.out hbw (HS1.out.below HB3.out) (grown_trans HG2.out (grown_of_below HB3.out _)) HO3.out hgrow3
     go_roundw
     case rel=>exact ⟨k+1,by have:=HVi.out;omega,by have:=HVi.out;congr 1;omega,by rw [HN.out];exact rts_add hown',hmid⟩
     case measure=>have:=HVi.out;simp [intOf];omega
  · have e1:vi=n:=by omega
    have e2:k=n+2:=by omega
    subst e2
    have d1:decide (vi < (n:Int))=false:=decide_eq_false hlt
    clear hlt
    go_wp2
    go_ret
    exact ⟨_,rfl,HOr.out,HSr.out,HGr.out⟩
end Go.Proofs.YtajhklklbfnmpaaGreat.sceneCand
namespace Go.Proofs.YtajhklklbfnmpaaGreat.noRts
open Go.RowKit Go.Deep Go base routeRow intsOwn candSem rtsHeld
def noRs : Rs := fun _=>noRt
def noCs (m : Nat) : List Value := (List.range (m * 4)).map fun j=>rc noRt (j % 4)
theorem noCs_len (m : Nat) : (noCs m).length=m * 4 := by simp [noCs]
theorem noCs_at {m j : Nat} (h : j < m * 4) : (noCs m)[j]? = some (rc noRt (j % 4)) := by simp [noCs,h]
theorem add0 (X j : Nat) : (⟨X,0,none⟩ : Addr).add j=⟨X,j,none⟩ := by
 simp only [Addr.add]
 split
 · rename_i h;rw [h]
 · simp
theorem rc_one (r : Rt) (j : Nat) (h : j < 4) : (rc r j).oneCell' = true := by
 match j,h with
 | 0,_=>rfl
 | 1,_=>rfl
 | 2,_=>rfl
 | 3,_=>rfl
 | j+4,h=>omega
theorem run_copy4 {P : Program} (w : World) (dT sT ty elem : TypeId) (g o dLen dCap : Nat) (a : Addr) (sLen sCap : Nat) (cur : Array Value) (t : TypeId) (cs : List Value)
  (hu:P.underlying dT=some (.slice elem)) (hs:(P.info? elem).map (·.size)=some 4)
  (hg:w.heap[g]? = some (.cells cur t (0,0))) (hn:cs.length=Nat.min sLen dLen * 4)
  (hsrc:∀ j v,cs[j]? = some v→w.cell? (a.add j)=some v) (hfit:o+cs.length≤cur.size) (h1:∀ v ∈ cs,v.oneCell' = true) :
  (Builtin.copy_ #[dT,sT] ty #[.slice (some ⟨g,o,none⟩) dLen dCap,.slice (some a) sLen sCap]).run P w =
   .ok (goInt (Nat.min sLen dLen)) (w.setRow g (cur.toList.take o ++ cs ++ cur.toList.drop (o+cs.length)).toArray):=by
 have hl:=run_loadCells_list (P:=P) w a cs hsrc
 have hst:=run_storeCells_at P g o t cs 0 cur w hg (by simpa using hfit) h1
 cases hq:P.info? elem with
 | none=>simp [hq] at hs
 | some i =>
  have hi:i.size=4:=by simpa [hq] using hs
  simp [Builtin.copy_,run_underlying hu,Builtin.lenOf,Builtin.firstCells,sizeOf,typeInfo,hq,hi,← hn,hl,hst]
theorem laid_copied {w : World} {N len k m : Nat} {cur : Array Value} (h : RtLaid w N len k noRs) (hg : w.heap[N]? = some (.cells cur 154 (0,0))) (hk : k+m≤len) :
  RtLaid (w.setRow N (cur.toList.take (k * 4) ++ noCs m ++ cur.toList.drop (k * 4+(noCs m).length)).toArray) N len (k+m) noRs:=by
 obtain ⟨f,⟨cur',h1,h2,h3⟩,hc⟩:=h.row
 rw [hg] at h1
 injection h1 with h1
 injection h1 with h1
 subst h1
 have hl:=noCs_len m
 refine ⟨fun i=>(cur.toList.take (k * 4) ++ noCs m ++ cur.toList.drop (k * 4+(noCs m).length))[i]?.getD undef,⟨_,setRow_heap w N cur _ _ _ hg,by simp [hl];omega,fun i hi=>?_⟩,fun i hi j hj=>?_⟩
 · have h9:i < (cur.toList.take (k * 4) ++ noCs m ++ cur.toList.drop (k * 4+(noCs m).length)).length:=by simp [hl];omega
   simp only [List.getElem?_toArray]
   rw [List.getElem?_eq_getElem h9,Option.getD_some]
 · show (cur.toList.take (k * 4) ++ noCs m ++ cur.toList.drop (k * 4+(noCs m).length))[i * 4+j]?.getD undef=_
   by_cases hik:i < k
   · rw [List.append_assoc,List.getElem?_append_left (by simp;omega),List.getElem?_take_of_lt (by omega),Array.getElem?_toList,h3 (i * 4+j) (by omega)]
     exact hc i hik j hj
   · rw [List.getElem?_append_left (by simp [hl];omega),List.getElem?_append_right (by simp;omega)]
     rw [show i * 4+j - (cur.toList.take (k * 4)).length=(i - k) * 4+j by simp;omega,noCs_at (by omega)]
     simp only [Option.getD_some,noRs]
     rw [show ((i - k) * 4+j) % 4=j by omega]
open Go.RowKit in
theorem wpList_copy_laid {P : Program} {w : World} {ops : Array Oper} {rest : List Oper} {o : Oper} {a : Act} {Q : Exit→Act→World→Prop} (hgd : o.guard=none) (d s : Operand) (dT sT : TypeId)
  (ho:o.op=.call { callee:=.builtin .copy,args:=#[d,s],argTypes:=#[dT,sT] }) (elem:TypeId) (hu:P.underlying dT=some (.slice elem)) (hsz:(P.info? elem).map (·.size)=some 4)
  (N len k m dLen dCap:Nat) (ad:Addr) (sLen sCap:Nat) (hd:a.eval d=.slice (some ⟨N,k * 4,none⟩) dLen dCap) (hs:a.eval s=.slice (some ad) sLen sCap)
  (hl:RtLaid w N len k noRs) (hm:m=Nat.min sLen dLen) (hk:k+m≤len) (hsrc:∀ j,j < m * 4→w.cell? (ad.add j)=some (rc noRt (j % 4)))
  (B:Nat) (w0:World) (hb:Below B w0 w) (hBg:B≤N)
  (h:∀ w',Hid (RtLaid w' N len (k+m) noRs)→Hid (Below B w0 w')→wpList P ops Q rest (a.put o.dst (goInt m)) w') :
  wpList P ops Q (o :: rest) a w:=by
 obtain ⟨f,⟨cur,h1,h2,h3⟩,hc⟩:=hl.row
 have hrun:=run_copy4 (P:=P) w dT sT o.type elem N (k * 4) dLen dCap ad sLen sCap cur _ (noCs m) hu hsz h1 (by rw [noCs_len,hm]) (fun j v hv=>by
  by_cases hj:j < m * 4
  · rw [noCs_at hj] at hv
    injection hv with hv
    rw [← hv]
    exact hsrc j hj
  · rw [List.getElem?_eq_none (by rw [noCs_len];omega)] at hv
    cases hv) (by rw [noCs_len,h2];omega) (fun v hv=>by
  obtain ⟨j,_,rfl⟩:=List.mem_map.1 hv
  exact rc_one _ _ (Nat.mod_lt _ (by decide)))
 refine wpList_plain hgd fun K hK=>?_
 unfold Oper.wp
 simp [execOp,ho,resolve,invoke,builtin,hd,hs,hrun,Result.andThen]
 rw [← hm]
 exact hK _ _ (h _ (show RtLaid _ _ _ _ _ by simpa using laid_copied hl h1 hk) (below_setRow hb hBg _))
open Go.RowKit in
theorem run_copy_laid {P : Program} {w : World} (dT sT ty elem : TypeId) (hu : P.underlying dT=some (.slice elem)) (hsz : (P.info? elem).map (·.size)=some 4)
  (N len k m dLen dCap:Nat) (ad:Addr) (sLen sCap:Nat) (hl:RtLaid w N len k noRs) (hm:m=Nat.min sLen dLen) (hk:k+m≤len) (hsrc:∀ j,j < m * 4→w.cell? (ad.add j)=some (rc noRt (j % 4)))
  (B:Nat) (w0:World) (hb:Below B w0 w) (hBg:B≤N) :
  ∃ w',(Builtin.copy_ #[dT,sT] ty #[.slice (some ⟨N,k * 4,none⟩) dLen dCap,.slice (some ad) sLen sCap]).run P w=.ok (.int .i64 (m:Int)) w'∧RtLaid w' N len (k+m) noRs∧Below B w0 w' := by
 obtain ⟨f,⟨cur,h1,h2,h3⟩,hc⟩:=hl.row
 have hrun:=run_copy4 (P:=P) w dT sT ty elem N (k * 4) dLen dCap ad sLen sCap cur _ (noCs m) hu hsz h1 (by rw [noCs_len,hm]) (fun j v hv=>by
  by_cases hj:j < m * 4
  · rw [noCs_at hj] at hv
    injection hv with hv
    rw [← hv]
    exact hsrc j hj
  · rw [List.getElem?_eq_none (by rw [noCs_len];omega)] at hv
    cases hv) (by rw [noCs_len,h2];omega) (fun v hv=>by
  obtain ⟨j,_,rfl⟩:=List.mem_map.1 hv
  exact rc_one _ _ (Nat.mod_lt _ (by decide)))
 rw [← hm] at hrun
 exact ⟨_,hrun,laid_copied hl h1 hk,below_setRow hb hBg _⟩
theorem size4 : (Tryz.prog.info? 154).map (·.size)=some 4 := by kernel_rfl
theorem mul64_impl (n : Int) (hn : n=1 ∨ n=2 ∨ n=3 ∨ n=4) (w : World) :
  Calls Tryz.prog 158 #[.int .u64 1,.int .u64 n] w fun e w'=>e=.returned (.tuple #[.int .u64 0,.int .u64 n])∧w' = w:=by
 rcases hn with rfl | rfl | rfl | rfl
 all_goals
  go_enter Tryz.func158,Tryz.ntmps158
  go_wp2
  go_ret2
  exact ⟨rfl,rfl⟩
theorem mul_impl (n : Int) (hn : n=1 ∨ n=2 ∨ n=3 ∨ n=4) (w : World) :
  Calls Tryz.prog 140 #[.int .u64 1,.int .u64 n] w fun e w'=>e=.returned (.tuple #[.int .u64 0,.int .u64 n])∧w' = w:=by
 have HM:=hid (mul64_impl n hn)
 rcases hn with rfl | rfl | rfl | rfl
 all_goals
  go_enter Tryz.func140,Tryz.ntmps140
  go_wp2_with (go_at_call 158;refine (HM.out _).mono ?_;rintro e w' ⟨rfl,rfl⟩)
  go_ret2
  exact ⟨rfl,rfl⟩
set_option maxHeartbeats 1600000 in
set_option maxRecDepth 8000 in
theorem repeat_impl (n : Nat) (hn : n=1 ∨ n=2 ∨ n=3 ∨ n=4) (X : Nat) (w : World) (hX : ∀ j,j < 4→w.cell? ⟨X,j,none⟩=some (rc noRt j)) :
  Calls Tryz.prog 145 #[.slice (some ⟨X,0,none⟩) 1 1,.int .i64 (n:Int)] w fun e w'=>∃ N,e=.returned (.slice (some ⟨N,0,none⟩) n n)∧w.heap.size≤N∧RtLaid w' N n n noRs∧Below w.heap.size w w' := by
 have hmk:=run_make_Route n (by omega)
 have HM:=hid (mul_impl n (by omega))
 have hn4:n≤4:=by omega
 have hn1:1≤n:=by omega
 have HX:=hid hX
 clear hX hn
 go_enter Tryz.func145,Tryz.ntmps145
 have HL0:Hid (RtLaid (w.alloc (.cells (madeCells #[.int .i64 0,.int .i64 0,.int .i64 0,.bool false] (n * 4)) 154)) w.heap.size n 0 noRs):=by
  refine ⟨fun i=>(madeCells #[.int .i64 0,.int .i64 0,.int .i64 0,.bool false] (n * 4))[i]?.getD undef,?_,fun i hi=>absurd hi (Nat.not_lt_zero _)⟩
  have:=World.rowIs_alloc w (madeCells #[.int .i64 0,.int .i64 0,.int .i64 0,.bool false] (n * 4)) 154 (fun i=>(madeCells #[.int .i64 0,.int .i64 0,.int .i64 0,.bool false] (n * 4))[i]?.getD undef) (fun i hi=>by rw [Array.getElem?_eq_getElem hi];rfl)
  rwa [size_madeCells] at this
 have HX1:Hid (∀ j,j < 1 * 4→(w.alloc (.cells (madeCells #[.int .i64 0,.int .i64 0,.int .i64 0,.bool false] (n * 4)) 154)).cell? ((⟨X,0,none⟩:Addr).add j)=some (rc noRt (j % 4))):=fun j hj=>by
  have h1:=keep (show Below w.heap.size w (w.alloc (.cells (madeCells #[.int .i64 0,.int .i64 0,.int .i64 0,.bool false] (n * 4)) 154)) from Bl) (HX.out j (by omega))
  rw [show j % 4=j by omega,add0]
  exact h1
 have HBA:Hid (Below w.heap.size w (w.alloc (.cells (madeCells #[.int .i64 0,.int .i64 0,.int .i64 0,.bool false] (n * 4)) 154))):=Bl
 have hmin:(1:Nat)=Nat.min 1 n:=by have:Nat.min 1 n=min 1 n:=rfl;omega
 have HMin:=hid hmin
 clear hmin
 go_wp2_with fail
 refine (HM.out _).mono ?_
 rintro e w' ⟨rfl,hw'⟩
 have hw' := hw'.symm
 subst hw'
 go_wp2_with (refine wpList_copy_laid rfl _ _ _ _ rfl 154 Tryz.underlying107 size4 w.heap.size n 0 1 n n ⟨X,0,none⟩ 1 1 rfl rfl HL0.out HMin.out (by omega) HX1.out w.heap.size w HBA.out (Nat.le_refl _) ?_;intro w1 hl1 hb1)
 clear HL0 HX1 HBA HMin HX hmk HM
 go_loopw [8] (fun i wr=>∃ k:Nat,1≤k∧k≤n∧i=.int .i64 k∧RtLaid wr w.heap.size n k noRs∧Below w.heap.size w wr) (fun i _=>n - (intOf i).toNat)
 case atStart=>exact ⟨1,Nat.le_refl _,hn1,rfl,hl1.out,hb1.out⟩
 case round =>
  obtain ⟨k,hk1,hk,rfl,hl,hb⟩:=hrel
  have HL:=hid hl
  have HB:=hid hb
  clear hl hb
  by_cases hlt:k < n
  · have hsrc : Hid (∀ m, m ≤ k → ∀ j, j < m * 4 → wr.cell? ((⟨w.heap.size, 0, none⟩ : Addr).add j) = some (rc noRt (j % 4))) := fun m hm j hj => by
     obtain ⟨f,hf,hc⟩:=HL.out.row
     have h1:=hf.cell (i:=j) (by omega)
     have h2:=hc (j / 4) (by omega) (j % 4) (by omega)
     rw [show j / 4 * 4+j % 4=j by omega] at h2
     rw [h2] at h1
     rw [add0]
     exact h1
    obtain ⟨m,hm⟩:∃ m,Nat.min k (n - k)=m:=⟨_,rfl⟩
    have hm':m=Nat.min k (n - k):=hm.symm
    have hmm:m≤k∧k+m≤n∧1≤m:=by have:Nat.min k (n - k)=min k (n - k):=rfl;omega
    have HMm:=hid hm'
    have HS2:=hid (hsrc.out m hmm.1)
    clear hm hm' hsrc
    obtain ⟨w2,hcp,hl2,hb2⟩:=run_copy_laid (P:=Tryz.prog) (w:=wr.drew) 107 107 3 154 Tryz.underlying107 size4 w.heap.size n k m (n - k) (n - k) ⟨w.heap.size,0,none⟩ k n (HL.out.below (Below.refl _ wr).drew) HMm.out hmm.2.1 (fun j hj=>by have:=HS2.out j hj;rw [add0] at this ⊢;exact keep (Below.refl _ wr).drew this) w.heap.size w HB.out.drew (Nat.le_refl _)
    have HL2:=hid hl2
    have HB2:=hid hb2
    clear hl2 hb2 HS2 HMm
    obtain ⟨m1,m2,m3⟩:=hmm
    go_wp2
    go_region
    all_goals
     go_wp2
     go_roundw
     case rel=>exact ⟨k+m,by omega,m2,by go_num,HL2.out,HB2.out⟩
     case measure=>simp [intOf];omega
  · have e:k=n:=by omega
    subst e
    go_wp2
    go_ret
    exact ⟨w.heap.size,rfl,Nat.le_refl _,HL.out,HB.out⟩
end Go.Proofs.YtajhklklbfnmpaaGreat.noRts
namespace Go.Proofs.YtajhklklbfnmpaaGreat.repOne
open Go.RowKit Go.Deep Go base noRts
def Rp (w : World) (t : TypeId) (N n k : Nat) (v : Value) : Prop := ∃ f : Nat→Value,w.rowIs N t n f∧∀ i,i < k→f i=v
theorem Rp.below {w w' : World} {t : TypeId} {N n k : Nat} {v : Value} (h : Rp w t N n k v) (hb : Below w.heap.size w w') : Rp w' t N n k v := by
 obtain ⟨f,hf,hc⟩:=h
 exact ⟨f,hf.of_block (hb.block _ hf.lt),hc⟩
theorem run_copy1 {P : Program} (w : World) (dT sT ty elem : TypeId) (g o dLen dCap : Nat) (a : Addr) (sLen sCap : Nat) (cur : Array Value) (t : TypeId) (cs : List Value)
  (hu:P.underlying dT=some (.slice elem)) (hs:(P.info? elem).map (·.size)=some 1)
  (hg:w.heap[g]? = some (.cells cur t (0,0))) (hn:cs.length=Nat.min sLen dLen)
  (hsrc:∀ j v,cs[j]? = some v→w.cell? (a.add j)=some v) (hfit:o+cs.length≤cur.size) (h1:∀ v ∈ cs,v.oneCell' = true) :
  (Builtin.copy_ #[dT,sT] ty #[.slice (some ⟨g,o,none⟩) dLen dCap,.slice (some a) sLen sCap]).run P w =
   .ok (goInt (Nat.min sLen dLen)) (w.setRow g (cur.toList.take o ++ cs ++ cur.toList.drop (o+cs.length)).toArray):=by
 have hl:=run_loadCells_list (P:=P) w a cs hsrc
 have hst:=run_storeCells_at P g o t cs 0 cur w hg (by simpa using hfit) h1
 cases hq:P.info? elem with
 | none=>simp [hq] at hs
 | some i =>
  have hi:i.size=1:=by simpa [hq] using hs
  simp [Builtin.copy_,run_underlying hu,Builtin.lenOf,Builtin.firstCells,sizeOf,typeInfo,hq,hi,← hn,hl,hst]
theorem rp_copied {w : World} {t : TypeId} {N n k m : Nat} {v : Value} {cur : Array Value} (h : Rp w t N n k v) (hg : w.heap[N]? = some (.cells cur t (0,0))) (hk : k+m≤n) :
  Rp (w.setRow N (cur.toList.take k ++ List.replicate m v ++ cur.toList.drop (k+(List.replicate m v).length)).toArray) t N n (k+m) v:=by
 obtain ⟨f,⟨cur',h1,h2,h3⟩,hc⟩:=h
 rw [hg] at h1
 injection h1 with h1
 injection h1 with h1
 subst h1
 refine ⟨fun i=>(cur.toList.take k ++ List.replicate m v ++ cur.toList.drop (k+(List.replicate m v).length))[i]?.getD undef,⟨_,setRow_heap w N cur _ _ _ hg,by simp;omega,fun i hi=>?_⟩,fun i hi=>?_⟩
 · have h9:i < (cur.toList.take k ++ List.replicate m v ++ cur.toList.drop (k+(List.replicate m v).length)).length:=by simp;omega
   simp only [List.getElem?_toArray]
   rw [List.getElem?_eq_getElem h9,Option.getD_some]
 · show (cur.toList.take k ++ List.replicate m v ++ cur.toList.drop (k+(List.replicate m v).length))[i]?.getD undef=_
   by_cases hik:i < k
   · rw [List.append_assoc,List.getElem?_append_left (by simp;omega),List.getElem?_take_of_lt (by omega),Array.getElem?_toList,h3 i (by omega)]
     exact hc i hik
   · rw [List.getElem?_append_left (by simp;omega),List.getElem?_append_right (by simp;omega)]
     rw [List.getElem?_replicate,if_pos (by simp;omega)]
     rfl
theorem run_copy_rp {P : Program} {w : World} (dT sT ty elem t : TypeId) (hu : P.underlying dT=some (.slice elem)) (hsz : (P.info? elem).map (·.size)=some 1)
  (N n k m dLen dCap:Nat) (ad:Addr) (sLen sCap:Nat) (v:Value) (hl:Rp w t N n k v) (hm:m=Nat.min sLen dLen) (hk:k+m≤n) (hv:v.oneCell' = true) (hsrc:∀ j,j < m→w.cell? (ad.add j)=some v)
  (B:Nat) (w0:World) (hb:Below B w0 w) (hBg:B≤N) :
  ∃ w',(Builtin.copy_ #[dT,sT] ty #[.slice (some ⟨N,k,none⟩) dLen dCap,.slice (some ad) sLen sCap]).run P w=.ok (.int .i64 (m:Int)) w'∧Rp w' t N n (k+m) v∧Below B w0 w' := by
 obtain ⟨f,⟨cur,h1,h2,h3⟩,hc⟩:=hl
 have hrun:=run_copy1 (P:=P) w dT sT ty elem N k dLen dCap ad sLen sCap cur _ (List.replicate m v) hu hsz h1 (by rw [List.length_replicate,hm]) (fun j u hu=>by
  rw [List.getElem?_replicate] at hu
  split at hu
  · injection hu with hu
    rw [← hu]
    exact hsrc j (by assumption)
  · cases hu) (by rw [List.length_replicate,h2];omega) (fun u hu=>by rw [List.eq_of_mem_replicate hu];exact hv)
 rw [← hm] at hrun
 exact ⟨_,hrun,rp_copied ⟨f,⟨cur,h1,h2,h3⟩,hc⟩ h1 hk,below_setRow hb hBg _⟩
open Go.RowKit in
theorem wpList_copy_rp {P : Program} {w : World} {ops : Array Oper} {rest : List Oper} {o : Oper} {a : Act} {Q : Exit→Act→World→Prop} (hgd : o.guard=none) (d s : Operand) (dT sT : TypeId)
  (ho:o.op=.call { callee:=.builtin .copy,args:=#[d,s],argTypes:=#[dT,sT] }) (elem t:TypeId) (hu:P.underlying dT=some (.slice elem)) (hsz:(P.info? elem).map (·.size)=some 1)
  (N n k m dLen dCap:Nat) (ad:Addr) (sLen sCap:Nat) (v:Value) (hd:a.eval d=.slice (some ⟨N,k,none⟩) dLen dCap) (hs:a.eval s=.slice (some ad) sLen sCap)
  (hl:Rp w t N n k v) (hm:m=Nat.min sLen dLen) (hk:k+m≤n) (hv:v.oneCell' = true) (hsrc:∀ j,j < m→w.cell? (ad.add j)=some v)
  (B:Nat) (w0:World) (hb:Below B w0 w) (hBg:B≤N)
  (h:∀ w',Hid (Rp w' t N n (k+m) v)→Hid (Below B w0 w')→wpList P ops Q rest (a.put o.dst (goInt m)) w') :
  wpList P ops Q (o :: rest) a w:=by
 obtain ⟨w',hrun,h1,h2⟩:=run_copy_rp (P:=P) (w:=w) dT sT o.type elem t hu hsz N n k m dLen dCap ad sLen sCap v hl hm hk hv hsrc B w0 hb hBg
 refine wpList_plain hgd fun K hK=>?_
 unfold Oper.wp
 simp [execOp,ho,resolve,invoke,builtin,hd,hs,hrun,Result.andThen]
 exact hK _ _ (h _ h1 h2)
theorem mul64_six (n : Int) (hn : n=0 ∨ n=1 ∨ n=2 ∨ n=3 ∨ n=4 ∨ n=5 ∨ n=6) (w : World) :
  Calls Tryz.prog 158 #[.int .u64 1,.int .u64 n] w fun e w'=>e=.returned (.tuple #[.int .u64 0,.int .u64 n])∧w' = w:=by
 rcases hn with rfl | rfl | rfl | rfl | rfl | rfl | rfl
 all_goals
  go_enter Tryz.func158,Tryz.ntmps158
  go_wp2
  go_ret2
  exact ⟨rfl,rfl⟩
theorem mul_six (n : Int) (hn : n=0 ∨ n=1 ∨ n=2 ∨ n=3 ∨ n=4 ∨ n=5 ∨ n=6) (w : World) :
  Calls Tryz.prog 140 #[.int .u64 1,.int .u64 n] w fun e w'=>e=.returned (.tuple #[.int .u64 0,.int .u64 n])∧w' = w:=by
 have HM:=hid (mul64_six n hn)
 rcases hn with rfl | rfl | rfl | rfl | rfl | rfl | rfl
 all_goals
  go_enter Tryz.func140,Tryz.ntmps140
  go_wp2_with (go_at_call 158;refine (HM.out _).mono ?_;rintro e w' ⟨rfl,rfl⟩)
  go_ret2
  exact ⟨rfl,rfl⟩
theorem size_bool : (Tryz.prog.info? 32).map (·.size)=some 1 := by kernel_rfl
theorem info_rbool : (Tryz.prog.info? 32).map (fun i=>(i.zero,i.size,i.bytes))=some (some (.slice none 0 0),1,24) := by kernel_rfl
set_option maxHeartbeats 1600000 in
set_option maxRecDepth 8000 in
theorem repeat_bool (n : Nat) (hn : n≤6) (X : Nat) (Y : Option Addr) (yl yc : Nat) (w : World) (hX : w.cell? ⟨X,0,none⟩=some (.slice Y yl yc)) :
  Calls Tryz.prog 113 #[.slice (some ⟨X,0,none⟩) 1 1,.int .i64 (n:Int)] w fun e w'=>∃ N,e=.returned (.slice (some ⟨N,0,none⟩) n n)∧w.heap.size≤N∧w'.rowIs N 32 n (fun _=>.slice Y yl yc)∧Below w.heap.size w w' := by
 have hmk:=run_make_row' (P:=Tryz.prog) 100 32 (.slice none 0 0) 24 Tryz.underlying100 info_rbool rfl .i64 .i64 n (by omega) (by omega)
 have HM:=hid (mul_six n (by omega))
 have HX:=hid hX
 clear hX
 go_enter Tryz.func113,Tryz.ntmps113
 have HL0:Hid (Rp (w.alloc (.cells (madeCells #[.slice none 0 0] n) 32)) 32 w.heap.size n 0 (.slice Y yl yc)):=⟨fun _=>.slice none 0 0,World.rowIs_made w _ n 32,fun i hi=>absurd hi (Nat.not_lt_zero _)⟩
 have HBA:Hid (Below w.heap.size w (w.alloc (.cells (madeCells #[.slice none 0 0] n) 32))):=Bl
 obtain ⟨k0,hk0⟩:∃ k,k=Nat.min 1 n:=⟨_,rfl⟩
 have hk01:k0≤1∧k0≤n∧(k0=1 ∨ n=0):=by have:Nat.min 1 n=min 1 n:=rfl;omega
 have HK0:=hid hk0
 have HX1:Hid (∀ j,j < k0→(w.alloc (.cells (madeCells #[.slice none 0 0] n) 32)).cell? ((⟨X,0,none⟩:Addr).add j)=some (.slice Y yl yc)):=fun j hj=>by
  have e:j=0:=by omega
  subst e
  rw [add0]
  exact keep HBA.out HX.out
 obtain ⟨q1,q2,q3⟩:=hk01
 clear hk0
 go_wp2_with fail
 refine (HM.out _).mono ?_
 rintro e w' ⟨rfl,hw'⟩
 have hw' := hw'.symm
 subst hw'
 go_wp2_with (refine wpList_copy_rp rfl _ _ _ _ rfl 32 32 Tryz.underlying100 size_bool w.heap.size n 0 k0 n n ⟨X,0,none⟩ 1 1 (.slice Y yl yc) rfl rfl HL0.out HK0.out (by omega) rfl HX1.out w.heap.size w HBA.out (Nat.le_refl _) ?_;intro w1 hl1 hb1)
 clear HL0 HX1 HBA HX hmk HM HK0
 go_loopw [8] (fun i wr=>∃ k:Nat,(1≤k ∨ n=0)∧k≤n∧i=.int .i64 k∧Rp wr 32 w.heap.size n k (.slice Y yl yc)∧Below w.heap.size w wr) (fun i _=>n - (intOf i).toNat)
 case atStart=>exact ⟨k0,by omega,q2,rfl,by have:=hl1.out;rwa [Nat.zero_add] at this,hb1.out⟩
 case round =>
  clear q1 q2 q3
  obtain ⟨k,hk1,hk,rfl,hl,hb⟩:=hrel
  have HL:=hid hl
  have HB:=hid hb
  clear hl hb
  by_cases hlt:k < n
  · have hsrc : Hid (∀ m, m ≤ k → ∀ j, j < m → wr.cell? ((⟨w.heap.size, 0, none⟩ : Addr).add j) = some (.slice Y yl yc)) := fun m hm j hj => by
     obtain ⟨f,hf,hc⟩:=HL.out
     have h1:=hf.cell (i:=j) (by omega)
     rw [hc j (by omega)] at h1
     rw [add0]
     exact h1
    have hk1':1≤k:=by omega
    obtain ⟨m,hm⟩:∃ m,Nat.min k (n - k)=m:=⟨_,rfl⟩
    have hm':m=Nat.min k (n - k):=hm.symm
    have hmm:m≤k∧k+m≤n∧1≤m:=by have:Nat.min k (n - k)=min k (n - k):=rfl;omega
    have HMm:=hid hm'
    have HS2:=hid (hsrc.out m hmm.1)
    clear hm hm' hsrc hk1
    obtain ⟨w2,hcp,hl2,hb2⟩:=run_copy_rp (P:=Tryz.prog) (w:=wr.drew) 100 100 3 32 32 Tryz.underlying100 size_bool w.heap.size n k m (n - k) (n - k) ⟨w.heap.size,0,none⟩ k n (.slice Y yl yc) (HL.out.below (Below.refl _ wr).drew) HMm.out hmm.2.1 rfl (fun j hj=>by have:=HS2.out j hj;rw [add0] at this ⊢;exact keep (Below.refl _ wr).drew this) w.heap.size w HB.out.drew (Nat.le_refl _)
    have HL2:=hid hl2
    have HB2:=hid hb2
    clear hl2 hb2 HS2 HMm
    obtain ⟨m1,m2,m3⟩:=hmm
    go_wp2
    go_region
    all_goals
     go_wp2
     go_roundw
     case rel=>exact ⟨k+m,by omega,m2,by go_num,HL2.out,HB2.out⟩
     case measure=>simp [intOf];omega
  · have e:k=n:=by omega
    subst e
    go_wp2
    go_ret
    obtain ⟨f,hf,hc⟩:=HL.out
    exact ⟨w.heap.size,rfl,Nat.le_refl _,hf.congr (fun i hi=>hc i hi),HB.out⟩
theorem size_int : (Tryz.prog.info? 24).map (·.size)=some 1 := by kernel_rfl
theorem info_rint : (Tryz.prog.info? 24).map (fun i=>(i.zero,i.size,i.bytes))=some (some (.slice none 0 0),1,24) := by kernel_rfl
set_option maxHeartbeats 1600000 in
set_option maxRecDepth 8000 in
theorem repeat_int (n : Nat) (hn : n≤6) (X : Nat) (Y : Option Addr) (yl yc : Nat) (w : World) (hX : w.cell? ⟨X,0,none⟩=some (.slice Y yl yc)) :
  Calls Tryz.prog 116 #[.slice (some ⟨X,0,none⟩) 1 1,.int .i64 (n:Int)] w fun e w'=>∃ N,e=.returned (.slice (some ⟨N,0,none⟩) n n)∧w.heap.size≤N∧w'.rowIs N 24 n (fun _=>.slice Y yl yc)∧Below w.heap.size w w' := by
 have hmk:=run_make_row' (P:=Tryz.prog) 102 24 (.slice none 0 0) 24 Tryz.underlying102 info_rint rfl .i64 .i64 n (by omega) (by omega)
 have HM:=hid (mul_six n (by omega))
 have HX:=hid hX
 clear hX
 go_enter Tryz.func116,Tryz.ntmps116
 have HL0:Hid (Rp (w.alloc (.cells (madeCells #[.slice none 0 0] n) 24)) 24 w.heap.size n 0 (.slice Y yl yc)):=⟨fun _=>.slice none 0 0,World.rowIs_made w _ n 24,fun i hi=>absurd hi (Nat.not_lt_zero _)⟩
 have HBA:Hid (Below w.heap.size w (w.alloc (.cells (madeCells #[.slice none 0 0] n) 24))):=Bl
 obtain ⟨k0,hk0⟩:∃ k,k=Nat.min 1 n:=⟨_,rfl⟩
 have hk01:k0≤1∧k0≤n∧(k0=1 ∨ n=0):=by have:Nat.min 1 n=min 1 n:=rfl;omega
 have HK0:=hid hk0
 have HX1:Hid (∀ j,j < k0→(w.alloc (.cells (madeCells #[.slice none 0 0] n) 24)).cell? ((⟨X,0,none⟩:Addr).add j)=some (.slice Y yl yc)):=fun j hj=>by
  have e:j=0:=by omega
  subst e
  rw [add0]
  exact keep HBA.out HX.out
 obtain ⟨q1,q2,q3⟩:=hk01
 clear hk0
 go_wp2_with fail
 refine (HM.out _).mono ?_
 rintro e w' ⟨rfl,hw'⟩
 have hw' := hw'.symm
 subst hw'
 go_wp2_with (refine wpList_copy_rp rfl _ _ _ _ rfl 24 24 Tryz.underlying102 size_int w.heap.size n 0 k0 n n ⟨X,0,none⟩ 1 1 (.slice Y yl yc) rfl rfl HL0.out HK0.out (by omega) rfl HX1.out w.heap.size w HBA.out (Nat.le_refl _) ?_;intro w1 hl1 hb1)
 clear HL0 HX1 HBA HX hmk HM HK0
 go_loopw [8] (fun i wr=>∃ k:Nat,(1≤k ∨ n=0)∧k≤n∧i=.int .i64 k∧Rp wr 24 w.heap.size n k (.slice Y yl yc)∧Below w.heap.size w wr) (fun i _=>n - (intOf i).toNat)
 case atStart=>exact ⟨k0,by omega,q2,rfl,by have:=hl1.out;rwa [Nat.zero_add] at this,hb1.out⟩
 case round =>
  clear q1 q2 q3
  obtain ⟨k,hk1,hk,rfl,hl,hb⟩:=hrel
  have HL:=hid hl
  have HB:=hid hb
  clear hl hb
  by_cases hlt:k < n
  · have hsrc : Hid (∀ m, m ≤ k → ∀ j, j < m → wr.cell? ((⟨w.heap.size, 0, none⟩ : Addr).add j) = some (.slice Y yl yc)) := fun m hm j hj => by
     obtain ⟨f,hf,hc⟩:=HL.out
     have h1:=hf.cell (i:=j) (by omega)
     rw [hc j (by omega)] at h1
     rw [add0]
     exact h1
    have hk1':1≤k:=by omega
    obtain ⟨m,hm⟩:∃ m,Nat.min k (n - k)=m:=⟨_,rfl⟩
    have hm':m=Nat.min k (n - k):=hm.symm
    have hmm:m≤k∧k+m≤n∧1≤m:=by have:Nat.min k (n - k)=min k (n - k):=rfl;omega
    have HMm:=hid hm'
    have HS2:=hid (hsrc.out m hmm.1)
    clear hm hm' hsrc hk1
    obtain ⟨w2,hcp,hl2,hb2⟩:=run_copy_rp (P:=Tryz.prog) (w:=wr.drew) 102 102 3 24 24 Tryz.underlying102 size_int w.heap.size n k m (n - k) (n - k) ⟨w.heap.size,0,none⟩ k n (.slice Y yl yc) (HL.out.below (Below.refl _ wr).drew) HMm.out hmm.2.1 rfl (fun j hj=>by have:=HS2.out j hj;rw [add0] at this ⊢;exact keep (Below.refl _ wr).drew this) w.heap.size w HB.out.drew (Nat.le_refl _)
    have HL2:=hid hl2
    have HB2:=hid hb2
    clear hl2 hb2 HS2 HMm
    obtain ⟨m1,m2,m3⟩:=hmm
    go_wp2
    go_region
    all_goals
     go_wp2
     go_roundw
     case rel=>exact ⟨k+m,by omega,m2,by go_num,HL2.out,HB2.out⟩
     case measure=>simp [intOf];omega
  · have e:k=n:=by omega
    subst e
    go_wp2
    go_ret
    obtain ⟨f,hf,hc⟩:=HL.out
    exact ⟨w.heap.size,rfl,Nat.le_refl _,hf.congr (fun i hi=>hc i hi),HB.out⟩
end Go.Proofs.YtajhklklbfnmpaaGreat.repOne
