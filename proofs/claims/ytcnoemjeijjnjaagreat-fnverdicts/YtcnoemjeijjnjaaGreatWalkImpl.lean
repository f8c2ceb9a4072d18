import Derived.Test.YtcnoemjeijjnjaaGreatPart35
import Derived.Maps.AppendAt
set_option linter.unusedVariables false
namespace Go.Proofs.YtcnoemjeijjnjaaGreat.walkImpl
open Go.RowKit Go.Deep Go base names netSem netImpl routeRow walkSem filtImpl intsOwn nbSem
theorem info_int : (Tryz.prog.info? 3).map (fun i=>(i.zero,i.size,i.bytes))=some (some (.int .i64 0),1,8):=by kernel_rfl
def lenOf : Value→Nat
 | .slice _ n _=>n
 | _=>0
theorem own_one (B N:Nat) (w:World) (z:Int) (hB:B≤w.heap.size) (hN:w.heap.size=N):OwnInts B (w.alloc (.cells #[.int .i64 z] 3)) (.slice (some ⟨N,0,none⟩) 1 1) [z]:=by
 subst hN
 exact ⟨rfl,.inr ⟨w.heap.size,1,#[.int .i64 z],rfl,hB,heap_alloc_new w _,Nat.le_refl _,by decide,rfl,rfl⟩⟩
theorem own_off {B g k:Nat} {w:World} {v y:Value} {zs:List Int} (h:OwnInts B w v zs) (hg:∀ j,v.ownBlock=some j→j≠g):OwnInts B (w.setCell ⟨g,k,none⟩ y) v zs :=
 own_grown h (grown_set (grown_refl _ _)) (fun j hj e=>hg j hj (by injection e))
theorem own_put {B:Nat} {w:World} {v:Value} {zs:List Int} {z:Int} (h:w.ownsRow B 3 1 v (zs.length+1) (zs.map (Value.int .i64) ++ [.int .i64 z])):OwnInts B w v (zs ++ [z]):=by
 unfold OwnInts
 rw [List.length_append,List.map_append]
 exact h
theorem next_full {rs:Rs} {f:R} {m n:Nat} {port:Int} {a j:Nat} {zs F:List Int} {O via:Int} (hv:(rs a).via=via) (h:outAt f m (a:Int) via port=0) (hf:zs ++ wayR rs f m port (n+1) a=F) (ho:wayO rs f m port (n+1) a=O):(zs ++ [via]) ++ wayR rs f m port n via=F∧wayO rs f m port n via=O:=by
 have hh:outAt f m (a:Int) (rs (a:Int).toNat).via port=0:=by rw [Int.toNat_natCast,hv];exact h
 have:=way_go (n:=n) hh
 rw [Int.toNat_natCast,hv] at this
 rw [this.1] at hf
 rw [this.2] at ho
 rw [List.append_assoc]
 exact ⟨hf,ho⟩
theorem stop_full {rs:Rs} {f:R} {m n:Nat} {port:Int} {a:Nat} {zs F:List Int} {O via:Int} (hv:(rs a).via=via) (h:outAt f m (a:Int) via port≠0) (hf:zs ++ wayR rs f m port (n+1) a=F) (ho:wayO rs f m port (n+1) a=O):zs=F∧outAt f m (a:Int) via port=O:=by
 have hh:outAt f m (a:Int) (rs (a:Int).toNat).via port≠0:=by rw [Int.toNat_natCast,hv];exact h
 have:=way_stop (n:=n) hh
 rw [Int.toNat_natCast,hv] at this
 rw [this.1,List.append_nil] at hf
 rw [this.2] at ho
 exact ⟨hf,ho⟩
set_option maxHeartbeats 6400000 in
set_option maxRecDepth 8000 in
theorem walk_impl (p:Nat→Option Addr) (l c:Nat→Nat) (f:R) (ra:Option Addr) (rl rc:Nat) (rs:Rs) (fr:Nat) (port:Int) (w:World) (h:Row 4 w (p 5) (l 5) f) (hr:RtRow w ra rl rs) (hv:Viable rs rl) (hfr:fr<rl) (h4:rl≤4) :
  Calls Tryz.prog 35 #[netV p l c,.slice ra rl rc,.int .i64 (fr:Int),.int .i64 port] w fun e' w'=>∃ v,e' = .returned (.agg #[.int .i64 (wayO rs f (l 5) port rl fr),v])∧OwnInts w.heap.size w' v ((fr:Int)::wayR rs f (l 5) port rl fr)∧Below w.heap.size w w' := by
 have HR:=hid h
 have HT:=hid hr
 have HV:=hid hv
 have HFr:=hid hfr
 clear h hr hv
 obtain ⟨i0,hi,hzz⟩:=Option.map_eq_some_iff.1 info_int
 simp only [Prod.mk.injEq] at hzz
 obtain ⟨hz0,hz1,hz2⟩:=hzz
 have HI:=hid hi
 have HZ0:=hid hz0
 have HZ1:=hid hz1
 have HZ2:=hid hz2
 clear hi hz0 hz1 hz2
 obtain ⟨O,hO⟩:∃ O,wayO rs f (l 5) port rl fr=O:=⟨_,rfl⟩
 obtain ⟨F,hF⟩:∃ F,(fr:Int)::wayR rs f (l 5) port rl fr=F:=⟨_,rfl⟩
 rw [hO,hF]
 have HO:=hid hO
 have HF:=hid hF
 clear hO hF
 unfold netV
 have C1:Hid (∀ w8:World,Below ((w.alloc (.cells #[.slice (p 0) (l 0) (c 0),.slice (p 1) (l 1) (c 1),.slice (p 2) (l 2) (c 2),.slice (p 3) (l 3) (c 3),.slice (p 4) (l 4) (c 4),.slice (p 5) (l 5) (c 5)] 29)).alloc (.cells #[.int .i64 0,.slice none 0 0] 49)).heap.size ((w.alloc (.cells #[.slice (p 0) (l 0) (c 0),.slice (p 1) (l 1) (c 1),.slice (p 2) (l 2) (c 2),.slice (p 3) (l 3) (c 3),.slice (p 4) (l 4) (c 4),.slice (p 5) (l 5) (c 5)] 29)).alloc (.cells #[.int .i64 0,.slice none 0 0] 49)) w8→(w8.cell? ⟨w.heap.size,0,none⟩=some (.slice (p 0) (l 0) (c 0))∧w8.cell? ⟨w.heap.size,1,none⟩=some (.slice (p 1) (l 1) (c 1))∧w8.cell? ⟨w.heap.size,2,none⟩=some (.slice (p 2) (l 2) (c 2))∧w8.cell? ⟨w.heap.size,3,none⟩=some (.slice (p 3) (l 3) (c 3))∧w8.cell? ⟨w.heap.size,4,none⟩=some (.slice (p 4) (l 4) (c 4))∧w8.cell? ⟨w.heap.size,5,none⟩=some (.slice (p 5) (l 5) (c 5)))∧(w8.cell? ⟨w.heap.size+1,0,none⟩=some (.int .i64 0)∧w8.cell? ⟨w.heap.size+1,1,none⟩=some (.slice none 0 0)∧w8.frozen? ⟨w.heap.size+1,0,none⟩=false∧w8.frozen? ⟨w.heap.size+1,1,none⟩=false)∧Row 4 w8 (p 5) (l 5) f∧RtRow w8 ra rl rs∧Below w.heap.size w w8∧w.heap.size+2≤w8.heap.size):=fun w8 hb=>by
  have hb0:=(show Below w.heap.size w ((w.alloc (.cells #[.slice (p 0) (l 0) (c 0),.slice (p 1) (l 1) (c 1),.slice (p 2) (l 2) (c 2),.slice (p 3) (l 3) (c 3),.slice (p 4) (l 4) (c 4),.slice (p 5) (l 5) (c 5)] 29)).alloc (.cells #[.int .i64 0,.slice none 0 0] 49)) from Bl)
  have hz:=hb.size
  refine ⟨⟨keep hb (by simp [go_sem]),keep hb (by simp [go_sem]),keep hb (by simp [go_sem]),keep hb (by simp [go_sem]),keep hb (by simp [go_sem]),keep hb (by simp [go_sem])⟩,⟨keep hb (by simp [go_sem]),keep hb (by simp [go_sem]),?_,?_⟩,(HR.out.below hb0).below hb,(HT.out.below hb0).below hb,hb0.trans (hb.mono (by simp;omega)),by simpa using hz⟩
  · rw [(bcell hb).2 _ _ (by simp)];simp [go_sem]
  rw [(bcell hb).2 _ _ (by simp)];simp [go_sem]
 go_enter Tryz.func35,Tryz.ntmps35
 go_wp2
 go_loopw [9,10] (fun at' path wr=>∃ (j a:Nat) (zs:List Int),j<rl∧a<rl∧at' = .int .i64 (a:Int)∧OwnInts (w.heap.size+2) wr path zs∧zs.length=j+1∧zs ++ wayR rs f (l 5) port (rl - j) a=F∧wayO rs f (l 5) port (rl - j) a=O∧Below ((w.alloc (.cells #[.slice (p 0) (l 0) (c 0),.slice (p 1) (l 1) (c 1),.slice (p 2) (l 2) (c 2),.slice (p 3) (l 3) (c 3),.slice (p 4) (l 4) (c 4),.slice (p 5) (l 5) (c 5)] 29)).alloc (.cells #[.int .i64 0,.slice none 0 0] 49)).heap.size ((w.alloc (.cells #[.slice (p 0) (l 0) (c 0),.slice (p 1) (l 1) (c 1),.slice (p 2) (l 2) (c 2),.slice (p 3) (l 3) (c 3),.slice (p 4) (l 4) (c 4),.slice (p 5) (l 5) (c 5)] 29)).alloc (.cells #[.int .i64 0,.slice none 0 0] 49)) wr) (fun _ path _=>rl+1 - lenOf path)
 case atStart=>exact ⟨0,fr,[(fr:Int)],by omega,HFr.out,rfl,own_one _ _ _ _ (by simp) (by simp),rfl,HF.out,HO.out,Bl⟩
 rename_i path
 obtain ⟨j,a,zs,hj,ha,rfl,hown,hzl,hfull,hout,hbel⟩:=hrel
 obtain ⟨pa,pc,rfl,hprow⟩:=hown.form
 have O0:=hid hown
 have HZL:=hid hzl
 have HFu:=hid hfull
 have HOu:=hid hout
 have HB:=hid hbel
 have HLen:Hid (zs.length≤4):=by show _≤_;rw [hzl];omega
 obtain ⟨⟨q0,q1,q2,q3,q4,q5⟩,-,hrow,hrts,hB,hz2⟩:=C1.out wr hbel
 have HRow:=hid hrow
 have BR:=hid hB
 obtain ⟨b0,off,hra,c0,-,-,-⟩:=hrts.at4 ha
 subst hra
 have hvia:=HV.out a ha
 have HVia:=hid hvia
 clear hown hzl hfull hout hbel hprow hrow hrts hB hvia
 obtain ⟨via,hvia⟩:∃ v,(rs a).via=v:=⟨_,rfl⟩
 have HVE:=hid hvia
 rw [hvia] at c0 HVia
 clear hvia
 obtain ⟨nj,hnj⟩:∃ n,rl - j=n+1:=⟨rl - j - 1,by omega⟩
 rw [hnj] at HFu HOu
 have HNJ:=hid hnj
 clear hnj
 have hlt:(a:Int)<(rl:Int):=by omega
 go_wp2_with fail
 refine (out_impl p l c f a via port _ HRow.out).mono ?_
 rintro e w1 ⟨rfl,hb1⟩
 have O1:=hid (O0.out.below hb1)
 have B1:=hid (HB.out.trans (hb1.mono HB.out.size))
 clear hb1 q0 q1 q2 q3 q4 q5 c0
 obtain ⟨-,⟨y0,y1,y2,y3⟩,-,-,hB1,hz1⟩:=C1.out w1 B1.out
 have BW:=hid hB1
 clear hB1
 obtain ⟨D,hD⟩:∃ D,outAt f (l 5) (a:Int) via port=D:=⟨_,rfl⟩
 have HD:=hid hD
 rw [hD]
 clear hD
 by_cases hD0:D=0
 case neg =>
  have e1:(D != 0)=true:=by simp [hD0]
  obtain ⟨eF,eO⟩:=stop_full HVE.out (by rw [HD.out];exact hD0) HFu.out HOu.out
  rw [HD.out] at eO
  have HE:=hid eF
  have HEO:=hid eO
  clear eF eO hD0
  go_wp2
  refine bodyPost_ret (v:=.agg #[.int .i64 D,.slice pa zs.length pc]) (by simp [results,Tryz.results35,go_sem,y0,y1]) rfl ⟨_,by rw [HEO.out],?_,?_⟩
  · rw [← HE.out]
    exact (own_off (own_off O1.out (fun j hj=>by have:=(own_lt O1.out hj).1;omega)) (fun j hj=>by have:=(own_lt O1.out hj).1;omega)).mono (by omega)
  exact (BW.out.setCell (by simp) _).setCell (by simp) _
 subst hD0
 have hv0:=out_next HD.out (by have:=HVia.out;omega)
 obtain ⟨m,rfl⟩:∃ m:Nat,via=(m:Int):=⟨via.toNat,by omega⟩
 have hm:m<rl:=by have:=HVia.out;omega
 obtain ⟨eF,eO⟩:=next_full (j:=0) HVE.out HD.out HFu.out HOu.out
 have HE:=hid eF
 have HEO:=hid eO
 clear eF eO hv0
 by_cases hlast:j+1=rl
 · have d1:decide ((rl:Int)<(j:Int)+2)=true:=decide_eq_true (by omega)
   have e0:nj=0:=by have:=HNJ.out;omega
   subst e0
   go_wp2_with (at_builtin;(refine wpList_append_own_at _ rfl _ _ 25 rfl (w.heap.size+2) 3 i0 (.int .i64 0) 1 8 Tryz.underlying25 HI.out HZ0.out HZ1.out HZ2.out rfl (by decide) _ _ _ rfl (World.ownsRow.alloc O1.out _) ⟨_,0,none⟩ 1 1 [.int .i64 (m:Int)] rfl rfl (cell_one_new _ _ _) (fun x hx=>by simp at hx;subst hx;rfl) (by have:=HLen.out;unfold maxLen;omega) (by have:=HLen.out;omega) (by simp;omega) ?_);intro v' w3 hown' hgrow3 hnil3 hat3;have O3:=hid (own_put hown');have G3:Hid (Below ((w.alloc (.cells #[.slice (p 0) (l 0) (c 0),.slice (p 1) (l 1) (c 1),.slice (p 2) (l 2) (c 2),.slice (p 3) (l 3) (c 3),.slice (p 4) (l 4) (c 4),.slice (p 5) (l 5) (c 5)] 29)).alloc (.cells #[.int .i64 0,.slice none 0 0] 49)).heap.size ((w.alloc (.cells #[.slice (p 0) (l 0) (c 0),.slice (p 1) (l 1) (c 1),.slice (p 2) (l 2) (c 2),.slice (p 3) (l 3) (c 3),.slice (p 4) (l 4) (c 4),.slice (p 5) (l 5) (c 5)] 29)).alloc (.cells #[.int .i64 0,.slice none 0 0] 49)) w3):=Below.grown (B1.out.alloc B1.out.size _) hgrow3 (by simp;omega) (fun k hk=>by have:=(own_lt O1.out hk).1;simp;omega);obtain ⟨pa',pc',hv',-⟩:=O3.out.form;rw [show (zs ++ [(m:Int)]).length=j+2 by rw [List.length_append,HZL.out];rfl] at hv';subst hv';clear hown' hgrow3 hnil3 hat3 y0 y1 y2 y3;obtain ⟨-,⟨y0,y1,y2,y3⟩,-,-,hB3,hz3⟩:=C1.out w3 G3.out;have BW3:=hid hB3;clear hB3)
   refine bodyPost_ret (v:=.agg #[.int .i64 3,.slice pa' (j+2) pc']) (by simp [results,Tryz.results35,go_sem,y0,y1]) rfl ⟨_,by rw [← HEO.out];rfl,?_,?_⟩
   · have eF:zs ++ [(m:Int)]=F:=by rw [← HE.out];simp [wayR]
     rw [← eF]
     exact (own_off (own_off O3.out (fun j hj=>by have:=(own_lt O3.out hj).1;omega)) (fun j hj=>by have:=(own_lt O3.out hj).1;omega)).mono (by omega)
   exact (BW3.out.setCell (by simp) _).setCell (by simp) _
 have d1:decide ((rl:Int)<(j:Int)+2)=false:=decide_eq_false (by omega)
 go_wp2_with (at_builtin;(refine wpList_append_own_at _ rfl _ _ 25 rfl (w.heap.size+2) 3 i0 (.int .i64 0) 1 8 Tryz.underlying25 HI.out HZ0.out HZ1.out HZ2.out rfl (by decide) _ _ _ rfl (World.ownsRow.alloc O1.out _) ⟨_,0,none⟩ 1 1 [.int .i64 (m:Int)] rfl rfl (cell_one_new _ _ _) (fun x hx=>by simp at hx;subst hx;rfl) (by have:=HLen.out;unfold maxLen;omega) (by have:=HLen.out;omega) (by simp;omega) ?_);intro v' w3 hown' hgrow3 hnil3 hat3;have O3:=hid (own_put hown');have G3:Hid (Below ((w.alloc (.cells #[.slice (p 0) (l 0) (c 0),.slice (p 1) (l 1) (c 1),.slice (p 2) (l 2) (c 2),.slice (p 3) (l 3) (c 3),.slice (p 4) (l 4) (c 4),.slice (p 5) (l 5) (c 5)] 29)).alloc (.cells #[.int .i64 0,.slice none 0 0] 49)).heap.size ((w.alloc (.cells #[.slice (p 0) (l 0) (c 0),.slice (p 1) (l 1) (c 1),.slice (p 2) (l 2) (c 2),.slice (p 3) (l 3) (c 3),.slice (p 4) (l 4) (c 4),.slice (p 5) (l 5) (c 5)] 29)).alloc (.cells #[.int .i64 0,.slice none 0 0] 49)) w3):=Below.grown (B1.out.alloc B1.out.size _) hgrow3 (by simp;omega) (fun k hk=>by have:=(own_lt O1.out hk).1;simp;omega);obtain ⟨pa',pc',hv',-⟩:=O3.out.form;rw [show (zs ++ [(m:Int)]).length=j+2 by rw [List.length_append,HZL.out];rfl] at hv';subst hv';clear hown' hgrow3 hnil3 hat3 y0 y1 y2 y3)
 go_roundw
 case rel=>exact ⟨j+1,m,zs ++ [(m:Int)],by omega,hm,rfl,O3.out,by rw [List.length_append,HZL.out];rfl,by rw [show rl - (j+1)=nj by have:=HNJ.out;omega];exact HE.out,by rw [show rl - (j+1)=nj by have:=HNJ.out;omega];exact HEO.out,G3.out⟩
 case measure=>simp [lenOf];have:=HZL.out;omega
end Go.Proofs.YtcnoemjeijjnjaaGreat.walkImpl
