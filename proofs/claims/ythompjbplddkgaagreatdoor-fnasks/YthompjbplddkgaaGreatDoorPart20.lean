import Derived.Test.YthompjbplddkgaaGreatDoorPart19
import Derived.Maps.AppendAt
set_option linter.unusedVariables false
namespace Go.Proofs.YthompjbplddkgaaGreatDoor.walkSpec
open Go.RowKit Go.Deep Go base names netSem netSpec routeRow walkSem filtSpec intsOwn nbSem
theorem info_int : (Tryz.prog.info? 3).map (fun i=>(i.zero,i.size,i.bytes))=some (some (.int .i64 0),1,8):=by kernel_rfl
theorem own_one (B N:Nat) (w:World) (z:Int) (hB:B≤w.heap.size) (hN:w.heap.size=N):OwnInts B (w.alloc (.cells #[.int .i64 z] 3)) (.slice (some ⟨N,0,none⟩) 1 1) [z]:=by
 subst hN
 exact ⟨rfl,.inr ⟨w.heap.size,1,#[.int .i64 z],rfl,hB,heap_alloc_new w _,Nat.le_refl _,by decide,rfl,rfl⟩⟩
theorem own_off {B g k:Nat} {w:World} {v y:Value} {zs:List Int} (h:OwnInts B w v zs) (hg:∀ j,v.ownBlock=some j→j≠g):OwnInts B (w.setCell ⟨g,k,none⟩ y) v zs :=
 own_grown h (grown_set (grown_refl _ _)) (fun j hj e=>hg j hj (by injection e))
theorem own_put {B:Nat} {w:World} {v:Value} {zs:List Int} {z:Int} (h:w.ownsRow B 3 1 v (zs.length+1) (zs.map (Value.int .i64) ++ [.int .i64 z])):OwnInts B w v (zs ++ [z]):=by
 unfold OwnInts
 rw [List.length_append,List.map_append]
 exact h
theorem next_full {rs:Rs} {f:R} {m n:Nat} {port:Int} {a j:Nat} {zs F:List Int} {O via:Int} (hv:(rs a).via=via) (h:outAt f m (a:Int) via port=0) (hf:zs ++ wayR rs f m port (n+1) a=F) (ho:wayO rs f m port (n+1) a=O):(zs ++ [via]) ++ wayR rs f m port n via=F∧wayO rs f m port n via=O:=by
 have hh:outAt f m (a:Int) (rs (a:Int).toNat).via port=0:=by rw [Int.toNat_natCast,hv];exact h
 have:=way_go (n:=n) hh
 rw [Int.toNat_natCast,hv] at this
 rw [this.1] at hf
 rw [this.2] at ho
 rw [List.append_assoc]
 exact ⟨hf,ho⟩
theorem stop_full {rs:Rs} {f:R} {m n:Nat} {port:Int} {a:Nat} {zs F:List Int} {O via:Int} (hv:(rs a).via=via) (h:outAt f m (a:Int) via port≠0) (hf:zs ++ wayR rs f m port (n+1) a=F) (ho:wayO rs f m port (n+1) a=O):zs=F∧outAt f m (a:Int) via port=O:=by
 have hh:outAt f m (a:Int) (rs (a:Int).toNat).via port≠0:=by rw [Int.toNat_natCast,hv];exact h
 have:=way_stop (n:=n) hh
 rw [Int.toNat_natCast,hv] at this
 rw [this.1,List.append_nil] at hf
 rw [this.2] at ho
 exact ⟨hf,ho⟩
theorem cells_of {w:World} {V:Nat} {x y:Value} {t:TypeId} (h:w.heap[V]? = some (.cells #[x,y] t (0,0))):w.cell? ⟨V,0,none⟩=some x∧w.cell? ⟨V,1,none⟩=some y∧w.frozen? ⟨V,0,none⟩=false∧w.frozen? ⟨V,1,none⟩=false:=by
 simp [World.cell?,World.frozen?,h]
theorem set_blk {w:World} {b:Nat} {x y v:Value} {t:TypeId} (h:w.heap[b]? = some (.cells #[x,y] t (0,0))):(w.setCell ⟨b,1,none⟩ v).heap[b]? = some (.cells #[x,v] t (0,0)):=by
 simp [World.setCell,Array.getElem?_modify,h]
set_option maxHeartbeats 6400000 in
set_option maxRecDepth 8000 in
theorem walk_spec (p:Nat→Option Addr) (l c:Nat→Nat) (f:R) (ra:Option Addr) (rl rc:Nat) (rs:Rs) (fr:Nat) (port:Int) (w:World) (h:Row 4 w (p 5) (l 5) f) (hr:RtRow w ra rl rs) (hv:Viable rs rl) (hfr:fr<rl) (h4:rl≤4) :
  Calls Tryz.prog 82 #[netV p l c,.slice ra rl rc,.int .i64 (fr:Int),.int .i64 port] w fun e' w'=>∃ v,e' = .returned (.agg #[.int .i64 (wayO rs f (l 5) port rl fr),v])∧OwnInts w.heap.size w' v ((fr:Int)::wayR rs f (l 5) port rl fr)∧Below w.heap.size w w' := by
 have HR:=hid h
 have HT:=hid hr
 have HV:=hid hv
 have HFr:=hid hfr
 clear h hr hv
 obtain ⟨i0,hi,hzz⟩:=Option.map_eq_some_iff.1 info_int
 simp only [Prod.mk.injEq] at hzz
 obtain ⟨hz0,hz1,hz2⟩:=hzz
 have HI:=hid hi
 have HZ0:=hid hz0
 have HZ1:=hid hz1
 have HZ2:=hid hz2
 clear hi hz0 hz1 hz2
 obtain ⟨O,hO⟩:∃ O,wayO rs f (l 5) port rl fr=O:=⟨_,rfl⟩
 obtain ⟨F,hF⟩:∃ F,(fr:Int)::wayR rs f (l 5) port rl fr=F:=⟨_,rfl⟩
 rw [hO,hF]
 have HO:=hid hO
 have HF:=hid hF
 clear hO hF
 unfold netV
 have C1:Hid (∀ w8:World,Below ((w.alloc (.cells #[.slice (p 0) (l 0) (c 0),.slice (p 1) (l 1) (c 1),.slice (p 2) (l 2) (c 2),.slice (p 3) (l 3) (c 3),.slice (p 4) (l 4) (c 4),.slice (p 5) (l 5) (c 5)] 29)).alloc (.cells #[.int .i64 0,.slice none 0 0] 119)).heap.size ((w.alloc (.cells #[.slice (p 0) (l 0) (c 0),.slice (p 1) (l 1) (c 1),.slice (p 2) (l 2) (c 2),.slice (p 3) (l 3) (c 3),.slice (p 4) (l 4) (c 4),.slice (p 5) (l 5) (c 5)] 29)).alloc (.cells #[.int .i64 0,.slice none 0 0] 119)) w8→(w8.cell? ⟨w.heap.size,0,none⟩=some (.slice (p 0) (l 0) (c 0))∧w8.cell? ⟨w.heap.size,1,none⟩=some (.slice (p 1) (l 1) (c 1))∧w8.cell? ⟨w.heap.size,2,none⟩=some (.slice (p 2) (l 2) (c 2))∧w8.cell? ⟨w.heap.size,3,none⟩=some (.slice (p 3) (l 3) (c 3))∧w8.cell? ⟨w.heap.size,4,none⟩=some (.slice (p 4) (l 4) (c 4))∧w8.cell? ⟨w.heap.size,5,none⟩=some (.slice (p 5) (l 5) (c 5)))∧(w8.cell? ⟨w.heap.size+1,0,none⟩=some (.int .i64 0)∧w8.cell? ⟨w.heap.size+1,1,none⟩=some (.slice none 0 0)∧w8.frozen? ⟨w.heap.size+1,0,none⟩=false∧w8.frozen? ⟨w.heap.size+1,1,none⟩=false)∧Row 4 w8 (p 5) (l 5) f∧RtRow w8 ra rl rs∧Below w.heap.size w w8∧w.heap.size+2≤w8.heap.size):=fun w8 hb=>by
  have hb0:=(show Below w.heap.size w ((w.alloc (.cells #[.slice (p 0) (l 0) (c 0),.slice (p 1) (l 1) (c 1),.slice (p 2) (l 2) (c 2),.slice (p 3) (l 3) (c 3),.slice (p 4) (l 4) (c 4),.slice (p 5) (l 5) (c 5)] 29)).alloc (.cells #[.int .i64 0,.slice none 0 0] 119)) from Bl)
  have hz:=hb.size
  refine ⟨⟨keep hb (by simp [go_sem]),keep hb (by simp [go_sem]),keep hb (by simp [go_sem]),keep hb (by simp [go_sem]),keep hb (by simp [go_sem]),keep hb (by simp [go_sem])⟩,⟨keep hb (by simp [go_sem]),keep hb (by simp [go_sem]),?_,?_⟩,(HR.out.below hb0).below hb,(HT.out.below hb0).below hb,hb0.trans (hb.mono (by simp;omega)),by simpa using hz⟩
  · rw [(bcell hb).2 _ _ (by simp)];simp [go_sem]
  · rw [(bcell hb).2 _ _ (by simp)];simp [go_sem]
 go_enter Tryz.func82,Tryz.ntmps82
 go_wp2
 go_loopw [10,11] (fun at' i wr=>∃ (j a:Nat) (zs:List Int) (path:Value),j≤rl∧a<rl∧at' = .int .i64 (a:Int)∧i=.int .i64 (j:Int)∧OwnInts (w.heap.size+2) wr path zs∧(∀ g,path.ownBlock=some g→g≠w.heap.size+1+1+1)∧wr.heap[w.heap.size+1+1+1]? = some (.cells #[.int .i64 0,path] 119 (0,0))∧zs.length=j+1∧zs ++ wayR rs f (l 5) port (rl - j) a=F∧wayO rs f (l 5) port (rl - j) a=O∧Below ((w.alloc (.cells #[.slice (p 0) (l 0) (c 0),.slice (p 1) (l 1) (c 1),.slice (p 2) (l 2) (c 2),.slice (p 3) (l 3) (c 3),.slice (p 4) (l 4) (c 4),.slice (p 5) (l 5) (c 5)] 29)).alloc (.cells #[.int .i64 0,.slice none 0 0] 119)).heap.size ((w.alloc (.cells #[.slice (p 0) (l 0) (c 0),.slice (p 1) (l 1) (c 1),.slice (p 2) (l 2) (c 2),.slice (p 3) (l 3) (c 3),.slice (p 4) (l 4) (c 4),.slice (p 5) (l 5) (c 5)] 29)).alloc (.cells #[.int .i64 0,.slice none 0 0] 119)) wr) (fun _ i _=>rl - (intOf i).toNat)
 case atStart =>
  refine ⟨0,fr,[(fr:Int)],_,by omega,HFr.out,rfl,rfl,(own_one (w.heap.size+2) (w.heap.size+1+1) ((w.alloc (.cells #[.slice (p 0) (l 0) (c 0),.slice (p 1) (l 1) (c 1),.slice (p 2) (l 2) (c 2),.slice (p 3) (l 3) (c 3),.slice (p 4) (l 4) (c 4),.slice (p 5) (l 5) (c 5)] 29)).alloc (.cells #[.int .i64 0,.slice none 0 0] 119)) (fr:Int) (by simp) (by simp)).below Bl,?_,?_,rfl,HF.out,HO.out,Bl⟩
  · intro g hg
    have hg2:some (w.heap.size+1+1)=some g:=hg
    injection hg2 with hg2
    omega
  · have h:=heap_alloc_new (((w.alloc (.cells #[.slice (p 0) (l 0) (c 0),.slice (p 1) (l 1) (c 1),.slice (p 2) (l 2) (c 2),.slice (p 3) (l 3) (c 3),.slice (p 4) (l 4) (c 4),.slice (p 5) (l 5) (c 5)] 29)).alloc (.cells #[.int .i64 0,.slice none 0 0] 119)).alloc (.cells #[.int .i64 (fr:Int)] 3)) (.cells #[.int .i64 0,.slice (some ⟨w.heap.size+1+1,0,none⟩) 1 1] 119)
    simpa using h
 case round =>
  obtain ⟨j,a,zs,path,hj,ha,rfl,rfl,hown,hnv,hblk,hzl,hfull,hout,hbel⟩:=hrel
  obtain ⟨pa,pc,rfl,hprow⟩:=hown.form
  have O0:=hid hown
  have NV:=hid hnv
  have HBk:=hid hblk
  have HZL:=hid hzl
  have HFu:=hid hfull
  have HOu:=hid hout
  have HB:=hid hbel
  obtain ⟨⟨q0,q1,q2,q3,q4,q5⟩,⟨y0,y1,y2,y3⟩,hrow,hrts,hB,hz2⟩:=C1.out wr hbel
  have HRow:=hid hrow
  have BR:=hid hB
  obtain ⟨k0,k1,k2,k3⟩:=cells_of hblk
  have hV:w.heap.size+1+1+1<wr.heap.size:=World.block_lt_of_cell? _ _ k0
  by_cases hlt:j<rl
  · have HLen:Hid (zs.length≤4):=by show _≤_;rw [hzl];omega
    obtain ⟨b0,off,hra,c0,-,-,-⟩:=hrts.at4 ha
    subst hra
    have hvia:=HV.out a ha
    have HVia:=hid hvia
    clear hown hnv hblk hzl hfull hout hbel hprow hrow hrts hB hvia
    obtain ⟨via,hvia⟩:∃ v,(rs a).via=v:=⟨_,rfl⟩
    have HVE:=hid hvia
    rw [hvia] at c0 HVia
    clear hvia
    obtain ⟨nj,hnj⟩:∃ n,rl - j=n+1:=⟨rl - j - 1,by omega⟩
    rw [hnj] at HFu HOu
    have HNJ:=hid hnj
    clear hnj
    have hla:(a:Int)<(rl:Int):=by omega
    by_cases h1:via = -2
    · have dh1:(via == -2)=true:=by simp [h1]
      obtain ⟨eF,eO⟩:=stop_full (O:=O) (F:=F) HVE.out (by unfold outAt;simp [h1]) HFu.out HOu.out
      have HE:=hid eF
      have HEO:Hid (O=1):=hid (by rw [← eO];unfold outAt;simp [h1])
      clear eF eO h1
      go_wp2
      refine bodyPost_ret (v:=.agg #[.int .i64 1,.slice pa zs.length pc]) (by simp [results,Tryz.results82,go_sem,y0,y1]) rfl ⟨_,by rw [HEO.out],?_,?_⟩
      · rw [← HE.out]
        exact (own_off (own_off (own_off O0.out (fun j hj=>by have:=NV.out j hj;omega)) (fun j hj=>by have:=(own_lt O0.out hj).1;omega)) (fun j hj=>by have:=(own_lt O0.out hj).1;omega)).mono (by omega)
      · exact ((Below.setCell BR.out (by simp;omega) _).setCell (by simp) _).setCell (by simp) _
    have dh1:(via == -2)=false:=by simp [h1]
    by_cases h2:via = -1
    · have dh2:(via == -1)=true:=by simp [h2]
      obtain ⟨eF,eO⟩:=stop_full (O:=O) (F:=F) HVE.out (by unfold outAt;simp [h2]) HFu.out HOu.out
      have HE:=hid eF
      have HEO:Hid (O=2):=hid (by rw [← eO];unfold outAt;simp [h2])
      clear eF eO h2
      go_wp2
      refine bodyPost_ret (v:=.agg #[.int .i64 2,.slice pa zs.length pc]) (by simp [results,Tryz.results82,go_sem,y0,y1]) rfl ⟨_,by rw [HEO.out],?_,?_⟩
      · rw [← HE.out]
        exact (own_off (own_off (own_off O0.out (fun j hj=>by have:=NV.out j hj;omega)) (fun j hj=>by have:=(own_lt O0.out hj).1;omega)) (fun j hj=>by have:=(own_lt O0.out hj).1;omega)).mono (by omega)
      · exact ((Below.setCell BR.out (by simp;omega) _).setCell (by simp) _).setCell (by simp) _
    have dh2:(via == -1)=false:=by simp [h2]
    by_cases h3:via = -3
    · have dh3:(via == -3)=true:=by simp [h3]
      obtain ⟨eF,eO⟩:=stop_full (O:=O) (F:=F) HVE.out (by unfold outAt;simp [h3]) HFu.out HOu.out
      have HE:=hid eF
      have HEO:Hid (O=3):=hid (by rw [← eO];unfold outAt;simp [h3])
      clear eF eO h3
      go_wp2
      refine bodyPost_ret (v:=.agg #[.int .i64 3,.slice pa zs.length pc]) (by simp [results,Tryz.results82,go_sem,y0,y1]) rfl ⟨_,by rw [HEO.out],?_,?_⟩
      · rw [← HE.out]
        exact (own_off (own_off (own_off O0.out (fun j hj=>by have:=NV.out j hj;omega)) (fun j hj=>by have:=(own_lt O0.out hj).1;omega)) (fun j hj=>by have:=(own_lt O0.out hj).1;omega)).mono (by omega)
      · exact ((Below.setCell BR.out (by simp;omega) _).setCell (by simp) _).setCell (by simp) _
    have dh3:(via == -3)=false:=by simp [h3]
    have HOE:Hid (∀ b,filt f (l 5) (a:Int) via port=b→outAt f (l 5) (a:Int) via port=if b=true then 4 else 0):=fun b hb=>by
     unfold outAt;rw [if_neg h1,if_neg h2,if_neg h3,hb]
    clear h1 h2 h3
    go_wp2_with fail
    refine (filt_spec p l c f a via port _ HRow.out).mono ?_
    rintro e w1 ⟨rfl,hb1⟩
    have O1:=hid (O0.out.below hb1)
    have B1:=hid (HB.out.trans (hb1.mono HB.out.size))
    have hk1:w1.heap[w.heap.size+1+1+1]? = some (.cells #[.int .i64 0,.slice pa zs.length pc] 119 (0,0)):=by rw [hb1.block _ hV];exact HBk.out
    have HK1:=hid hk1
    have hV1:w.heap.size+1+1+1<w1.heap.size:=Nat.lt_of_lt_of_le hV hb1.size
    clear hb1 q0 q1 q2 q3 q4 q5 c0 k0 k1 k2 k3 y0 y1 y2 y3
    obtain ⟨k0,k1,k2,k3⟩:=cells_of hk1
    obtain ⟨-,⟨y0,y1,y2,y3⟩,-,-,hB1,hz1⟩:=C1.out w1 B1.out
    have BW:=hid hB1
    clear hB1 hk1
    obtain ⟨b,hb⟩:∃ b,filt f (l 5) (a:Int) via port=b:=⟨_,rfl⟩
    have HD:=hid (HOE.out b hb)
    rw [hb]
    clear hb HOE
    cases b with
    | true =>
     obtain ⟨eF,eO⟩:=stop_full (O:=O) (F:=F) HVE.out (by rw [HD.out];decide) HFu.out HOu.out
     rw [HD.out] at eO
     have HE:=hid eF
     have HEO:Hid (O=4):=hid eO.symm
     clear eF eO
     go_wp2
     refine bodyPost_ret (v:=.agg #[.int .i64 4,.slice pa zs.length pc]) (by simp [results,Tryz.results82,go_sem,y0,y1]) rfl ⟨_,by rw [HEO.out],?_,?_⟩
     · rw [← HE.out]
       exact (own_off (own_off (own_off O1.out (fun j hj=>by have:=NV.out j hj;omega)) (fun j hj=>by have:=(own_lt O1.out hj).1;omega)) (fun j hj=>by have:=(own_lt O1.out hj).1;omega)).mono (by omega)
     · exact ((Below.setCell BW.out (by simp;omega) _).setCell (by simp) _).setCell (by simp) _
    | false =>
     have hv0:=out_next HD.out (by have:=HVia.out;omega)
     obtain ⟨m,rfl⟩:∃ m:Nat,via=(m:Int):=⟨via.toNat,by omega⟩
     have hm:m<rl:=by have:=HVia.out;omega
     obtain ⟨eF,eO⟩:=next_full (j:=0) HVE.out HD.out HFu.out HOu.out
     have HE:=hid eF
     have HEO:=hid eO
     clear eF eO hv0
     go_wp2_with (at_builtin;(refine wpList_append_own_at _ rfl _ _ 25 rfl (w.heap.size+2) 3 i0 (.int .i64 0) 1 8 Tryz.underlying25 HI.out HZ0.out HZ1.out HZ2.out rfl (by decide) _ _ _ rfl (World.ownsRow.alloc O1.out _) ⟨_,0,none⟩ 1 1 [.int .i64 (m:Int)] rfl rfl (cell_one_new _ _ _) (fun x hx=>by simp at hx;subst hx;rfl) (by have:=HLen.out;unfold maxLen;omega) (by have:=HLen.out;omega) (by simp;omega) ?_);intro v' w3 hown' hgrow3 hnil3 hat3;have O3:=hid (own_put hown');have G3:Hid (Below ((w.alloc (.cells #[.slice (p 0) (l 0) (c 0),.slice (p 1) (l 1) (c 1),.slice (p 2) (l 2) (c 2),.slice (p 3) (l 3) (c 3),.slice (p 4) (l 4) (c 4),.slice (p 5) (l 5) (c 5)] 29)).alloc (.cells #[.int .i64 0,.slice none 0 0] 119)).heap.size ((w.alloc (.cells #[.slice (p 0) (l 0) (c 0),.slice (p 1) (l 1) (c 1),.slice (p 2) (l 2) (c 2),.slice (p 3) (l 3) (c 3),.slice (p 4) (l 4) (c 4),.slice (p 5) (l 5) (c 5)] 29)).alloc (.cells #[.int .i64 0,.slice none 0 0] 119)) w3):=Below.grown (B1.out.alloc B1.out.size _) hgrow3 (by simp;omega) (fun k hk=>by have:=(own_lt O1.out hk).1;simp;omega);have hk3:w3.heap[w.heap.size+1+1+1]? = some (.cells #[.int .i64 0,.slice pa zs.length pc] 119 (0,0)):=(by rw [hgrow3.block _ (by first|(simp;done)|(simp;omega)) (fun e=>NV.out _ e.symm rfl)];rw [Below.block (show Below w1.heap.size w1 _ from Bl) _ hV1];exact HK1.out);have HK3:=hid hk3;have N3:Hid (∀ g,v'.ownBlock=some g→g≠w.heap.size+1+1+1):=(fun g hg=>by rcases hat3 with h|h;exact NV.out g (h ▸ hg);rw [h] at hg;injection hg with hg;simp at hg;omega);obtain ⟨pa',pc',hv',-⟩:=O3.out.form;rw [show (zs ++ [(m:Int)]).length=j+2 by rw [List.length_append,HZL.out];rfl] at hv';subst hv';clear hown' hgrow3 hnil3 hat3 y0 y1 y2 y3 k0 k1 k2 k3;obtain ⟨k0,k1,k2,k3⟩:=cells_of hk3;clear hk3)
     go_roundw
     case rel=>exact ⟨j+1,m,zs ++ [(m:Int)],_,by omega,hm,rfl,by go_num,own_off O3.out N3.out,N3.out,set_blk HK3.out,by rw [List.length_append,HZL.out];rfl,by rw [show rl - (j+1)=nj by have:=HNJ.out;omega];exact HE.out,by rw [show rl - (j+1)=nj by have:=HNJ.out;omega];exact HEO.out,G3.out.setCell (by first|(simp;done)|(simp;omega)) _⟩
     case measure=>simp [intOf];omega
  · have e:j=rl:=by omega
    subst e
    rw [Nat.sub_self] at hfull hout
    have HE:Hid (zs=F):=by show _=_;rw [← hfull];simp [wayR]
    have HEO:Hid (O=3):=by show _=_;rw [← hout];rfl
    clear hown hnv hblk hzl hfull hout hbel hprow hrow hrts hB HFu HOu
    go_wp2
    refine bodyPost_ret (v:=.agg #[.int .i64 3,.slice pa zs.length pc]) (by simp [results,Tryz.results82,go_sem,y0,y1]) rfl ⟨_,by rw [HEO.out],?_,?_⟩
    · rw [← HE.out]
      exact (own_off (own_off (own_off O0.out (fun j hj=>by have:=NV.out j hj;omega)) (fun j hj=>by have:=(own_lt O0.out hj).1;omega)) (fun j hj=>by have:=(own_lt O0.out hj).1;omega)).mono (by omega)
    · exact ((Below.setCell BR.out (by simp;omega) _).setCell (by simp) _).setCell (by simp) _
end Go.Proofs.YthompjbplddkgaaGreatDoor.walkSpec
namespace Go.Proofs.YthompjbplddkgaaGreatDoor.candWay
open Go.RowKit Go.Deep Go base names netSem netSpec nbSem routeRow candSem
set_option maxHeartbeats 800000 in
theorem has_spec (a:Option Addr) (len cap:Nat) (z:List Int) (v:Int) (w:World) (hr:IntRow w a len z) :
  Calls Tryz.prog 100 #[.slice a len cap,.int .i64 v] w fun e w'=>e=.returned (.int .i64 (hasAt z v))∧w' = w:=by
 obtain ⟨hlen,hmost,hcell⟩:=hr
 unfold maxLen at hmost
 have HC:=hid hcell
 have HL:=hid hlen
 clear hcell hlen
 go_enter Tryz.func100,Tryz.ntmps100
 go_wp2
 go_loop [5] (fun i=>∃ k:Nat,k≤len∧i=.int .i64 k∧∀ j,j<k→decide (zAt z j=v)=false) (fun i=>len - (intOf i).toNat)
 case atStart=>exact ⟨0,Nat.zero_le _,rfl,fun j hj=>absurd hj (Nat.not_lt_zero _)⟩
 case round =>
  obtain ⟨k,hk,rfl,ha⟩:=hrel
  have HA:=hid ha
  clear ha
  by_cases hlt:k<len
  · obtain ⟨b0,off,rfl,c0⟩:=HC.out k hlt
    have HZ:Hid (zAt z k=z[k]?.getD 0):=hid rfl
    generalize z[k]?.getD 0=y at *
    obtain ⟨p1,e1⟩:∃ p,(y == v)=p:=⟨_,rfl⟩
    cases p1 with
    | true =>
     have HQ:=hid (show decide (zAt z k=v)=true by rw [HZ.out];simpa using e1)
     go_wp2
     go_ret
     exact ⟨ret_int (firstAt_hit (by rw [HL.out];exact hlt) HQ.out HA.out).symm,rfl⟩
    | false =>
     have HQ:=hid (show decide (zAt z k=v)=false by rw [HZ.out];simpa using e1)
     go_wp2
     go_round
     case rel =>
      refine ⟨k+1,by omega,by go_num,fun j hj=>?_⟩
      by_cases e:j=k
      · subst e;exact HQ.out
      · exact HA.out j (by omega)
     case measure=>simp [intOf];omega
  · have e:k=len:=by omega
    have HA2:=hid (firstAt_none (p:=fun i=>decide (zAt z i=v)) (n:=z.length) (fun i hi=>HA.out i (by rw [e,← HL.out];exact hi)))
    subst e
    go_wp2
    go_ret
    exact ⟨ret_int HA2.out.symm,rfl⟩
set_option maxHeartbeats 1600000 in
theorem thru_spec (a:Option Addr) (n cap:Nat) (rs:Rs) (fr router:Int) (w:World) (hr:RtRow w a n rs) (hn:n≤4) (hv:∀ i,i<n→(rs i).via<n) (hf:0≤fr) (hf2:fr<n) :
  Calls Tryz.prog 116 #[.slice a n cap,.int .i64 fr,.int .i64 router] w fun e w'=>e=.returned (.bool (thru rs router (n+1) fr))∧Below w.heap.size w w' := by
 have HR:=hid hr
 have HV:=hid hv
 clear hr hv
 obtain ⟨m0,rfl⟩:∃ m:Nat,fr=(m:Int):=⟨fr.toNat,by omega⟩
 obtain ⟨T,hT⟩:∃ T,thru rs router (n+1) (m0:Int)=T:=⟨_,rfl⟩
 have HT:=hid hT
 rw [hT]
 clear hT
 go_enter Tryz.func116,Tryz.ntmps116
 go_wp2
 go_loopw [8,7] (fun i v wr=>∃ k m:Nat,k≤n+1∧m<n∧i=.int .i64 k∧v=.int .i64 m∧Below w.heap.size w wr∧thru rs router (n+1 - k) (m:Int)=T) (fun i _ _=>n+1 - (intOf i).toNat)
 case atStart=>exact ⟨0,m0,Nat.zero_le _,by omega,rfl,rfl,Bl,HT.out⟩
 case round =>
  obtain ⟨k,m,hk,hm,rfl,rfl,hb,ht⟩:=hrel
  have HB:=hid hb
  have HU:=hid ht
  clear hb ht HT
  by_cases hlt:k≤n
  · have HU2 : Hid ((if (m : Int) = router then true else if (m : Int) < 0 then false else if (rs m).via < 0 then false else thru rs router (n - k) (rs m).via) = T) := hid (by
     have h:=HU.out
     rw [show n+1 - k=n - k+1 from by omega] at h
     exact h)
    have HVm:=hid (HV.out m hm)
    obtain ⟨b0,off,rfl,c0,c1,c2,c3⟩:=HR.out.at4 hm
    replace c0:=keep HB.out c0
    replace c1:=keep HB.out c1
    replace c2:=keep HB.out c2
    replace c3:=keep HB.out c3
    generalize (rs m).via=y at *
    generalize (rs m).pref=y1 at *
    generalize (rs m).len=y2 at *
    generalize (rs m).mark=y3 at *
    clear HU
    by_cases h1:(m:Int)=router
    · have e1:((m:Int) == router)=true:=by simp [h1]
      have HT2:=HU2.out
      rw [if_pos h1] at HT2
      subst HT2
      clear h1 HU2
      go_wp2
      go_ret
      exact ⟨rfl,Bl⟩
    have e1:((m:Int) == router)=false:=by simp [h1]
    have e2:decide ((m:Int)<0)=false:=decide_eq_false (by omega)
    have HU3:=HU2.out
    rw [if_neg h1,if_neg (by omega)] at HU3
    clear h1 HU2
    by_cases h2:y<0
    · have e3:decide (y<0)=true:=decide_eq_true h2
      rw [if_pos h2] at HU3
      subst HU3
      clear h2
      go_wp2
      go_ret
      exact ⟨rfl,HB.out.trans (by first|exact Below.refl _ _|exact Bl)⟩
    · have e3:decide (y<0)=false:=decide_eq_false h2
      rw [if_neg h2] at HU3
      have HU4:=hid HU3
      clear HU3
      obtain ⟨m1,rfl⟩:∃ q:Nat,y=(q:Int):=⟨y.toNat,by omega⟩
      clear h2
      go_wp2
      go_roundw
      case rel=>exact ⟨k+1,m1,by omega,by have:=HVm.out;omega,by go_num,rfl,Bl,by rw [show n+1 - (k+1)=n - k from by omega];exact HU4.out⟩
      case measure=>simp [intOf];omega
  · have e:k=n+1:=by omega
    subst e
    have HT2:=HU.out
    rw [Nat.sub_self] at HT2
    have HT3:true=T:=HT2
    subst HT3
    have e1:decide (((n+1:Nat):Int)≤(n:Int))=false:=decide_eq_false (by omega)
    clear HT2 HU hlt
    go_wp2
    go_ret
    exact ⟨rfl,HB.out⟩
end Go.Proofs.YthompjbplddkgaaGreatDoor.candWay
namespace Go.Proofs.YthompjbplddkgaaGreatDoor.satSpec
open Go.RowKit Go.Deep base copy candSem
def arrB (oc : Int) : Bool := oc == 1 || oc == 2
def satB (kind way oc : Int) (zs : List Int) : Bool :=
 if kind=1 then arrB oc else if kind=2 then !arrB oc else if kind=3 then (!arrB oc || decide (0≤hasAt zs way)) else oc == 1
set_option maxRecDepth 100000 in
set_option maxHeartbeats 6400000 in
theorem sat_spec (kind fr port way oc:Int) (a:Option Addr) (len cap:Nat) (zs:List Int) (w:World) (h:IntRow w a len zs) :
  Calls Tryz.prog 81 #[.agg #[.int .i64 kind,.int .i64 fr,.int .i64 port,.int .i64 way],.agg #[.int .i64 oc,.slice a len cap]] w fun e w'=>e=.returned (.bool (satB kind way oc zs))∧Below w.heap.size w w' := by
 have hBB:Below w.heap.size w ((w.alloc (.cells #[.int .i64 kind,.int .i64 fr,.int .i64 port,.int .i64 way] 33)).alloc (.cells #[.int .i64 oc,.slice a len cap] 119)):=Bl
 have HBB:=hid hBB
 have HR:=hid (h.below hBB)
 clear h hBB
 obtain ⟨S,hS⟩:∃ S,satB kind way oc zs=S:=⟨_,rfl⟩
 rw [hS]
 have HS:=hid hS
 clear hS
 obtain ⟨H,hH⟩:∃ H,hasAt zs way=H:=⟨_,rfl⟩
 have HH:=hid hH
 clear hH
 by_cases ha:arrB oc=true
 · have HA:=hid ha
   have ho:(oc == 1)=true∨(oc == 1)=false∧(oc == 2)=true:=by
    unfold arrB at ha
    cases hx:(oc == 1)
    · rw [hx] at ha;exact .inr ⟨rfl,by simpa using ha⟩
    · exact .inl rfl
   clear ha
   rcases ho with ho1|⟨ho1,ho2⟩
   all_goals
    by_cases hk1:kind=1
    · have e:S=true:=by rw [← HS.out];unfold satB;rw [if_pos hk1,HA.out]
      subst e
      subst hk1
      go_enter Tryz.func81,Tryz.ntmps81
      go_wp2_with fail
      go_ret
      exact ⟨rfl,HBB.out⟩
    · by_cases hk2:kind=2
      · have e:S=false:=by rw [← HS.out];unfold satB;rw [if_neg hk1,if_pos hk2,HA.out];rfl
        subst e
        subst hk2
        go_enter Tryz.func81,Tryz.ntmps81
        go_wp2_with fail
        go_ret
        exact ⟨rfl,HBB.out⟩
      · by_cases hk3:kind=3
        · have e:S=decide (0≤H):=by rw [← HS.out,← HH.out];unfold satB;rw [if_neg hk1,if_neg hk2,if_pos hk3,HA.out];rfl
          subst e
          subst hk3
          clear hk1 hk2
          go_enter Tryz.func81,Tryz.ntmps81
          go_wp2_with fail
          refine (candWay.has_spec a len cap zs way _ HR.out).mono ?_
          rintro e' w1 ⟨rfl,rfl⟩
          rw [HH.out]
          go_wp2_with fail
          go_ret
          exact ⟨rfl,HBB.out⟩
        · have e:S=(oc == 1):=by rw [← HS.out];unfold satB;rw [if_neg hk1,if_neg hk2,if_neg hk3]
          have g1:(kind == 1)=false:=by simpa using hk1
          have g2:(kind == 2)=false:=by simpa using hk2
          have g3:(kind == 3)=false:=by simpa using hk3
          have HE:=hid e
          clear e
          go_enter Tryz.func81,Tryz.ntmps81
          go_wp2_with fail
          go_ret
          exact ⟨by rw [HE.out];first|rfl|simp_all,HBB.out⟩
 · have HA:Hid (arrB oc=false):=hid (by simpa using ha)
   have ho1:(oc == 1)=false:=by unfold arrB at ha;simp at ha;simpa using ha.1
   have ho2:(oc == 2)=false:=by unfold arrB at ha;simp at ha;simpa using ha.2
   clear ha
   by_cases hk1:kind=1
   · have e:S=false:=by rw [← HS.out];unfold satB;rw [if_pos hk1,HA.out]
     subst e
     subst hk1
     go_enter Tryz.func81,Tryz.ntmps81
     go_wp2_with fail
     go_ret
     exact ⟨rfl,HBB.out⟩
   · by_cases hk2:kind=2
     · have e:S=true:=by rw [← HS.out];unfold satB;rw [if_neg hk1,if_pos hk2,HA.out];rfl
       subst e
       subst hk2
       go_enter Tryz.func81,Tryz.ntmps81
       go_wp2_with fail
       go_ret
       exact ⟨rfl,HBB.out⟩
     · by_cases hk3:kind=3
       · have e:S=true:=by rw [← HS.out];unfold satB;rw [if_neg hk1,if_neg hk2,if_pos hk3,HA.out];rfl
         subst e
         subst hk3
         clear hk1 hk2
         go_enter Tryz.func81,Tryz.ntmps81
         go_wp2_with fail
         go_ret
         exact ⟨rfl,HBB.out⟩
       · have e:S=(oc == 1):=by rw [← HS.out];unfold satB;rw [if_neg hk1,if_neg hk2,if_neg hk3]
         have g1:(kind == 1)=false:=by simpa using hk1
         have g2:(kind == 2)=false:=by simpa using hk2
         have g3:(kind == 3)=false:=by simpa using hk3
         have HE:=hid e
         clear e
         go_enter Tryz.func81,Tryz.ntmps81
         go_wp2_with fail
         go_ret
         exact ⟨by rw [HE.out];first|rfl|simp_all,HBB.out⟩
end Go.Proofs.YthompjbplddkgaaGreatDoor.satSpec
