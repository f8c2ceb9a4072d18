import Derived.Test.YtcfnohiboknfoaaGreatPart7
import Derived.Lib.SlicesCompact
set_option linter.unusedVariables false
namespace Go.Proofs.YtcfnohiboknfoaaGreat.rtsRow
open Go.RowKit Go.Deep Go base netSem nbSem intsOwn routeRow candSem
def rF (zs : List Rt) (i : Nat) : Rt := zs[i]?.getD noRt
theorem flat_at (zs:List Rt) (i j:Nat) (hi:i<zs.length) (hj:j<4):(zs.flatMap rcs)[i*4+j]? = some (rc (rF zs i) j):=by
 induction zs generalizing i with
 | nil=>exact absurd hi (Nat.not_lt_zero _)
 | cons a zs ih =>
  simp only [List.flatMap_cons]
  match i with
  | 0 =>
   rw [List.getElem?_append_left (by simp [rcs];omega)]
   match j,hj with
   | 0,_=>simp [rcs,rc,rF]
   | 1,_=>simp [rcs,rc,rF]
   | 2,_=>simp [rcs,rc,rF]
   | 3,_=>simp [rcs,rc,rF]
   | j+4,hj=>exact absurd hj (by omega)
  | i+1 =>
   rw [List.getElem?_append_right (by simp [rcs];omega),show (i+1)*4+j - (rcs a).length=i*4+j by simp [rcs];omega]
   rw [ih i (by simp only [List.length_cons] at hi;omega)]
   simp [rF]
theorem rts_form {B:Nat} {w:World} {v:Value} {zs:List Rt} (h:OwnRts B w v zs):∃ a c,v=.slice a zs.length c∧RtRow w a zs.length (rF zs):=by
 obtain ⟨h1,h2⟩:=h
 rcases h2 with ⟨rfl,h0⟩|⟨g,cap,cur,rfl,hb,hh,hc,hm,hs,ht⟩
 · rw [h0]
   exact ⟨none,0,rfl,by unfold maxLen;omega,fun i hi=>absurd hi (Nat.not_lt_zero _)⟩
 refine ⟨some ⟨g,0,none⟩,cap,rfl,Nat.le_trans hc hm,fun i hi=>⟨g,0,rfl,fun j hj=>?_⟩⟩
 have h7:=flat_at zs i j hi hj
 rw [← ht,List.getElem?_take_of_lt (by omega)] at h7
 rw [Nat.zero_add]
 simp only [World.cell?,hh]
 simpa using h7
theorem rts_row {B:Nat} {w:World} {a:Option Addr} {n c:Nat} {zs:List Rt} (h:OwnRts B w (.slice a n c) zs):RtRow w a n (rF zs):=by
 obtain ⟨a',c',e,hr⟩:=rts_form h
 have e1:a=a' := by injection e
 have e2:n=zs.length:=by injection e
 subst e1 e2
 exact hr
theorem rts_blocks {B:Nat} {w w1:World} {v:Value} {zs:List Rt} (h:OwnRts B w v zs) (hb:∀ g,v.ownBlock=some g→g<w.heap.size→w1.heap[g]? = w.heap[g]?):OwnRts B w1 v zs:=by
 obtain ⟨h1,h2⟩:=h
 refine ⟨h1,?_⟩
 rcases h2 with h2|⟨g,cap,cur,rfl,hgB,hh,hn⟩
 · exact .inl h2
 exact .inr ⟨g,cap,cur,rfl,hgB,(hb g rfl (Array.getElem?_eq_some_iff.1 hh).1).trans hh,hn⟩
theorem rts_keeps {B:Nat} {w w1:World} {v:Value} {zs:List Rt} {row:Option Nat} (h:OwnRts B w v zs) (hg:w.grownBy w1 row) (hne:∀ g,v.ownBlock=some g→some g≠row):OwnRts B w1 v zs:=rts_blocks h fun g e hgl=>hg.block g hgl (hne g e)
theorem rts_lt {B g:Nat} {w:World} {v:Value} {zs:List Rt} (h:OwnRts B w v zs) (hg:v.ownBlock=some g):B≤g∧g<w.heap.size:=World.ownsRow.lt h g hg
def bst (zs : List Rt) : Rt := if zs.length=0 then noRt else bestTo (rF zs) (zs.length - 1)
theorem bst_nil {zs:List Rt} (h:zs.length=0):bst zs=noRt:=by unfold bst;rw [if_pos h]
theorem bst_some {zs:List Rt} (h:0<zs.length):bst zs=bestTo (rF zs) (zs.length - 1):=by unfold bst;rw [if_neg (by omega)]
end Go.Proofs.YtcfnohiboknfoaaGreat.rtsRow
namespace Go.Proofs.YtcfnohiboknfoaaGreat.order
open Go.Lib
def rk (l : Int) : Int := if l<0 then -2*l+1 else 2*l
def SS (r : List Int) : Prop := r.Pairwise (fun x y=>rk x<rk y)
theorem SS.uniq : ∀ {a b:List Int},SS a→SS b→(∀ x,x∈a ↔ x∈b)→a=b
 | [],[],_,_,_=>rfl
 | [],y::b,_,_,h=>absurd ((h y).2 (List.mem_cons_self ..)) (by simp)
 | x::a,[],_,_,h=>absurd ((h x).1 (List.mem_cons_self ..)) (by simp)
 | x::a,y::b,ha,hb,h=>by
  have ha' := List.pairwise_cons.1 ha
  have hb' := List.pairwise_cons.1 hb
  have e:x=y:=by
   rcases List.mem_cons.1 ((h x).1 (List.mem_cons_self ..)) with e|hx
   · exact e
   rcases List.mem_cons.1 ((h y).2 (List.mem_cons_self ..)) with e|hy
   · exact e.symm
   have h1:=hb'.1 x hx
   have h2:=ha'.1 y hy
   omega
  subst e
  have ht:a=b:=SS.uniq ha'.2 hb'.2 (fun z=>by
   have hz:=h z
   simp only [List.mem_cons] at hz
   constructor
   · intro hm
     rcases hz.1 (.inr hm) with rfl|h2
     · have:=ha'.1 z hm;omega
     exact h2
   intro hm
   rcases hz.2 (.inr hm) with rfl|h2
   · have:=hb'.1 z hm;omega
   exact h2)
  rw [ht]
end Go.Proofs.YtcfnohiboknfoaaGreat.order
namespace Go.Proofs.YtcfnohiboknfoaaGreat.compare
open Go.RowKit Go.Deep base order
def sgn (x y : Int) : Int := if x<y then -1 else if y<x then 1 else 0
set_option maxHeartbeats 400000 in
theorem cmp_int (x y:Int) (w:World) :
  Calls Tryz.prog 138 #[.int .i64 x,.int .i64 y] w fun e w'=>e=.returned (.int .i64 (sgn x y))∧w' = w:=by
 rcases Int.lt_trichotomy x y with h|h|h
 · have e:sgn x y = -1:=by unfold sgn;rw [if_pos h]
   rw [e]
   clear e
   go_enter Tryz.func138,Tryz.ntmps138
   go_wp2
   go_ret
   exact ⟨rfl,rfl⟩
 · subst h
   have e:sgn x x=0:=by unfold sgn;rw [if_neg (by omega),if_neg (by omega)]
   rw [e]
   clear e
   go_enter Tryz.func138,Tryz.ntmps138
   go_wp2
   go_ret
   exact ⟨rfl,rfl⟩
 have e:sgn x y=1:=by unfold sgn;rw [if_neg (by omega),if_pos h]
 rw [e]
 clear e
 go_enter Tryz.func138,Tryz.ntmps138
 go_wp2
 go_ret
 exact ⟨rfl,rfl⟩
end Go.Proofs.YtcfnohiboknfoaaGreat.compare
namespace Go.Proofs.YtcfnohiboknfoaaGreat.bestRoute
open Go.RowKit Go.Deep base routeRow compare drawn heldStore
def zeroRt : Rt := ⟨0,0,0,false⟩
set_option maxHeartbeats 400000 in
theorem better_spec (x0 x1 x2 y0 y1 y2:Int) (x3 y3:Bool) (w:World) :
  Calls Tryz.prog 144 #[.agg #[.int .i64 x0,.int .i64 x1,.int .i64 x2,.bool x3],.agg #[.int .i64 y0,.int .i64 y1,.int .i64 y2,.bool y3]] w fun e w'=>e=.returned (.bool (better ⟨x0,x1,x2,x3⟩ ⟨y0,y1,y2,y3⟩))∧Below w.heap.size w w' := by
 obtain ⟨r,hr⟩:∃ r,better ⟨x0,x1,x2,x3⟩ ⟨y0,y1,y2,y3⟩=r:=⟨_,rfl⟩
 rw [hr]
 unfold better at hr
 simp only at hr
 by_cases h1:x1=y1
 · rw [if_pos h1] at hr
   by_cases h2:x2=y2
   · rw [if_pos h2] at hr
     have n1:(x1 != y1)=false:=by simp [h1]
     have n2:(x2 != y2)=false:=by simp [h2]
     clear h1 h2
     go_enter Tryz.func144,Tryz.ntmps144
     go_wp2
     go_ret
     first|exact ⟨ret_bool hr,Bl⟩|exact ⟨rfl,Bl⟩
   rw [if_neg h2] at hr
   have n1:(x1 != y1)=false:=by simp [h1]
   have n2:(x2 != y2)=true:=by simp [h2]
   clear h1 h2
   go_enter Tryz.func144,Tryz.ntmps144
   go_wp2
   go_ret
   first|exact ⟨ret_bool hr,Bl⟩|exact ⟨rfl,Bl⟩
 rw [if_neg h1] at hr
 have n1:(x1 != y1)=true:=by simp [h1]
 clear h1
 go_enter Tryz.func144,Tryz.ntmps144
 go_wp2
 go_ret
 first|exact ⟨ret_bool hr,Bl⟩|exact ⟨rfl,Bl⟩
theorem or_int (a b c:Int) (B:Nat) (w:World) (h0:w.cell? ⟨B,0,none⟩=some (.int .i64 a)) (h1:w.cell? ⟨B,1,none⟩=some (.int .i64 b)) (h2:w.cell? ⟨B,2,none⟩=some (.int .i64 c)) (cap:Nat) :
  Calls Tryz.prog 137 #[.slice (some ⟨B,0,none⟩) 3 cap] w fun e w'=>e=.returned (.int .i64 (if a=0 then (if b=0 then c else b) else a))∧w' = w:=by
 obtain ⟨r,hr⟩:∃ r,(if a=0 then (if b=0 then c else b) else a)=r:=⟨_,rfl⟩
 rw [hr]
 have HR:=hid hr
 clear hr
 go_enter Tryz.func137,Tryz.ntmps137
 go_wp2
 go_loop [8] (fun i=>∃ k:Nat,k≤3∧i=.int .i64 k∧(0<k→a=0)∧(1<k→b=0)∧(2<k→c=0)) (fun i=>3 - (intOf i).toNat)
 case atStart=>exact ⟨0,by omega,rfl,by omega,by omega,by omega⟩
 obtain ⟨k,hk,rfl,ha,hb,hc⟩:=hrel
 obtain rfl|rfl|rfl|rfl:k=0∨k=1∨k=2∨k=3:=by omega
 · clear ha hb hc
   by_cases e:a=0
   · have n:(a != 0)=false:=by simp [e]
     have E:=hid e
     clear e
     go_wp2
     go_round
     case rel=>exact ⟨1,by omega,rfl,fun _=>E.out,by omega,by omega⟩
     case measure=>simp [intOf]
   have n:(a != 0)=true:=by simp [e]
   have E:=hid e
   clear e
   go_wp2
   go_ret
   exact ⟨ret_int (by rw [← HR.out,if_neg E.out]),rfl⟩
 · have A:=hid (ha (by omega))
   clear ha hb hc
   by_cases e:b=0
   · have n:(b != 0)=false:=by simp [e]
     have E:=hid e
     clear e
     go_wp2
     go_round
     case rel=>exact ⟨2,by omega,rfl,fun _=>A.out,fun _=>E.out,by omega⟩
     case measure=>simp [intOf]
   have n:(b != 0)=true:=by simp [e]
   have E:=hid e
   clear e
   go_wp2
   go_ret
   exact ⟨ret_int (by rw [← HR.out,if_pos A.out,if_neg E.out]),rfl⟩
 · have A:=hid (ha (by omega))
   have B' := hid (hb (by omega))
   clear ha hb hc
   by_cases e:c=0
   · have n:(c != 0)=false:=by simp [e]
     have E:=hid e
     clear e
     go_wp2
     go_round
     case rel=>exact ⟨3,by omega,rfl,fun _=>A.out,fun _=>B'.out,fun _=>E.out⟩
     case measure=>simp [intOf]
   have n:(c != 0)=true:=by simp [e]
   have E:=hid e
   clear e
   go_wp2
   go_ret
   exact ⟨ret_int (by rw [← HR.out,if_pos A.out,if_pos B'.out]),rfl⟩
 have A:=hid (ha (by omega))
 have B' := hid (hb (by omega))
 have C:=hid (hc (by omega))
 clear ha hb hc
 go_wp2
 go_ret
 exact ⟨ret_int (by rw [← HR.out,if_pos A.out,if_pos B'.out,C.out]),rfl⟩
def first (a b : Rt) : Int := if sgn b.pref a.pref=0 then (if sgn a.len b.len=0 then sgn a.via b.via else sgn a.len b.len) else sgn b.pref a.pref
theorem sgn_zero {x y : Int} : sgn x y=0 ↔ x=y := by
 unfold sgn
 split
 · omega
 split <;> omega
theorem sgn_neg {x y : Int} : sgn x y<0 ↔ x<y := by
 unfold sgn
 split
 · omega
 split <;> omega
theorem first_neg (a b:Rt):decide (first a b<0)=better a b:=by
 unfold first better
 by_cases h1:a.pref=b.pref
 · rw [if_pos (sgn_zero.2 h1.symm),if_pos h1]
   by_cases h2:a.len=b.len
   · rw [if_pos (sgn_zero.2 h2),if_pos h2,decide_eq_decide];exact sgn_neg
   rw [if_neg (fun e=>h2 (sgn_zero.1 e)),if_neg h2,decide_eq_decide];exact sgn_neg
 rw [if_neg (fun e=>h1 (sgn_zero.1 e).symm),if_neg h1,decide_eq_decide];exact sgn_neg
set_option maxHeartbeats 800000 in
set_option maxRecDepth 8000 in
theorem first_impl (x0 x1 x2 y0 y1 y2:Int) (x3 y3:Bool) (w:World) :
  Calls Tryz.prog 115 #[.agg #[.int .i64 x0,.int .i64 x1,.int .i64 x2,.bool x3],.agg #[.int .i64 y0,.int .i64 y1,.int .i64 y2,.bool y3]] w fun e w'=>e=.returned (.int .i64 (first ⟨x0,x1,x2,x3⟩ ⟨y0,y1,y2,y3⟩))∧Below w.heap.size w w' := by
 obtain ⟨r,hr⟩:∃ r,first ⟨x0,x1,x2,x3⟩ ⟨y0,y1,y2,y3⟩=r:=⟨_,rfl⟩
 rw [hr]
 unfold first at hr
 simp only at hr
 have HR:=hid hr
 have H1:=hid (cmp_int y1 x1)
 have H2:=hid (cmp_int x2 y2)
 have H3:=hid (cmp_int x0 y0)
 clear hr
 generalize sgn y1 x1=s1 at *
 generalize sgn x2 y2=s2 at *
 generalize sgn x0 y0=s3 at *
 go_enter Tryz.func115,Tryz.ntmps115
 go_wp2_with fail
 obtain ⟨W8,hW8⟩:∃ W,((w.alloc (.cells #[.int .i64 x0,.int .i64 x1,.int .i64 x2,.bool x3] 106)).alloc (.cells #[.int .i64 y0,.int .i64 y1,.int .i64 y2,.bool y3] 106))=W:=⟨_,rfl⟩
 have HC:Hid (W8.cell? ⟨w.heap.size,0,none⟩=some (.int .i64 x0)∧W8.cell? ⟨w.heap.size,1,none⟩=some (.int .i64 x1)∧W8.cell? ⟨w.heap.size,2,none⟩=some (.int .i64 x2)∧W8.cell? ⟨w.heap.size+1,0,none⟩=some (.int .i64 y0)∧W8.cell? ⟨w.heap.size+1,1,none⟩=some (.int .i64 y1)∧W8.cell? ⟨w.heap.size+1,2,none⟩=some (.int .i64 y2)):=hid (by rw [← hW8];refine ⟨?_,?_,?_,?_,?_,?_⟩ <;> simp [go_sem])
 have HB:Hid (Below w.heap.size w W8):=hid (by rw [← hW8];exact Bl)
 rw [hW8]
 clear hW8
 -- region of betterFirst
 refine region_below (fun u=>⟨#[.agg #[.int .i64 x0,.int .i64 x1,.int .i64 x2,.bool x3],.agg #[.int .i64 y0,.int .i64 y1,.int .i64 y2,.bool y3],.pointer (some ⟨w.heap.size,0,none⟩),.pointer (some ⟨w.heap.size+1,0,none⟩),.int .i64 0,u 5,u 6,u 7,u 8,u 9,u 10,u 11,u 12,u 13,u 14,u 15,u 16,u 17,u 18,u 19,u 20,u 21],[]⟩) (fun i=>[5,6,7,8,9,10,11,12,13,14,15,16,17,18,19,20,21].getD i 0) (fun i v w8=>match i with|0=>v=.pointer (some ⟨w.heap.size+1,1,none⟩)|1=>v=.int .i64 y1|2=>v=.pointer (some ⟨w.heap.size,1,none⟩)|3=>v=.int .i64 x1|4=>v=.int .i64 s1|5=>v=.pointer (some ⟨w.heap.size,2,none⟩)|6=>v=.int .i64 x2|7=>v=.pointer (some ⟨w.heap.size+1,2,none⟩)|8=>v=.int .i64 y2|9=>v=.int .i64 s2|10=>v=.pointer (some ⟨w.heap.size,0,none⟩)|11=>v=.int .i64 x0|12=>v=.pointer (some ⟨w.heap.size+1,0,none⟩)|13=>v=.int .i64 y0|14=>v=.int .i64 s3|15=>∃ N,v=.slice (some ⟨N,0,none⟩) 3 3∧w8.cell? ⟨N,0,none⟩=some (.int .i64 s1)∧w8.cell? ⟨N,1,none⟩=some (.int .i64 s2)∧w8.cell? ⟨N,2,none⟩=some (.int .i64 s3)|16=>v=.int .i64 r|_=>True) W8 17 (fun k=>match k with|5=>undef|6=>undef|7=>undef|8=>undef|9=>undef|10=>undef|11=>undef|12=>undef|13=>undef|14=>undef|15=>undef|16=>undef|17=>undef|18=>undef|19=>undef|20=>undef|21=>undef|_=>undef) (by rfl) (by kernel_rfl) (by rfl) ⟨by kernel_rfl,by kernel_rfl,by kernel_rfl,by decide⟩ (by kernel_rfl) Bz ?hput ?hinj ?stable ?step ?last
 case hput =>
  intro i hi u v
  match i,hi with
  | 0,_=>rfl
  | 1,_=>rfl
  | 2,_=>rfl
  | 3,_=>rfl
  | 4,_=>rfl
  | 5,_=>rfl
  | 6,_=>rfl
  | 7,_=>rfl
  | 8,_=>rfl
  | 9,_=>rfl
  | 10,_=>rfl
  | 11,_=>rfl
  | 12,_=>rfl
  | 13,_=>rfl
  | 14,_=>rfl
  | 15,_=>rfl
  | 16,_=>rfl
  | i+17,hi=>exact absurd hi (by omega)
 case hinj =>
  intro i j hi hj h
  exact slots_inj [5,6,7,8,9,10,11,12,13,14,15,16,17,18,19,20,21] (by decide) hi hj h
 case stable =>
  intro i v w8 w9 hb h
  match i,h with
  | 0,h=>exact h
  | 1,h=>exact h
  | 2,h=>exact h
  | 3,h=>exact h
  | 4,h=>exact h
  | 5,h=>exact h
  | 6,h=>exact h
  | 7,h=>exact h
  | 8,h=>exact h
  | 9,h=>exact h
  | 10,h=>exact h
  | 11,h=>exact h
  | 12,h=>exact h
  | 13,h=>exact h
  | 14,h=>exact h
  | 15,h=>obtain ⟨N,e,h0,h1,h2⟩:=h;exact ⟨N,e,keep hb h0,keep hb h1,keep hb h2⟩
  | 16,h=>exact h
  | _+17,h=>trivial
 case step =>
  intro i hi u w8 S8 hdep
  match i,hi with
  | 0,_ =>
   clear hdep
   refine ⟨_,rfl,fun K' hK=>?_⟩
   go_simp
   exact hK.out _ _ Bz rfl
  | 1,_ =>
   have h0:(u 5)=.pointer (some ⟨w.heap.size+1,1,none⟩):=hdep 0 (by kernel_rfl)
   clear hdep
   refine ⟨_,rfl,fun K' hK=>?_⟩
   have q:=keep S8 HC.out.2.2.2.2.1
   simp only [h0] at hK ⊢
   go_simp
   exact hK.out _ _ Bz rfl
  | 2,_ =>
   clear hdep
   refine ⟨_,rfl,fun K' hK=>?_⟩
   go_simp
   exact hK.out _ _ Bz rfl
  | 3,_ =>
   have h2:(u 7)=.pointer (some ⟨w.heap.size,1,none⟩):=hdep 2 (by kernel_rfl)
   clear hdep
   refine ⟨_,rfl,fun K' hK=>?_⟩
   have q:=keep S8 HC.out.2.1
   simp only [h2] at hK ⊢
   go_simp
   exact hK.out _ _ Bz rfl
  | 4,_ =>
   have h1:(u 6)=.int .i64 y1:=hdep 1 (by kernel_rfl)
   have h3:(u 8)=.int .i64 x1:=hdep 3 (by kernel_rfl)
   clear hdep
   refine ⟨_,rfl,fun K' hK=>?_⟩
   simp only [h1,h3] at hK ⊢
   go_simp
   refine (H1.out _).mono ?_
   rintro e w9 ⟨rfl,hw⟩
   have hw:=hw.symm
   subst hw
   exact hK.out _ _ Bz rfl
  | 5,_ =>
   clear hdep
   refine ⟨_,rfl,fun K' hK=>?_⟩
   go_simp
   exact hK.out _ _ Bz rfl
  | 6,_ =>
   have h5:(u 10)=.pointer (some ⟨w.heap.size,2,none⟩):=hdep 5 (by kernel_rfl)
   clear hdep
   refine ⟨_,rfl,fun K' hK=>?_⟩
   have q:=keep S8 HC.out.2.2.1
   simp only [h5] at hK ⊢
   go_simp
   exact hK.out _ _ Bz rfl
  | 7,_ =>
   clear hdep
   refine ⟨_,rfl,fun K' hK=>?_⟩
   go_simp
   exact hK.out _ _ Bz rfl
  | 8,_ =>
   have h7:(u 12)=.pointer (some ⟨w.heap.size+1,2,none⟩):=hdep 7 (by kernel_rfl)
   clear hdep
   refine ⟨_,rfl,fun K' hK=>?_⟩
   have q:=keep S8 HC.out.2.2.2.2.2
   simp only [h7] at hK ⊢
   go_simp
   exact hK.out _ _ Bz rfl
  | 9,_ =>
   have h6:(u 11)=.int .i64 x2:=hdep 6 (by kernel_rfl)
   have h8:(u 13)=.int .i64 y2:=hdep 8 (by kernel_rfl)
   clear hdep
   refine ⟨_,rfl,fun K' hK=>?_⟩
   simp only [h6,h8] at hK ⊢
   go_simp
   refine (H2.out _).mono ?_
   rintro e w9 ⟨rfl,hw⟩
   have hw:=hw.symm
   subst hw
   exact hK.out _ _ Bz rfl
  | 10,_ =>
   clear hdep
   refine ⟨_,rfl,fun K' hK=>?_⟩
   go_simp
   exact hK.out _ _ Bz rfl
  | 11,_ =>
   have h10:(u 15)=.pointer (some ⟨w.heap.size,0,none⟩):=hdep 10 (by kernel_rfl)
   clear hdep
   refine ⟨_,rfl,fun K' hK=>?_⟩
   have q:=keep S8 HC.out.1
   simp only [h10] at hK ⊢
   go_simp
   exact hK.out _ _ Bz rfl
  | 12,_ =>
   clear hdep
   refine ⟨_,rfl,fun K' hK=>?_⟩
   go_simp
   exact hK.out _ _ Bz rfl
  | 13,_ =>
   have h12:(u 17)=.pointer (some ⟨w.heap.size+1,0,none⟩):=hdep 12 (by kernel_rfl)
   clear hdep
   refine ⟨_,rfl,fun K' hK=>?_⟩
   have q:=keep S8 HC.out.2.2.2.1
   simp only [h12] at hK ⊢
   go_simp
   exact hK.out _ _ Bz rfl
  | 14,_ =>
   have h11:(u 16)=.int .i64 x0:=hdep 11 (by kernel_rfl)
   have h13:(u 18)=.int .i64 y0:=hdep 13 (by kernel_rfl)
   clear hdep
   refine ⟨_,rfl,fun K' hK=>?_⟩
   simp only [h11,h13] at hK ⊢
   go_simp
   refine (H3.out _).mono ?_
   rintro e w9 ⟨rfl,hw⟩
   have hw:=hw.symm
   subst hw
   exact hK.out _ _ Bz rfl
  | 15,_ =>
   have h4:(u 9)=.int .i64 s1:=hdep 4 (by kernel_rfl)
   have h9:(u 14)=.int .i64 s2:=hdep 9 (by kernel_rfl)
   have h14:(u 19)=.int .i64 s3:=hdep 14 (by kernel_rfl)
   clear hdep
   refine ⟨_,rfl,fun K' hK=>?_⟩
   simp only [h4,h9,h14] at hK ⊢
   go_simp
   exact hK.out _ _ Bl ⟨_,rfl,by simp [go_sem],by simp [go_sem],by simp [go_sem]⟩
  | 16,_ =>
   have h15:∃ N,(u 20)=.slice (some ⟨N,0,none⟩) 3 3∧w8.cell? ⟨N,0,none⟩=some (.int .i64 s1)∧w8.cell? ⟨N,1,none⟩=some (.int .i64 s2)∧w8.cell? ⟨N,2,none⟩=some (.int .i64 s3):=hdep 15 (by kernel_rfl)
   clear hdep
   refine ⟨_,rfl,fun K' hK=>?_⟩
   obtain ⟨N,e15,c0,c1,c2⟩:=h15
   simp only [e15] at hK ⊢
   go_simp
   refine (or_int s1 s2 s3 N _ c0 c1 c2 3).mono ?_
   rintro e w9 ⟨rfl,hw⟩
   have hw:=hw.symm
   subst hw
   exact hK.out _ _ Bz (by rw [HR.out])
  | i+17,hi=>exact absurd hi (by omega)
 case last =>
  intro u w8 S8 hall
  have h16:(u 21)=.int .i64 r:=hall 16 (by decide)
  clear hall
  refine ⟨_,rfl,fun K' hK=>?_⟩
  simp only [h16] at hK ⊢
  go_simp
  refine hK.out _ _ ?_
  have HS:=hid S8
  clear S8 hK K'
  go_wp2
  go_ret
  exact ⟨rfl,HB.out.trans (HS.out.mono HB.out.size)⟩
 -- end of the region
end Go.Proofs.YtcfnohiboknfoaaGreat.bestRoute
namespace Go.Proofs.YtcfnohiboknfoaaGreat.bestFace
open Go.RowKit Go.Deep base routeRow compare bestRoute
set_option maxHeartbeats 1600000 in
set_option maxRecDepth 8000 in
theorem min_impl (a:Option Addr) (len cap:Nat) (g:Rs) (w:World) (hr:RtRow w a len g) (h0:0<len) :
  Calls Tryz.prog 114 #[.slice a len cap,.func (.func 115) #[] #[]] w fun e w'=>e=.returned (rtV (bestTo g (len - 1)))∧Below w.heap.size w w' := by
 have HR:=hid hr
 have hmost:=hr.most
 unfold maxLen at hmost
 clear hr
 unfold rtV
 have i1:¬ (len:Int)<1:=by omega
 obtain ⟨b,off,rfl,c0,c1,c2,c3⟩:=HR.out.at0 (by omega)
 have hbs:=World.block_lt_of_cell? _ _ c0
 simp only at hbs
 go_enter Tryz.func114,Tryz.ntmps114
 go_wp2
 go_loopw [6] (fun i wr=>∃ k:Nat,1≤k∧k≤len∧i=.int .i64 k∧Below w.heap.size w wr∧wr.rowIs (w.heap.size+1) 106 4 (rc (bestTo g (k - 1)))∧wr.rowIs w.heap.size 106 4 (rc zeroRt)) (fun i _=>len - (intOf i).toNat)
 case atStart =>
  refine ⟨1,by omega,by omega,rfl,Bl,?_,?_⟩
  · have := World.rowIs_alloc (w.alloc (.cells #[.int .i64 0, .int .i64 0, .int .i64 0, .bool false] 106)) #[.int .i64 (g 0).via, .int .i64 (g 0).pref, .int .i64 (g 0).len, .bool (g 0).mark] 106 (rc (g 0)) (fun i hi => by
     match i,hi with
     | 0,_=>rfl
     | 1,_=>rfl
     | 2,_=>rfl
     | 3,_=>rfl
     | i+4,hi=>exact absurd hi (by simp))
    rw [World.size_alloc] at this
    exact this
  refine World.rowIs.of_block (World.rowIs_alloc w #[.int .i64 0,.int .i64 0,.int .i64 0,.bool false] 106 (rc zeroRt) (fun i hi=>by
   match i,hi with
   | 0,_=>rfl
   | 1,_=>rfl
   | 2,_=>rfl
   | 3,_=>rfl
   | i+4,hi=>exact absurd hi (by simp))) ?_
  exact Below.block (B:=w.heap.size+1) (Bz.alloc (by first|exact Nat.le_refl _|(rw [World.size_alloc];exact Nat.le_refl _)) _) _ (by omega)
 obtain ⟨k,hk1,hk,rfl,hbel,hro,rb⟩:=hrel
 have HB:=hid hbel
 have HO:=hid hro
 have HRB:=hid rb
 have hsz:=hbel.size
 have hlo:=World.rowIs.lt hro
 have hd0:wr.cell? ⟨w.heap.size+1,0,none⟩=some (.int .i64 (bestTo g (k - 1)).via):=World.rowIs.cell hro (i:=0) (by omega)
 have hd1:wr.cell? ⟨w.heap.size+1,1,none⟩=some (.int .i64 (bestTo g (k - 1)).pref):=World.rowIs.cell hro (i:=1) (by omega)
 have hd2:wr.cell? ⟨w.heap.size+1,2,none⟩=some (.int .i64 (bestTo g (k - 1)).len):=World.rowIs.cell hro (i:=2) (by omega)
 have hd3:wr.cell? ⟨w.heap.size+1,3,none⟩=some (.bool (bestTo g (k - 1)).mark):=World.rowIs.cell hro (i:=3) (by omega)
 by_cases hlt:k<len
 · obtain ⟨b',off',hae,hc0,hc1,hc2,hc3⟩:=HR.out.at4 hlt
   injection hae with hae
   injection hae with e1 e2
   subst e1
   subst e2
   replace hc0:=keep hbel hc0
   replace hc1:=keep hbel hc1
   replace hc2:=keep hbel hc2
   replace hc3:=keep hbel hc3
   have HG:Hid (g k=⟨(g k).via,(g k).pref,(g k).len,(g k).mark⟩):=hid rfl
   have HY:Hid (bestTo g (k - 1)=⟨(bestTo g (k - 1)).via,(bestTo g (k - 1)).pref,(bestTo g (k - 1)).len,(bestTo g (k - 1)).mark⟩):=hid rfl
   clear hbel hro rb
   generalize (g k).via=x0 at *
   generalize (g k).pref=x1 at *
   generalize (g k).len=x2 at *
   generalize (g k).mark=x3 at *
   generalize (bestTo g (k - 1)).via=y0 at *
   generalize (bestTo g (k - 1)).pref=y1 at *
   generalize (bestTo g (k - 1)).len=y2 at *
   generalize (bestTo g (k - 1)).mark=y3 at *
   have HBY:Hid (better ⟨x0,x1,x2,x3⟩ ⟨y0,y1,y2,y3⟩=true→bestTo g k=⟨x0,x1,x2,x3⟩):=hid (fun h=>by
    obtain ⟨k',rfl⟩:∃ k',k=k' + 1:=⟨k - 1,by omega⟩
    rw [← HG.out]
    exact best_yes (by rw [HG.out];rw [Nat.add_sub_cancel] at HY;rw [HY.out];exact h))
   have HBN:Hid (better ⟨x0,x1,x2,x3⟩ ⟨y0,y1,y2,y3⟩=false→bestTo g k=⟨y0,y1,y2,y3⟩):=hid (fun h=>by
    obtain ⟨k',rfl⟩:∃ k',k=k' + 1:=⟨k - 1,by omega⟩
    rw [Nat.add_sub_cancel] at HY
    rw [← HY.out]
    exact best_no (by rw [HG.out,HY.out];exact h))
   have HK:Hid (∀ w8:World,Below wr.heap.size wr w8→w8.cell? ⟨b,off+k*4,none⟩=some (.int .i64 x0)∧w8.cell? ⟨b,off+k*4+1,none⟩=some (.int .i64 x1)∧w8.cell? ⟨b,off+k*4+2,none⟩=some (.int .i64 x2)∧w8.cell? ⟨b,off+k*4+3,none⟩=some (.bool x3)∧w8.cell? ⟨w.heap.size+1,0,none⟩=some (.int .i64 y0)∧w8.cell? ⟨w.heap.size+1,1,none⟩=some (.int .i64 y1)∧w8.cell? ⟨w.heap.size+1,2,none⟩=some (.int .i64 y2)∧w8.cell? ⟨w.heap.size+1,3,none⟩=some (.bool y3)∧Below wr.heap.size wr w8) :=
    fun w8 h=>⟨keep h hc0,keep h hc1,keep h hc2,keep h hc3,keep h hd0,keep h hd1,keep h hd2,keep h hd3,h⟩
   clear hc0 hc1 hc2 hc3 hd0 hd1 hd2 hd3
   go_wp2_with fail
   go_region_held3 (fun w8=>w8.cell? ⟨b,off+k*4,none⟩=some (.int .i64 x0)∧w8.cell? ⟨b,off+k*4+1,none⟩=some (.int .i64 x1)∧w8.cell? ⟨b,off+k*4+2,none⟩=some (.int .i64 x2)∧w8.cell? ⟨b,off+k*4+3,none⟩=some (.bool x3)∧w8.cell? ⟨w.heap.size+1,0,none⟩=some (.int .i64 y0)∧w8.cell? ⟨w.heap.size+1,1,none⟩=some (.int .i64 y1)∧w8.cell? ⟨w.heap.size+1,2,none⟩=some (.int .i64 y2)∧w8.cell? ⟨w.heap.size+1,3,none⟩=some (.bool y3)∧Below wr.heap.size wr w8)
    (refine HK.out _ (by first|assumption|exact (Below.refl _ wr).drew|exact hb57))
    ((go_at_call 115;refine (first_impl x0 x1 x2 y0 y1 y2 x3 y3 _).mono ?_;rintro e w7 ⟨rfl,hb7⟩;have hb57:Below wr.heap.size wr w7:=((Below.refl _ wr).drew).trans hb7;clear hb7))
   all_goals
    have HB5:=hid hb57
    obtain ⟨hc0,hc1,hc2,hc3,hd0,hd1,hd2,hd3,-⟩:=HK.out w7 hb57
    have hr7:=HO.out.of_block (hb57.block _ hlo)
    have HR7:=hid hr7
    have HRB7:=hid (HRB.out.of_block (HB5.out.block _ (World.rowIs.lt HRB.out)))
    have z0:=hr7.frozen 0
    have z1:=hr7.frozen 1
    have z2:=hr7.frozen 2
    have z3:=hr7.frozen 3
    have hbw:=HB.out.trans (hb57.mono HB.out.size)
    have HBW:=hid hbw
    clear hb57 hr7 hbw
    cases hb:better ⟨x0,x1,x2,x3⟩ ⟨y0,y1,y2,y3⟩ with
    | true =>
     have HT:=hid hb
     have hdc:decide (first ⟨x0,x1,x2,x3⟩ ⟨y0,y1,y2,y3⟩ < 0)=true:=by rw [first_neg];exact HT.out
     have hdc2:first ⟨x0,x1,x2,x3⟩ ⟨y0,y1,y2,y3⟩ < 0:=by simpa using hdc
     generalize first ⟨x0,x1,x2,x3⟩ ⟨y0,y1,y2,y3⟩=fr at *
     clear hdc hb
     go_wp2
     go_roundw
     case rel=>exact ⟨k+1,by omega,by omega,by go_num,((((HBW.out.setCell (by first|exact Nat.le_refl _|omega|(simp;done)) _).setCell (by first|exact Nat.le_refl _|omega|(simp;done)) _).setCell (by first|exact Nat.le_refl _|omega|(simp;done)) _).setCell (by first|exact Nat.le_refl _|omega|(simp;done)) _),by
       rw [Nat.add_sub_cancel,HBY.out HT.out]
       refine World.rowIs.congr ((((HR7.out.set 0 _).set 1 _).set 2 _).set 3 _) fun i hi=>?_
       match i,hi with
       | 0,_=>rfl
       | 1,_=>rfl
       | 2,_=>rfl
       | 3,_=>rfl
       | i+4,hi=>exact absurd hi (by omega),by
       refine World.rowIs.of_block HRB7.out ?_
       rw [Below.heap_setCell _ _ _ _ (by dsimp only;omega),Below.heap_setCell _ _ _ _ (by dsimp only;omega),Below.heap_setCell _ _ _ _ (by dsimp only;omega),Below.heap_setCell _ _ _ _ (by dsimp only;omega)]⟩
     case measure=>simp [intOf];omega
    | false =>
     have HT:=hid hb
     have hdc:decide (first ⟨x0,x1,x2,x3⟩ ⟨y0,y1,y2,y3⟩ < 0)=false:=by rw [first_neg];exact HT.out
     have hdc2:0≤first ⟨x0,x1,x2,x3⟩ ⟨y0,y1,y2,y3⟩:=by simpa using hdc
     generalize first ⟨x0,x1,x2,x3⟩ ⟨y0,y1,y2,y3⟩=fr at *
     clear hdc hb
     go_wp2
     go_roundw
     case rel=>exact ⟨k+1,by omega,by omega,by go_num,HBW.out,by rw [Nat.add_sub_cancel,HBN.out HT.out];rw [HY.out] at HR7;exact HR7.out,HRB7.out⟩
     case measure=>simp [intOf];omega
 have e:k=len:=by omega
 subst e
 have q0:wr.cell? ⟨w.heap.size,0,none⟩=some (.int .i64 0):=World.rowIs.cell HRB.out (i:=0) (by omega)
 have q1:wr.cell? ⟨w.heap.size,1,none⟩=some (.int .i64 0):=World.rowIs.cell HRB.out (i:=1) (by omega)
 have q2:wr.cell? ⟨w.heap.size,2,none⟩=some (.int .i64 0):=World.rowIs.cell HRB.out (i:=2) (by omega)
 have q3:wr.cell? ⟨w.heap.size,3,none⟩=some (.bool false):=World.rowIs.cell HRB.out (i:=3) (by omega)
 have z0:=HRB.out.frozen 0
 have z1:=HRB.out.frozen 1
 have z2:=HRB.out.frozen 2
 have z3:=HRB.out.frozen 3
 clear hbel hro rb c0 c1 c2 c3
 go_wp2
 refine bodyPost_ret (v:=.agg #[.int .i64 (bestTo g (k - 1)).via,.int .i64 (bestTo g (k - 1)).pref,.int .i64 (bestTo g (k - 1)).len,.bool (bestTo g (k - 1)).mark]) (by first|(rw [results_cell rfl];go_simp;done)|(simp [results,Tryz.results114];go_simp;done)|(simp [results,Tryz.results114,go_sem,q0,q1,q2,q3];done)) rfl ?_
 exact ⟨rfl,(((HB.out.setCell (Nat.le_refl _) _).setCell (Nat.le_refl _) _).setCell (Nat.le_refl _) _).setCell (Nat.le_refl _) _⟩
end Go.Proofs.YtcfnohiboknfoaaGreat.bestFace
