import Derived.Test.YthompjbplddkgaaGreatDoorDrawnLin
import Derived.Test.YthompjbplddkgaaGreatDoorPart23
import Derived.Laws.AppendOwnNone
set_option linter.unusedVariables false
namespace Go.Proofs.YthompjbplddkgaaGreatDoor.insSpec
open Go.RowKit Go.Deep Go base copy intsOwn heldStore drawn drawnLin stepAppend
theorem step_append_none {P:Program} (w:World) {ops:Array Oper} {o:Oper} {a:Act} {K:Act→World→Prop} {Q:Exit→Act→World→Prop} {E:Prop} (hgd:o.guard=none) (s x:Operand) (t:TypeId)
  (ho:o.op=.call { callee:=.builtin .append,args:=#[s,x],argTypes:=#[t,t] }) (dd:Option Tmp) (hd:o.dst=dd)
  (base:Nat) (e:TypeId) (i:TypeInfo) (size:Nat) (ht:P.underlying t=some (.slice e)) (hi:P.info? e=some i)
  (v:Value) (n:Nat) (xs:List Value) (hs:a.eval s=v) (hown:w.ownsRow base e size v n xs) (hx:a.eval x=.slice none 0 0) (h:K (a.put dd v) w) :
  if Region.wanted o (yielded ops a.tmps)=true then Oper.wp P o a w K Q else E:=by
 subst hd
 have hw:Region.wanted o (yielded ops a.tmps)=true:=by simp [Region.wanted,hgd]
 rw [if_pos hw]
 have hrun:=run_append_owned_none (P:=P) (w:=w) base t o.type e i size ht hi v n xs hown
 unfold Oper.wp execOp
 simp only [ho,resolve,invoke,builtin,Sem.run_bind,Sem.run_pure,Result.andThen_ok,List.map_toArray,List.map_cons,List.map_nil,hs,hx,hrun]
 exact h
def zA (z : List Int) (i : Nat) : Int := z[i]?.getD 0
def InsOut (w : World) (v0 : Value) (zs : List Int) (n : Int) (e' : Ending) (w' : World) : Prop := ∃ (v : Value) (f : Bool) (k : Nat),e' = .returned (.tuple #[v,.bool f])∧k≤zs.length∧(∀ j,j<k→zA zs j<n)∧((f=false∧v=v0∧k<zs.length∧zA zs k=n)∨(f=true∧(k<zs.length→n<zA zs k)∧OwnInts w.heap.size w' v (zs.take k ++ [n] ++ zs.drop k)))∧Below w.heap.size w w'
theorem ints_empty (B N:Nat) (w:World) (hB:B≤w.heap.size) (hN:w.heap.size=N):OwnInts B (w.alloc (.cells #[] 3)) (.slice (some ⟨N,0,none⟩) 0 0) []:=by
 subst hN
 exact ⟨rfl,.inr ⟨w.heap.size,0,#[],rfl,hB,heap_alloc_new w _,Nat.le_refl _,Nat.zero_le _,rfl,rfl⟩⟩
theorem add_at (g off j:Nat):(⟨g,off,none⟩:Addr).add j=⟨g,off+j,none⟩:=by
 by_cases h:j=0 <;> simp [Addr.add,h]
theorem one_ints (zs:List Int):∀ u∈zs.map (Value.int .i64),u.oneCell' = true:=fun u hu=>by
 obtain ⟨z,_,rfl⟩:=List.mem_map.1 hu
 rfl
theorem own_same {B:Nat} {w w1:World} {v:Value} {zs:List Int} (h:OwnInts B w v zs) (hb:∀ k,v.ownBlock=some k→w1.heap[k]? = w.heap[k]?):OwnInts B w1 v zs:=by
 obtain ⟨h1,h2⟩:=h
 refine ⟨h1,?_⟩
 rcases h2 with h2|⟨g,cap,cur,rfl,hg,hh,rest⟩
 · exact .inl h2
 · exact .inr ⟨g,cap,cur,rfl,hg,by rw [hb g rfl];exact hh,rest⟩
theorem own_at {N n c k:Nat} (h:(Value.slice (some ⟨N,0,none⟩) n c).ownBlock=some k):k=N:=by
 have h':some N=some k:=h
 injection h' with h'
 exact h'.symm
theorem part_cells {w:World} {g len i m:Nat} {zs:List Int} (h:IntRow w (some ⟨g,0,none⟩) len zs):∀ j u,(((zs.drop i).take m).map (Value.int .i64))[j]? = some u→w.cell? ((⟨g,i,none⟩:Addr).add j)=some u:=fun j u hj=>by
 rw [List.getElem?_map] at hj
 obtain ⟨y,hy,rfl⟩:=Option.map_eq_some_iff.1 hj
 rw [List.getElem?_take] at hy
 split at hy
 · rw [List.getElem?_drop] at hy
   obtain ⟨hlt,hy'⟩:=List.getElem?_eq_some_iff.1 hy
   rw [h.length] at hlt
   obtain ⟨b',off',e,hc⟩:=h.cell (i+j) hlt
   injection e with e
   injection e with e1 e2
   subst e1 e2
   rw [add_at,hy] at *
   rw [Nat.zero_add] at hc
   exact hc
 · cases hy
set_option maxHeartbeats 6400000 in
set_option maxRecDepth 8000 in
theorem insert_spec (B:Nat) (v0:Value) (zs:List Int) (n:Int) (w:World) (h:OwnInts B w v0 zs) (hl:zs.length≤100) :
  Calls Tryz.prog 30 #[v0,.int .i64 n] w fun e' w'=>InsOut w v0 zs n e' w' := by
 obtain ⟨i0,hi0,hzz⟩:=Option.map_eq_some_iff.1 Tryz.info_int
 simp only [Prod.mk.injEq] at hzz
 obtain ⟨hz0,hz1,hz2⟩:=hzz
 have HI:=hid hi0
 have HZ0:=hid hz0
 have HZ1:=hid hz1
 have HZ2:=hid hz2
 clear hi0 hz0 hz1 hz2
 have HO:=hid h
 rcases h.2 with ⟨e0,hn0⟩|⟨g,cap,cur,e0,_,_,hcap,_⟩
 · have ez:zs=[]:=List.length_eq_zero_iff.1 hn0
   subst e0
   subst ez
   clear h hn0 HO
   go_enter Tryz.func30,Tryz.ntmps30
   go_wp2_with fail
   go_loopw [6] (fun i wr=>i=.int .i64 0∧Below w.heap.size w wr) (fun i _=>0)
   case atStart=>exact ⟨rfl,Below.refl _ _⟩
   case round =>
    obtain ⟨rfl,hbr⟩:=hrel
    have HBr:=hid hbr
    have hsr:=hbr.size
    clear hbr
    go_wp2_with fail
    have HLn:Hid (([]:List Int).length=0):=hid rfl
    refine region_lin (fun uu=>⟨#[.slice none 0 0,.int .i64 n,undef,undef,uu 4,.bool false,.int .i64 0,.int .i64 0,.slice none 0 0,.int .i64 0,.bool false,.bool false,undef,undef,undef,undef,undef,undef,.bool false,u19,u20,.int .i64 0,.slice none 0 0,.int .i64 0,.bool false,.bool false,undef,undef,undef,undef,undef,undef,.bool false,undef,uu 34,uu 35,uu 36,uu 37,uu 38,uu 39,uu 40,uu 41,uu 42,uu 43,uu 44,uu 45],[]⟩) (fun i=>[34,35,36,37,38,39,40,41,42,43,44,45,4].getD i 0) (fun i v w8=>match i with|0=>OwnInts wr.heap.size w8 v ([])|1=>v=.slice none 0 0|2=>v=.int .i64 0|3=>v=.slice none 0 0|4=>OwnInts wr.heap.size w8 v (([]:List Int))|5=>v=.int .i64 n|6=>∃ N,v=.slice (some ⟨N,0,none⟩) 1 1∧World.cell? w8 ⟨N,0,none⟩=some (.int .i64 n)|7=>OwnInts wr.heap.size w8 v (([]:List Int) ++ [n])|8=>v=.slice none 0 0|9=>v=.int .i64 0|10=>v=.slice none 0 0|11=>OwnInts wr.heap.size w8 v (([]:List Int) ++ [n] ++ ([]:List Int))|_=>True) (fun i v w8 b=>match i with|0=>Value.ownBlock v=some b|4=>Value.ownBlock v=some b|6=>Value.ownBlock v=some b|7=>Value.ownBlock v=some b|11=>Value.ownBlock v=some b|_=>False) (fun v w8=>OwnInts wr.heap.size w8 v (([]:List Int) ++ [n] ++ ([]:List Int))∧Below wr.heap.size wr w8) wr 12 [4,3,3,4,7,6,7,11,10,10,11,12] (fun k=>match k with|34=>undef|35=>undef|36=>undef|37=>undef|38=>undef|39=>undef|40=>undef|41=>undef|42=>undef|43=>undef|44=>undef|45=>undef|4=>.slice none 0 0|_=>undef) (by rfl) (by kernel_rfl) (by rfl) ⟨by kernel_rfl,by kernel_rfl,by kernel_rfl,by decide⟩ (by kernel_rfl) (by kernel_rfl) (Below.refl _ _) ?hput ?hinj ?stable ?step ?pre ?last
    case hput =>
     intro i hi uu v
     match i,hi with
     | 0,_=>rfl
     | 1,_=>rfl
     | 2,_=>rfl
     | 3,_=>rfl
     | 4,_=>rfl
     | 5,_=>rfl
     | 6,_=>rfl
     | 7,_=>rfl
     | 8,_=>rfl
     | 9,_=>rfl
     | 10,_=>rfl
     | 11,_=>rfl
     | 12,_=>rfl
     | i+13,hi=>exact absurd hi (by omega)
    case hinj =>
     intro i j hi hj h
     exact slots_inj [34,35,36,37,38,39,40,41,42,43,44,45,4] (by decide) hi hj h
    case stable =>
     intro i v w8 w9 hb hf h
     match i,hf,h with
     | 0,hf,h=>exact ⟨own_same h (fun b hb=>(hf b hb).2),fun _ hk=>hk⟩
     | 1,hf,h=>exact ⟨h,fun _ hk=>hk⟩
     | 2,hf,h=>exact ⟨h,fun _ hk=>hk⟩
     | 3,hf,h=>exact ⟨h,fun _ hk=>hk⟩
     | 4,hf,h=>exact ⟨own_same h (fun b hb=>(hf b hb).2),fun _ hk=>hk⟩
     | 5,hf,h=>exact ⟨h,fun _ hk=>hk⟩
     | 6,hf,h=>
      obtain ⟨N,e,hc⟩:=h
      exact ⟨⟨N,e,(World.cell?_of_block (hf N (by rw [e];rfl)).2).trans hc⟩,fun _ hk=>hk⟩
     | 7,hf,h=>exact ⟨own_same h (fun b hb=>(hf b hb).2),fun _ hk=>hk⟩
     | 8,hf,h=>exact ⟨h,fun _ hk=>hk⟩
     | 9,hf,h=>exact ⟨h,fun _ hk=>hk⟩
     | 10,hf,h=>exact ⟨h,fun _ hk=>hk⟩
     | 11,hf,h=>exact ⟨own_same h (fun b hb=>(hf b hb).2),fun _ hk=>hk⟩
     | _+12,hf,h=>exact ⟨trivial,fun _ hk=>hk⟩
    case step =>
     intro i hi uu w8 S8 hdep
     match i,hi with
     | 0,_ =>
      clear hdep
      refine ⟨_,rfl,fun K' hK=>?_⟩
      go_simp
      exact hK.out _ _ (Chg.of_below Bl) (ints_empty _ _ _ S8.size rfl) (fun b hb=>by rw [own_at hb];exact ⟨by simp,.inr (Nat.le_refl _)⟩)
     | 1,_ =>
      clear hdep
      refine ⟨_,rfl,fun K' hK=>?_⟩
      go_simp
      exact hK.out _ _ (Chg.refl _ _) rfl (fun b hb=>hb.elim)
     | 2,_ =>
      clear hdep
      refine ⟨_,rfl,fun K' hK=>?_⟩
      go_simp
      exact hK.out _ _ (Chg.refl _ _) rfl (fun b hb=>hb.elim)
     | 3,_ =>
      have h1:(uu 35)=.slice none 0 0:=(hdep 1 rfl (by decide)).1
      have h2:(uu 36)=.int .i64 0:=(hdep 2 rfl (by decide)).1
      clear hdep
      refine ⟨_,rfl,fun K' hK=>?_⟩
      simp only [h1,h2] at hK ⊢
      go_simp
      exact hK.out _ _ (Chg.refl _ _) rfl (fun b hb=>hb.elim)
     | 4,_ =>
      have h0:OwnInts wr.heap.size w8 (uu 34) ([]):=(hdep 0 rfl (by decide)).1
      have h3:(uu 37)=.slice none 0 0:=(hdep 3 rfl (by decide)).1
      clear hdep
      refine ⟨_,rfl,fun K' hK=>?_⟩
      refine step_append_none w8 rfl _ _ 25 rfl (some 38) rfl wr.heap.size 3 i0 1 Tryz.underlying25 HI.out _ _ _ rfl h0 h3 ?_
      exact hK.out _ _ (Chg.refl _ _) (h0) (fun b hb=>⟨(World.ownsRow.lt h0 b hb).2,.inl ⟨0,rfl,by decide,hb⟩⟩)
     | 5,_ =>
      clear hdep
      refine ⟨_,rfl,fun K' hK=>?_⟩
      go_simp
      exact hK.out _ _ (Chg.refl _ _) rfl (fun b hb=>hb.elim)
     | 6,_ =>
      have h5:(uu 39)=.int .i64 n:=(hdep 5 rfl (by decide)).1
      clear hdep
      refine ⟨_,rfl,fun K' hK=>?_⟩
      simp only [h5] at hK ⊢
      go_simp
      exact hK.out _ _ (Chg.of_below Bl) ⟨w8.heap.size,rfl,by simp [go_sem]⟩ (fun b hb=>by rw [own_at hb];exact ⟨by simp,.inr (Nat.le_refl _)⟩)
     | 7,_ =>
      have h4:OwnInts wr.heap.size w8 (uu 38) (([]:List Int)):=(hdep 4 rfl (by decide)).1
      have h6:∃ N,(uu 40)=.slice (some ⟨N,0,none⟩) 1 1∧World.cell? w8 ⟨N,0,none⟩=some (.int .i64 n):=(hdep 6 rfl (by decide)).1
      clear hdep
      refine ⟨_,rfl,fun K' hK=>?_⟩
      obtain ⟨N,e6,hc6⟩:=h6
      refine step_append_at w8 rfl _ _ 25 rfl (some 41) rfl wr.heap.size 3 i0 (.int .i64 0) 1 8 Tryz.underlying25 HI.out HZ0.out HZ1.out HZ2.out rfl (by decide) _ _ _ rfl h4 ⟨N,0,none⟩ 1 1 [.int .i64 n] e6 rfl (fun t y ht=>by rw [add_at];cases t with|zero=>(injection ht with ht;rw [← ht];exact hc6)|succ t=>(cases ht)) (fun y hy=>by simp at hy;subst hy;rfl) (by have:=HLn.out;unfold maxLen;simp <;> omega) (by have:=HLn.out;simp <;> omega) S8.size ?_
      intro v' w' hown hg hat
      refine hK.out v' w' (Chg.of_grown hg (fun b hb=>⟨4,rfl,by decide,hb⟩)) (by unfold OwnInts;rw [List.length_append,List.map_append];exact hown) (fun b hb=>⟨(World.ownsRow.lt hown b hb).2,?_⟩)
      rcases hat with hat|hat
      · exact .inl ⟨4,rfl,by decide,by rw [hat] at hb;exact hb⟩
      · rw [hat] at hb
        injection hb with hb
        exact .inr (Nat.le_of_eq hb)
     | 8,_ =>
      clear hdep
      refine ⟨_,rfl,fun K' hK=>?_⟩
      go_simp
      exact hK.out _ _ (Chg.refl _ _) rfl (fun b hb=>hb.elim)
     | 9,_ =>
      clear hdep
      refine ⟨_,rfl,fun K' hK=>?_⟩
      go_simp
      exact hK.out _ _ (Chg.refl _ _) rfl (fun b hb=>hb.elim)
     | 10,_ =>
      have h8:(uu 42)=.slice none 0 0:=(hdep 8 rfl (by decide)).1
      have h9:(uu 43)=.int .i64 0:=(hdep 9 rfl (by decide)).1
      clear hdep
      refine ⟨_,rfl,fun K' hK=>?_⟩
      simp only [h8,h9] at hK ⊢
      go_simp
      exact hK.out _ _ (Chg.refl _ _) rfl (fun b hb=>hb.elim)
     | 11,_ =>
      have h7:OwnInts wr.heap.size w8 (uu 41) (([]:List Int) ++ [n]):=(hdep 7 rfl (by decide)).1
      have h10:(uu 44)=.slice none 0 0:=(hdep 10 rfl (by decide)).1
      clear hdep
      refine ⟨_,rfl,fun K' hK=>?_⟩
      refine step_append_none w8 rfl _ _ 25 rfl (some 45) rfl wr.heap.size 3 i0 1 Tryz.underlying25 HI.out _ _ _ rfl h7 h10 ?_
      exact hK.out _ _ (Chg.refl _ _) (h7) (fun b hb=>⟨(World.ownsRow.lt h7 b hb).2,.inl ⟨7,rfl,by decide,hb⟩⟩)
     | i+12,hi=>exact absurd hi (by omega)
    case pre =>
     intro uu w8 S8 hdep
     have h11:OwnInts wr.heap.size w8 (uu 45) (([]:List Int) ++ [n] ++ ([]:List Int)):=(hdep 11 rfl (by decide)).1
     clear hdep
     refine ⟨_,rfl,fun K' hK=>?_⟩
     go_simp
     exact hK.out _ _ ⟨h11,S8⟩
    case last =>
     intro uu w8 hψ
     obtain ⟨hor,hb⟩:=hψ
     have HF:Hid (OwnInts wr.heap.size w8 (uu 4) (([]:List Int) ++ [n] ++ ([]:List Int))):=hid hor
     have HB8:=hid (HBr.out.trans (hb.mono hsr))
     clear hor hb
     refine ⟨_,rfl,fun K' hK=>?_⟩
     go_simp
     refine hK.out _ _ ?_
     go_wp2_with fail
     go_ret2
     unfold InsOut
     exact ⟨_,true,0,rfl,Nat.le_refl _,fun j hj=>absurd hj (Nat.not_lt_zero _),.inr ⟨rfl,fun h=>absurd h (Nat.lt_irrefl _),HF.out.mono hsr⟩,HB8.out⟩
 · subst e0
   obtain ⟨len,hlen⟩:∃ len,zs.length=len:=⟨_,rfl⟩
   have HLn:=hid hlen
   have HR:Hid (IntRow w (some ⟨g,0,none⟩) len zs):=hid (by rw [← hlen];exact row_of_own h)
   rw [hlen] at hcap hl
   have HV0:Hid (Value.slice (some ⟨g,0,none⟩) zs.length cap=Value.slice (some ⟨g,0,none⟩) len cap):=hid (by rw [hlen])
   rw [HV0.out]
   clear h HO hlen
   go_enter Tryz.func30,Tryz.ntmps30
   go_wp2_with fail
   go_loopw [6] (fun i wr=>∃ k:Nat,k≤len∧i=.int .i64 k∧(∀ j,j<k→zA zs j<n)∧Below w.heap.size w wr) (fun i _=>len - (intOf i).toNat)
   case atStart=>exact ⟨0,Nat.zero_le _,rfl,fun j hj=>absurd hj (Nat.not_lt_zero _),Below.refl _ _⟩
   case round =>
    obtain ⟨k,hk,rfl,hlow,hbr⟩:=hrel
    have HLow:=hid hlow
    have HBr:=hid hbr
    have hsr:=hbr.size
    have HRr:=hid (HR.out.below hbr)
    clear hlow hbr
    by_cases hlt:k<len
    · obtain ⟨b,off,hab,hc⟩:=HRr.out.cell k hlt
      injection hab with hab
      injection hab with e1 e2
      subst e1
      subst e2
      rw [Nat.zero_add] at hc
      obtain ⟨y,hy⟩:∃ y,zs[k]?.getD 0=y:=⟨_,rfl⟩
      have HY:Hid (zA zs k=y):=hid hy
      rw [hy] at hc
      clear hy
      have d0:decide (k<len)=true:=decide_eq_true hlt
      by_cases hyn:y<n
      · have d1:decide (y<n)=true:=decide_eq_true hyn
        have HYn:=hid hyn
        clear hyn
        go_wp2_with fail
        go_roundw
        case rel =>
         refine ⟨k+1,by omega,by go_num,fun j hj=>?_,HBr.out⟩
         by_cases e:j=k
         · subst e;rw [HY.out];exact HYn.out
         · exact HLow.out j (by omega)
        case measure=>simp [intOf];omega
      · have d1:decide (y<n)=false:=decide_eq_false hyn
        by_cases hye:y=n
        · have d2:(y == n)=true:=by simp [hye]
          have HYe:Hid (zA zs k=n):=hid (by rw [HY.out];exact hye)
          have HLt:=hid hlt
          go_wp2_with fail
          go_ret2
          unfold InsOut
          rw [HLn.out]
          exact ⟨_,false,k,rfl,Nat.le_of_lt HLt.out,HLow.out,.inl ⟨rfl,rfl,HLt.out,HYe.out⟩,HBr.out⟩
        · have d2:(y == n)=false:=by simp [hye]
          have HYe:Hid (n<zA zs k):=hid (by rw [HY.out];omega)
          have HLt:=hid hlt
          have hck:¬ cap=k:=by omega
          go_wp2_with fail
          refine region_lin (fun uu=>⟨#[.slice (some ⟨g,0,none⟩) len cap,.int .i64 n,undef,undef,uu 4,.bool false,.int .i64 k,.int .i64 k,.slice (some ⟨g,0,none⟩) len cap,.int .i64 len,.bool true,.bool true,.slice (some ⟨g,0,none⟩) len cap,.int .i64 k,.pointer (some ⟨g,k,none⟩),.int .i64 y,.int .i64 n,.bool false,.bool false,u19,u20,.int .i64 k,.slice (some ⟨g,0,none⟩) len cap,.int .i64 len,.bool true,.bool true,.slice (some ⟨g,0,none⟩) len cap,.int .i64 k,.pointer (some ⟨g,k,none⟩),.int .i64 y,.int .i64 n,.bool false,.bool false,undef,uu 34,uu 35,uu 36,uu 37,uu 38,uu 39,uu 40,uu 41,uu 42,uu 43,uu 44,uu 45],[]⟩) (fun i=>[34,35,36,37,38,39,40,41,42,43,44,45,4].getD i 0) (fun i v w8=>match i with|0=>OwnInts wr.heap.size w8 v ([])|1=>v=.slice (some ⟨g,0,none⟩) len cap|2=>v=.int .i64 k|3=>v=.slice (some ⟨g,0,none⟩) k cap|4=>OwnInts wr.heap.size w8 v (zs.take k)|5=>v=.int .i64 n|6=>∃ N,v=.slice (some ⟨N,0,none⟩) 1 1∧World.cell? w8 ⟨N,0,none⟩=some (.int .i64 n)|7=>OwnInts wr.heap.size w8 v (zs.take k ++ [n])|8=>v=.slice (some ⟨g,0,none⟩) len cap|9=>v=.int .i64 k|10=>v=.slice (some ⟨g,k,none⟩) (len - k) (cap - k)|11=>OwnInts wr.heap.size w8 v (zs.take k ++ [n] ++ zs.drop k)|_=>True) (fun i v w8 b=>match i with|0=>Value.ownBlock v=some b|4=>Value.ownBlock v=some b|6=>Value.ownBlock v=some b|7=>Value.ownBlock v=some b|11=>Value.ownBlock v=some b|_=>False) (fun v w8=>OwnInts wr.heap.size w8 v (zs.take k ++ [n] ++ zs.drop k)∧Below wr.heap.size wr w8) wr 12 [4,3,3,4,7,6,7,11,10,10,11,12] (fun k=>match k with|34=>undef|35=>undef|36=>undef|37=>undef|38=>undef|39=>undef|40=>undef|41=>undef|42=>undef|43=>undef|44=>undef|45=>undef|4=>.slice none 0 0|_=>undef) (by rfl) (by kernel_rfl) (by rfl) ⟨by kernel_rfl,by kernel_rfl,by kernel_rfl,by decide⟩ (by kernel_rfl) (by kernel_rfl) (Below.refl _ _) ?hput ?hinj ?stable ?step ?pre ?last
          case hput =>
           intro i hi uu v
           match i,hi with
           | 0,_=>rfl
           | 1,_=>rfl
           | 2,_=>rfl
           | 3,_=>rfl
           | 4,_=>rfl
           | 5,_=>rfl
           | 6,_=>rfl
           | 7,_=>rfl
           | 8,_=>rfl
           | 9,_=>rfl
           | 10,_=>rfl
           | 11,_=>rfl
           | 12,_=>rfl
           | i+13,hi=>exact absurd hi (by omega)
          case hinj =>
           intro i j hi hj h
           exact slots_inj [34,35,36,37,38,39,40,41,42,43,44,45,4] (by decide) hi hj h
          case stable =>
           intro i v w8 w9 hb hf h
           match i,hf,h with
           | 0,hf,h=>exact ⟨own_same h (fun b hb=>(hf b hb).2),fun _ hk=>hk⟩
           | 1,hf,h=>exact ⟨h,fun _ hk=>hk⟩
           | 2,hf,h=>exact ⟨h,fun _ hk=>hk⟩
           | 3,hf,h=>exact ⟨h,fun _ hk=>hk⟩
           | 4,hf,h=>exact ⟨own_same h (fun b hb=>(hf b hb).2),fun _ hk=>hk⟩
           | 5,hf,h=>exact ⟨h,fun _ hk=>hk⟩
           | 6,hf,h=>
            obtain ⟨N,e,hc⟩:=h
            exact ⟨⟨N,e,(World.cell?_of_block (hf N (by rw [e];rfl)).2).trans hc⟩,fun _ hk=>hk⟩
           | 7,hf,h=>exact ⟨own_same h (fun b hb=>(hf b hb).2),fun _ hk=>hk⟩
           | 8,hf,h=>exact ⟨h,fun _ hk=>hk⟩
           | 9,hf,h=>exact ⟨h,fun _ hk=>hk⟩
           | 10,hf,h=>exact ⟨h,fun _ hk=>hk⟩
           | 11,hf,h=>exact ⟨own_same h (fun b hb=>(hf b hb).2),fun _ hk=>hk⟩
           | _+12,hf,h=>exact ⟨trivial,fun _ hk=>hk⟩
          case step =>
           intro i hi uu w8 S8 hdep
           match i,hi with
           | 0,_ =>
            clear hdep
            refine ⟨_,rfl,fun K' hK=>?_⟩
            go_simp
            exact hK.out _ _ (Chg.of_below Bl) (ints_empty _ _ _ S8.size rfl) (fun b hb=>by rw [own_at hb];exact ⟨by simp,.inr (Nat.le_refl _)⟩)
           | 1,_ =>
            clear hdep
            refine ⟨_,rfl,fun K' hK=>?_⟩
            go_simp
            exact hK.out _ _ (Chg.refl _ _) rfl (fun b hb=>hb.elim)
           | 2,_ =>
            clear hdep
            refine ⟨_,rfl,fun K' hK=>?_⟩
            go_simp
            exact hK.out _ _ (Chg.refl _ _) rfl (fun b hb=>hb.elim)
           | 3,_ =>
            have h1:(uu 35)=.slice (some ⟨g,0,none⟩) len cap:=(hdep 1 rfl (by decide)).1
            have h2:(uu 36)=.int .i64 k:=(hdep 2 rfl (by decide)).1
            clear hdep
            refine ⟨_,rfl,fun K' hK=>?_⟩
            have hkc:k≤cap:=by omega
            simp only [h1,h2] at hK ⊢
            go_simp
            exact hK.out _ _ (Chg.refl _ _) rfl (fun b hb=>hb.elim)
           | 4,_ =>
            have h0:OwnInts wr.heap.size w8 (uu 34) ([]):=(hdep 0 rfl (by decide)).1
            have h3:(uu 37)=.slice (some ⟨g,0,none⟩) k cap:=(hdep 3 rfl (by decide)).1
            clear hdep
            refine ⟨_,rfl,fun K' hK=>?_⟩
            refine step_append_at w8 rfl _ _ 25 rfl (some 38) rfl wr.heap.size 3 i0 (.int .i64 0) 1 8 Tryz.underlying25 HI.out HZ0.out HZ1.out HZ2.out rfl (by decide) _ _ _ rfl h0 ⟨g,0,none⟩ k cap ((zs.take k).map (.int .i64)) h3 (by have:=HLn.out;simp;omega) (by have:=part_cells (i:=0) (m:=k) (HRr.out.below S8);exact this) (one_ints _) (by have:=HLn.out;unfold maxLen;simp <;> omega) (by have:=HLn.out;simp <;> omega) S8.size ?_
            intro v' w' hown hg hat
            refine hK.out v' w' (Chg.of_grown hg (fun b hb=>⟨0,rfl,by decide,hb⟩)) (by have h9:=hown;simp only [List.length_nil,Nat.zero_add,List.map_nil,List.nil_append] at h9;show OwnInts wr.heap.size w' v' (zs.take k);unfold OwnInts;rw [show (zs.take k).length=k by have:=HLn.out;simp <;> omega];exact h9) (fun b hb=>⟨(World.ownsRow.lt hown b hb).2,?_⟩)
            rcases hat with hat|hat
            · exact .inl ⟨0,rfl,by decide,by rw [hat] at hb;exact hb⟩
            · rw [hat] at hb
              injection hb with hb
              exact .inr (Nat.le_of_eq hb)
           | 5,_ =>
            clear hdep
            refine ⟨_,rfl,fun K' hK=>?_⟩
            go_simp
            exact hK.out _ _ (Chg.refl _ _) rfl (fun b hb=>hb.elim)
           | 6,_ =>
            have h5:(uu 39)=.int .i64 n:=(hdep 5 rfl (by decide)).1
            clear hdep
            refine ⟨_,rfl,fun K' hK=>?_⟩
            simp only [h5] at hK ⊢
            go_simp
            exact hK.out _ _ (Chg.of_below Bl) ⟨w8.heap.size,rfl,by simp [go_sem]⟩ (fun b hb=>by rw [own_at hb];exact ⟨by simp,.inr (Nat.le_refl _)⟩)
           | 7,_ =>
            have h4:OwnInts wr.heap.size w8 (uu 38) (zs.take k):=(hdep 4 rfl (by decide)).1
            have h6:∃ N,(uu 40)=.slice (some ⟨N,0,none⟩) 1 1∧World.cell? w8 ⟨N,0,none⟩=some (.int .i64 n):=(hdep 6 rfl (by decide)).1
            clear hdep
            refine ⟨_,rfl,fun K' hK=>?_⟩
            obtain ⟨N,e6,hc6⟩:=h6
            refine step_append_at w8 rfl _ _ 25 rfl (some 41) rfl wr.heap.size 3 i0 (.int .i64 0) 1 8 Tryz.underlying25 HI.out HZ0.out HZ1.out HZ2.out rfl (by decide) _ _ _ rfl h4 ⟨N,0,none⟩ 1 1 [.int .i64 n] e6 rfl (fun t y ht=>by rw [add_at];cases t with|zero=>(injection ht with ht;rw [← ht];exact hc6)|succ t=>(cases ht)) (fun y hy=>by simp at hy;subst hy;rfl) (by have:=HLn.out;unfold maxLen;simp <;> omega) (by have:=HLn.out;simp <;> omega) S8.size ?_
            intro v' w' hown hg hat
            refine hK.out v' w' (Chg.of_grown hg (fun b hb=>⟨4,rfl,by decide,hb⟩)) (by unfold OwnInts;rw [List.length_append,List.map_append];exact hown) (fun b hb=>⟨(World.ownsRow.lt hown b hb).2,?_⟩)
            rcases hat with hat|hat
            · exact .inl ⟨4,rfl,by decide,by rw [hat] at hb;exact hb⟩
            · rw [hat] at hb
              injection hb with hb
              exact .inr (Nat.le_of_eq hb)
           | 8,_ =>
            clear hdep
            refine ⟨_,rfl,fun K' hK=>?_⟩
            go_simp
            exact hK.out _ _ (Chg.refl _ _) rfl (fun b hb=>hb.elim)
           | 9,_ =>
            clear hdep
            refine ⟨_,rfl,fun K' hK=>?_⟩
            go_simp
            exact hK.out _ _ (Chg.refl _ _) rfl (fun b hb=>hb.elim)
           | 10,_ =>
            have h8:(uu 42)=.slice (some ⟨g,0,none⟩) len cap:=(hdep 8 rfl (by decide)).1
            have h9:(uu 43)=.int .i64 k:=(hdep 9 rfl (by decide)).1
            clear hdep
            refine ⟨_,rfl,fun K' hK=>?_⟩
            simp only [h8,h9] at hK ⊢
            go_simp
            exact hK.out _ _ (Chg.refl _ _) rfl (fun b hb=>hb.elim)
           | 11,_ =>
            have h7:OwnInts wr.heap.size w8 (uu 41) (zs.take k ++ [n]):=(hdep 7 rfl (by decide)).1
            have h10:(uu 44)=.slice (some ⟨g,k,none⟩) (len - k) (cap - k):=(hdep 10 rfl (by decide)).1
            clear hdep
            refine ⟨_,rfl,fun K' hK=>?_⟩
            refine step_append_at w8 rfl _ _ 25 rfl (some 45) rfl wr.heap.size 3 i0 (.int .i64 0) 1 8 Tryz.underlying25 HI.out HZ0.out HZ1.out HZ2.out rfl (by decide) _ _ _ rfl h7 ⟨g,k,none⟩ (len - k) (cap - k) ((zs.drop k).map (.int .i64)) h10 (by have:=HLn.out;simp;omega) (by have:=part_cells (i:=k) (m:=len - k) (HRr.out.below S8);rw [List.take_of_length_le (by have:=HLn.out;simp;omega)] at this;exact this) (one_ints _) (by have:=HLn.out;unfold maxLen;simp <;> omega) (by have:=HLn.out;simp <;> omega) S8.size ?_
            intro v' w' hown hg hat
            refine hK.out v' w' (Chg.of_grown hg (fun b hb=>⟨7,rfl,by decide,hb⟩)) (by have h9:=hown;show OwnInts wr.heap.size w' v' (zs.take k ++ [n] ++ zs.drop k);unfold OwnInts;rw [List.length_append (bs:=zs.drop k),List.map_append,show (zs.drop k).length=(len - k) by have:=HLn.out;simp <;> omega];exact h9) (fun b hb=>⟨(World.ownsRow.lt hown b hb).2,?_⟩)
            rcases hat with hat|hat
            · exact .inl ⟨7,rfl,by decide,by rw [hat] at hb;exact hb⟩
            · rw [hat] at hb
              injection hb with hb
              exact .inr (Nat.le_of_eq hb)
           | i+12,hi=>exact absurd hi (by omega)
          case pre =>
           intro uu w8 S8 hdep
           have h11:OwnInts wr.heap.size w8 (uu 45) (zs.take k ++ [n] ++ zs.drop k):=(hdep 11 rfl (by decide)).1
           clear hdep
           refine ⟨_,rfl,fun K' hK=>?_⟩
           go_simp
           exact hK.out _ _ ⟨h11,S8⟩
          case last =>
           intro uu w8 hψ
           obtain ⟨hor,hb⟩:=hψ
           have HF:Hid (OwnInts wr.heap.size w8 (uu 4) (zs.take k ++ [n] ++ zs.drop k)):=hid hor
           have HB8:=hid (HBr.out.trans (hb.mono hsr))
           clear hor hb
           refine ⟨_,rfl,fun K' hK=>?_⟩
           go_simp
           refine hK.out _ _ ?_
           go_wp2_with fail
           go_ret2
           unfold InsOut
           rw [HLn.out]
           exact ⟨_,true,k,rfl,Nat.le_of_lt HLt.out,HLow.out,.inr ⟨rfl,fun _=>HYe.out,HF.out.mono hsr⟩,HB8.out⟩
    · have d0:decide (k<len)=false:=decide_eq_false hlt
      have ek:k=len:=by omega
      subst ek
      by_cases hck:cap=k
      · subst hck
        go_wp2_with fail
        refine region_lin (fun uu=>⟨#[.slice (some ⟨g,0,none⟩) cap cap,.int .i64 n,undef,undef,uu 4,.bool false,.int .i64 cap,.int .i64 cap,.slice (some ⟨g,0,none⟩) cap cap,.int .i64 cap,.bool false,.bool false,undef,undef,undef,undef,undef,undef,.bool false,u19,u20,.int .i64 cap,.slice (some ⟨g,0,none⟩) cap cap,.int .i64 cap,.bool false,.bool false,undef,undef,undef,undef,undef,undef,.bool false,undef,uu 34,uu 35,uu 36,uu 37,uu 38,uu 39,uu 40,uu 41,uu 42,uu 43,uu 44,uu 45],[]⟩) (fun i=>[34,35,36,37,38,39,40,41,42,43,44,45,4].getD i 0) (fun i v w8=>match i with|0=>OwnInts wr.heap.size w8 v ([])|1=>v=.slice (some ⟨g,0,none⟩) cap cap|2=>v=.int .i64 cap|3=>v=.slice (some ⟨g,0,none⟩) cap cap|4=>OwnInts wr.heap.size w8 v (zs.take cap)|5=>v=.int .i64 n|6=>∃ N,v=.slice (some ⟨N,0,none⟩) 1 1∧World.cell? w8 ⟨N,0,none⟩=some (.int .i64 n)|7=>OwnInts wr.heap.size w8 v (zs.take cap ++ [n])|8=>v=.slice (some ⟨g,0,none⟩) cap cap|9=>v=.int .i64 cap|10=>v=.slice (some ⟨g,0,none⟩) 0 0|11=>OwnInts wr.heap.size w8 v (zs.take cap ++ [n] ++ zs.drop cap)|_=>True) (fun i v w8 b=>match i with|0=>Value.ownBlock v=some b|4=>Value.ownBlock v=some b|6=>Value.ownBlock v=some b|7=>Value.ownBlock v=some b|11=>Value.ownBlock v=some b|_=>False) (fun v w8=>OwnInts wr.heap.size w8 v (zs.take cap ++ [n] ++ zs.drop cap)∧Below wr.heap.size wr w8) wr 12 [4,3,3,4,7,6,7,11,10,10,11,12] (fun k=>match k with|34=>undef|35=>undef|36=>undef|37=>undef|38=>undef|39=>undef|40=>undef|41=>undef|42=>undef|43=>undef|44=>undef|45=>undef|4=>.slice none 0 0|_=>undef) (by rfl) (by kernel_rfl) (by rfl) ⟨by kernel_rfl,by kernel_rfl,by kernel_rfl,by decide⟩ (by kernel_rfl) (by kernel_rfl) (Below.refl _ _) ?hput ?hinj ?stable ?step ?pre ?last
        case hput =>
         intro i hi uu v
         match i,hi with
         | 0,_=>rfl
         | 1,_=>rfl
         | 2,_=>rfl
         | 3,_=>rfl
         | 4,_=>rfl
         | 5,_=>rfl
         | 6,_=>rfl
         | 7,_=>rfl
         | 8,_=>rfl
         | 9,_=>rfl
         | 10,_=>rfl
         | 11,_=>rfl
         | 12,_=>rfl
         | i+13,hi=>exact absurd hi (by omega)
        case hinj =>
         intro i j hi hj h
         exact slots_inj [34,35,36,37,38,39,40,41,42,43,44,45,4] (by decide) hi hj h
        case stable =>
         intro i v w8 w9 hb hf h
         match i,hf,h with
         | 0,hf,h=>exact ⟨own_same h (fun b hb=>(hf b hb).2),fun _ hk=>hk⟩
         | 1,hf,h=>exact ⟨h,fun _ hk=>hk⟩
         | 2,hf,h=>exact ⟨h,fun _ hk=>hk⟩
         | 3,hf,h=>exact ⟨h,fun _ hk=>hk⟩
         | 4,hf,h=>exact ⟨own_same h (fun b hb=>(hf b hb).2),fun _ hk=>hk⟩
         | 5,hf,h=>exact ⟨h,fun _ hk=>hk⟩
         | 6,hf,h=>
          obtain ⟨N,e,hc⟩:=h
          exact ⟨⟨N,e,(World.cell?_of_block (hf N (by rw [e];rfl)).2).trans hc⟩,fun _ hk=>hk⟩
         | 7,hf,h=>exact ⟨own_same h (fun b hb=>(hf b hb).2),fun _ hk=>hk⟩
         | 8,hf,h=>exact ⟨h,fun _ hk=>hk⟩
         | 9,hf,h=>exact ⟨h,fun _ hk=>hk⟩
         | 10,hf,h=>exact ⟨h,fun _ hk=>hk⟩
         | 11,hf,h=>exact ⟨own_same h (fun b hb=>(hf b hb).2),fun _ hk=>hk⟩
         | _+12,hf,h=>exact ⟨trivial,fun _ hk=>hk⟩
        case step =>
         intro i hi uu w8 S8 hdep
         match i,hi with
         | 0,_ =>
          clear hdep
          refine ⟨_,rfl,fun K' hK=>?_⟩
          go_simp
          exact hK.out _ _ (Chg.of_below Bl) (ints_empty _ _ _ S8.size rfl) (fun b hb=>by rw [own_at hb];exact ⟨by simp,.inr (Nat.le_refl _)⟩)
         | 1,_ =>
          clear hdep
          refine ⟨_,rfl,fun K' hK=>?_⟩
          go_simp
          exact hK.out _ _ (Chg.refl _ _) rfl (fun b hb=>hb.elim)
         | 2,_ =>
          clear hdep
          refine ⟨_,rfl,fun K' hK=>?_⟩
          go_simp
          exact hK.out _ _ (Chg.refl _ _) rfl (fun b hb=>hb.elim)
         | 3,_ =>
          have h1:(uu 35)=.slice (some ⟨g,0,none⟩) cap cap:=(hdep 1 rfl (by decide)).1
          have h2:(uu 36)=.int .i64 cap:=(hdep 2 rfl (by decide)).1
          clear hdep
          refine ⟨_,rfl,fun K' hK=>?_⟩
          have hkc:cap≤cap:=by omega
          simp only [h1,h2] at hK ⊢
          go_simp
          exact hK.out _ _ (Chg.refl _ _) rfl (fun b hb=>hb.elim)
         | 4,_ =>
          have h0:OwnInts wr.heap.size w8 (uu 34) ([]):=(hdep 0 rfl (by decide)).1
          have h3:(uu 37)=.slice (some ⟨g,0,none⟩) cap cap:=(hdep 3 rfl (by decide)).1
          clear hdep
          refine ⟨_,rfl,fun K' hK=>?_⟩
          refine step_append_at w8 rfl _ _ 25 rfl (some 38) rfl wr.heap.size 3 i0 (.int .i64 0) 1 8 Tryz.underlying25 HI.out HZ0.out HZ1.out HZ2.out rfl (by decide) _ _ _ rfl h0 ⟨g,0,none⟩ cap cap ((zs.take cap).map (.int .i64)) h3 (by have:=HLn.out;simp;omega) (by have:=part_cells (i:=0) (m:=cap) (HRr.out.below S8);exact this) (one_ints _) (by have:=HLn.out;unfold maxLen;simp <;> omega) (by have:=HLn.out;simp <;> omega) S8.size ?_
          intro v' w' hown hg hat
          refine hK.out v' w' (Chg.of_grown hg (fun b hb=>⟨0,rfl,by decide,hb⟩)) (by have h9:=hown;simp only [List.length_nil,Nat.zero_add,List.map_nil,List.nil_append] at h9;show OwnInts wr.heap.size w' v' (zs.take cap);unfold OwnInts;rw [show (zs.take cap).length=cap by have:=HLn.out;simp <;> omega];exact h9) (fun b hb=>⟨(World.ownsRow.lt hown b hb).2,?_⟩)
          rcases hat with hat|hat
          · exact .inl ⟨0,rfl,by decide,by rw [hat] at hb;exact hb⟩
          · rw [hat] at hb
            injection hb with hb
            exact .inr (Nat.le_of_eq hb)
         | 5,_ =>
          clear hdep
          refine ⟨_,rfl,fun K' hK=>?_⟩
          go_simp
          exact hK.out _ _ (Chg.refl _ _) rfl (fun b hb=>hb.elim)
         | 6,_ =>
          have h5:(uu 39)=.int .i64 n:=(hdep 5 rfl (by decide)).1
          clear hdep
          refine ⟨_,rfl,fun K' hK=>?_⟩
          simp only [h5] at hK ⊢
          go_simp
          exact hK.out _ _ (Chg.of_below Bl) ⟨w8.heap.size,rfl,by simp [go_sem]⟩ (fun b hb=>by rw [own_at hb];exact ⟨by simp,.inr (Nat.le_refl _)⟩)
         | 7,_ =>
          have h4:OwnInts wr.heap.size w8 (uu 38) (zs.take cap):=(hdep 4 rfl (by decide)).1
          have h6:∃ N,(uu 40)=.slice (some ⟨N,0,none⟩) 1 1∧World.cell? w8 ⟨N,0,none⟩=some (.int .i64 n):=(hdep 6 rfl (by decide)).1
          clear hdep
          refine ⟨_,rfl,fun K' hK=>?_⟩
          obtain ⟨N,e6,hc6⟩:=h6
          refine step_append_at w8 rfl _ _ 25 rfl (some 41) rfl wr.heap.size 3 i0 (.int .i64 0) 1 8 Tryz.underlying25 HI.out HZ0.out HZ1.out HZ2.out rfl (by decide) _ _ _ rfl h4 ⟨N,0,none⟩ 1 1 [.int .i64 n] e6 rfl (fun t y ht=>by rw [add_at];cases t with|zero=>(injection ht with ht;rw [← ht];exact hc6)|succ t=>(cases ht)) (fun y hy=>by simp at hy;subst hy;rfl) (by have:=HLn.out;unfold maxLen;simp <;> omega) (by have:=HLn.out;simp <;> omega) S8.size ?_
          intro v' w' hown hg hat
          refine hK.out v' w' (Chg.of_grown hg (fun b hb=>⟨4,rfl,by decide,hb⟩)) (by unfold OwnInts;rw [List.length_append,List.map_append];exact hown) (fun b hb=>⟨(World.ownsRow.lt hown b hb).2,?_⟩)
          rcases hat with hat|hat
          · exact .inl ⟨4,rfl,by decide,by rw [hat] at hb;exact hb⟩
          · rw [hat] at hb
            injection hb with hb
            exact .inr (Nat.le_of_eq hb)
         | 8,_ =>
          clear hdep
          refine ⟨_,rfl,fun K' hK=>?_⟩
          go_simp
          exact hK.out _ _ (Chg.refl _ _) rfl (fun b hb=>hb.elim)
         | 9,_ =>
          clear hdep
          refine ⟨_,rfl,fun K' hK=>?_⟩
          go_simp
          exact hK.out _ _ (Chg.refl _ _) rfl (fun b hb=>hb.elim)
         | 10,_ =>
          have h8:(uu 42)=.slice (some ⟨g,0,none⟩) cap cap:=(hdep 8 rfl (by decide)).1
          have h9:(uu 43)=.int .i64 cap:=(hdep 9 rfl (by decide)).1
          clear hdep
          refine ⟨_,rfl,fun K' hK=>?_⟩
          simp only [h8,h9] at hK ⊢
          go_simp
          exact hK.out _ _ (Chg.refl _ _) rfl (fun b hb=>hb.elim)
         | 11,_ =>
          have h7:OwnInts wr.heap.size w8 (uu 41) (zs.take cap ++ [n]):=(hdep 7 rfl (by decide)).1
          have h10:(uu 44)=.slice (some ⟨g,0,none⟩) 0 0:=(hdep 10 rfl (by decide)).1
          clear hdep
          refine ⟨_,rfl,fun K' hK=>?_⟩
          refine step_append_at w8 rfl _ _ 25 rfl (some 45) rfl wr.heap.size 3 i0 (.int .i64 0) 1 8 Tryz.underlying25 HI.out HZ0.out HZ1.out HZ2.out rfl (by decide) _ _ _ rfl h7 ⟨g,0,none⟩ 0 0 ((zs.drop cap).map (.int .i64)) h10 (by have:=HLn.out;simp;omega) (fun t y ht=>by rw [List.drop_eq_nil_of_le (by have:=HLn.out;omega)] at ht;cases ht) (one_ints _) (by have:=HLn.out;unfold maxLen;simp <;> omega) (by have:=HLn.out;simp <;> omega) S8.size ?_
          intro v' w' hown hg hat
          refine hK.out v' w' (Chg.of_grown hg (fun b hb=>⟨7,rfl,by decide,hb⟩)) (by have h9:=hown;show OwnInts wr.heap.size w' v' (zs.take cap ++ [n] ++ zs.drop cap);unfold OwnInts;rw [List.length_append (bs:=zs.drop cap),List.map_append,show (zs.drop cap).length=0 by have:=HLn.out;simp <;> omega];exact h9) (fun b hb=>⟨(World.ownsRow.lt hown b hb).2,?_⟩)
          rcases hat with hat|hat
          · exact .inl ⟨7,rfl,by decide,by rw [hat] at hb;exact hb⟩
          · rw [hat] at hb
            injection hb with hb
            exact .inr (Nat.le_of_eq hb)
         | i+12,hi=>exact absurd hi (by omega)
        case pre =>
         intro uu w8 S8 hdep
         have h11:OwnInts wr.heap.size w8 (uu 45) (zs.take cap ++ [n] ++ zs.drop cap):=(hdep 11 rfl (by decide)).1
         clear hdep
         refine ⟨_,rfl,fun K' hK=>?_⟩
         go_simp
         exact hK.out _ _ ⟨h11,S8⟩
        case last =>
         intro uu w8 hψ
         obtain ⟨hor,hb⟩:=hψ
         have HF:Hid (OwnInts wr.heap.size w8 (uu 4) (zs.take cap ++ [n] ++ zs.drop cap)):=hid hor
         have HB8:=hid (HBr.out.trans (hb.mono hsr))
         clear hor hb
         refine ⟨_,rfl,fun K' hK=>?_⟩
         go_simp
         refine hK.out _ _ ?_
         go_wp2_with fail
         go_ret2
         unfold InsOut
         rw [HLn.out]
         exact ⟨_,true,cap,rfl,Nat.le_refl _,HLow.out,.inr ⟨rfl,fun h=>absurd h (Nat.lt_irrefl _),HF.out.mono hsr⟩,HB8.out⟩
      · go_wp2_with fail
        refine region_lin (fun uu=>⟨#[.slice (some ⟨g,0,none⟩) k cap,.int .i64 n,undef,undef,uu 4,.bool false,.int .i64 k,.int .i64 k,.slice (some ⟨g,0,none⟩) k cap,.int .i64 k,.bool false,.bool false,undef,undef,undef,undef,undef,undef,.bool false,u19,u20,.int .i64 k,.slice (some ⟨g,0,none⟩) k cap,.int .i64 k,.bool false,.bool false,undef,undef,undef,undef,undef,undef,.bool false,undef,uu 34,uu 35,uu 36,uu 37,uu 38,uu 39,uu 40,uu 41,uu 42,uu 43,uu 44,uu 45],[]⟩) (fun i=>[34,35,36,37,38,39,40,41,42,43,44,45,4].getD i 0) (fun i v w8=>match i with|0=>OwnInts wr.heap.size w8 v ([])|1=>v=.slice (some ⟨g,0,none⟩) k cap|2=>v=.int .i64 k|3=>v=.slice (some ⟨g,0,none⟩) k cap|4=>OwnInts wr.heap.size w8 v (zs.take k)|5=>v=.int .i64 n|6=>∃ N,v=.slice (some ⟨N,0,none⟩) 1 1∧World.cell? w8 ⟨N,0,none⟩=some (.int .i64 n)|7=>OwnInts wr.heap.size w8 v (zs.take k ++ [n])|8=>v=.slice (some ⟨g,0,none⟩) k cap|9=>v=.int .i64 k|10=>v=.slice (some ⟨g,k,none⟩) 0 (cap - k)|11=>OwnInts wr.heap.size w8 v (zs.take k ++ [n] ++ zs.drop k)|_=>True) (fun i v w8 b=>match i with|0=>Value.ownBlock v=some b|4=>Value.ownBlock v=some b|6=>Value.ownBlock v=some b|7=>Value.ownBlock v=some b|11=>Value.ownBlock v=some b|_=>False) (fun v w8=>OwnInts wr.heap.size w8 v (zs.take k ++ [n] ++ zs.drop k)∧Below wr.heap.size wr w8) wr 12 [4,3,3,4,7,6,7,11,10,10,11,12] (fun k=>match k with|34=>undef|35=>undef|36=>undef|37=>undef|38=>undef|39=>undef|40=>undef|41=>undef|42=>undef|43=>undef|44=>undef|45=>undef|4=>.slice none 0 0|_=>undef) (by rfl) (by kernel_rfl) (by rfl) ⟨by kernel_rfl,by kernel_rfl,by kernel_rfl,by decide⟩ (by kernel_rfl) (by kernel_rfl) (Below.refl _ _) ?hput ?hinj ?stable ?step ?pre ?last
        case hput =>
         intro i hi uu v
         match i,hi with
         | 0,_=>rfl
         | 1,_=>rfl
         | 2,_=>rfl
         | 3,_=>rfl
         | 4,_=>rfl
         | 5,_=>rfl
         | 6,_=>rfl
         | 7,_=>rfl
         | 8,_=>rfl
         | 9,_=>rfl
         | 10,_=>rfl
         | 11,_=>rfl
         | 12,_=>rfl
         | i+13,hi=>exact absurd hi (by omega)
        case hinj =>
         intro i j hi hj h
         exact slots_inj [34,35,36,37,38,39,40,41,42,43,44,45,4] (by decide) hi hj h
        case stable =>
         intro i v w8 w9 hb hf h
         match i,hf,h with
         | 0,hf,h=>exact ⟨own_same h (fun b hb=>(hf b hb).2),fun _ hk=>hk⟩
         | 1,hf,h=>exact ⟨h,fun _ hk=>hk⟩
         | 2,hf,h=>exact ⟨h,fun _ hk=>hk⟩
         | 3,hf,h=>exact ⟨h,fun _ hk=>hk⟩
         | 4,hf,h=>exact ⟨own_same h (fun b hb=>(hf b hb).2),fun _ hk=>hk⟩
         | 5,hf,h=>exact ⟨h,fun _ hk=>hk⟩
         | 6,hf,h=>
          obtain ⟨N,e,hc⟩:=h
          exact ⟨⟨N,e,(World.cell?_of_block (hf N (by rw [e];rfl)).2).trans hc⟩,fun _ hk=>hk⟩
         | 7,hf,h=>exact ⟨own_same h (fun b hb=>(hf b hb).2),fun _ hk=>hk⟩
         | 8,hf,h=>exact ⟨h,fun _ hk=>hk⟩
         | 9,hf,h=>exact ⟨h,fun _ hk=>hk⟩
         | 10,hf,h=>exact ⟨h,fun _ hk=>hk⟩
         | 11,hf,h=>exact ⟨own_same h (fun b hb=>(hf b hb).2),fun _ hk=>hk⟩
         | _+12,hf,h=>exact ⟨trivial,fun _ hk=>hk⟩
        case step =>
         intro i hi uu w8 S8 hdep
         match i,hi with
         | 0,_ =>
          clear hdep
          refine ⟨_,rfl,fun K' hK=>?_⟩
          go_simp
          exact hK.out _ _ (Chg.of_below Bl) (ints_empty _ _ _ S8.size rfl) (fun b hb=>by rw [own_at hb];exact ⟨by simp,.inr (Nat.le_refl _)⟩)
         | 1,_ =>
          clear hdep
          refine ⟨_,rfl,fun K' hK=>?_⟩
          go_simp
          exact hK.out _ _ (Chg.refl _ _) rfl (fun b hb=>hb.elim)
         | 2,_ =>
          clear hdep
          refine ⟨_,rfl,fun K' hK=>?_⟩
          go_simp
          exact hK.out _ _ (Chg.refl _ _) rfl (fun b hb=>hb.elim)
         | 3,_ =>
          have h1:(uu 35)=.slice (some ⟨g,0,none⟩) k cap:=(hdep 1 rfl (by decide)).1
          have h2:(uu 36)=.int .i64 k:=(hdep 2 rfl (by decide)).1
          clear hdep
          refine ⟨_,rfl,fun K' hK=>?_⟩
          have hkc:k≤cap:=by omega
          simp only [h1,h2] at hK ⊢
          go_simp
          exact hK.out _ _ (Chg.refl _ _) rfl (fun b hb=>hb.elim)
         | 4,_ =>
          have h0:OwnInts wr.heap.size w8 (uu 34) ([]):=(hdep 0 rfl (by decide)).1
          have h3:(uu 37)=.slice (some ⟨g,0,none⟩) k cap:=(hdep 3 rfl (by decide)).1
          clear hdep
          refine ⟨_,rfl,fun K' hK=>?_⟩
          refine step_append_at w8 rfl _ _ 25 rfl (some 38) rfl wr.heap.size 3 i0 (.int .i64 0) 1 8 Tryz.underlying25 HI.out HZ0.out HZ1.out HZ2.out rfl (by decide) _ _ _ rfl h0 ⟨g,0,none⟩ k cap ((zs.take k).map (.int .i64)) h3 (by have:=HLn.out;simp;omega) (by have:=part_cells (i:=0) (m:=k) (HRr.out.below S8);exact this) (one_ints _) (by have:=HLn.out;unfold maxLen;simp <;> omega) (by have:=HLn.out;simp <;> omega) S8.size ?_
          intro v' w' hown hg hat
          refine hK.out v' w' (Chg.of_grown hg (fun b hb=>⟨0,rfl,by decide,hb⟩)) (by have h9:=hown;simp only [List.length_nil,Nat.zero_add,List.map_nil,List.nil_append] at h9;show OwnInts wr.heap.size w' v' (zs.take k);unfold OwnInts;rw [show (zs.take k).length=k by have:=HLn.out;simp <;> omega];exact h9) (fun b hb=>⟨(World.ownsRow.lt hown b hb).2,?_⟩)
          rcases hat with hat|hat
          · exact .inl ⟨0,rfl,by decide,by rw [hat] at hb;exact hb⟩
          · rw [hat] at hb
            injection hb with hb
            exact .inr (Nat.le_of_eq hb)
         | 5,_ =>
          clear hdep
          refine ⟨_,rfl,fun K' hK=>?_⟩
          go_simp
          exact hK.out _ _ (Chg.refl _ _) rfl (fun b hb=>hb.elim)
         | 6,_ =>
          have h5:(uu 39)=.int .i64 n:=(hdep 5 rfl (by decide)).1
          clear hdep
          refine ⟨_,rfl,fun K' hK=>?_⟩
          simp only [h5] at hK ⊢
          go_simp
          exact hK.out _ _ (Chg.of_below Bl) ⟨w8.heap.size,rfl,by simp [go_sem]⟩ (fun b hb=>by rw [own_at hb];exact ⟨by simp,.inr (Nat.le_refl _)⟩)
         | 7,_ =>
          have h4:OwnInts wr.heap.size w8 (uu 38) (zs.take k):=(hdep 4 rfl (by decide)).1
          have h6:∃ N,(uu 40)=.slice (some ⟨N,0,none⟩) 1 1∧World.cell? w8 ⟨N,0,none⟩=some (.int .i64 n):=(hdep 6 rfl (by decide)).1
          clear hdep
          refine ⟨_,rfl,fun K' hK=>?_⟩
          obtain ⟨N,e6,hc6⟩:=h6
          refine step_append_at w8 rfl _ _ 25 rfl (some 41) rfl wr.heap.size 3 i0 (.int .i64 0) 1 8 Tryz.underlying25 HI.out HZ0.out HZ1.out HZ2.out rfl (by decide) _ _ _ rfl h4 ⟨N,0,none⟩ 1 1 [.int .i64 n] e6 rfl (fun t y ht=>by rw [add_at];cases t with|zero=>(injection ht with ht;rw [← ht];exact hc6)|succ t=>(cases ht)) (fun y hy=>by simp at hy;subst hy;rfl) (by have:=HLn.out;unfold maxLen;simp <;> omega) (by have:=HLn.out;simp <;> omega) S8.size ?_
          intro v' w' hown hg hat
          refine hK.out v' w' (Chg.of_grown hg (fun b hb=>⟨4,rfl,by decide,hb⟩)) (by unfold OwnInts;rw [List.length_append,List.map_append];exact hown) (fun b hb=>⟨(World.ownsRow.lt hown b hb).2,?_⟩)
          rcases hat with hat|hat
          · exact .inl ⟨4,rfl,by decide,by rw [hat] at hb;exact hb⟩
          · rw [hat] at hb
            injection hb with hb
            exact .inr (Nat.le_of_eq hb)
         | 8,_ =>
          clear hdep
          refine ⟨_,rfl,fun K' hK=>?_⟩
          go_simp
          exact hK.out _ _ (Chg.refl _ _) rfl (fun b hb=>hb.elim)
         | 9,_ =>
          clear hdep
          refine ⟨_,rfl,fun K' hK=>?_⟩
          go_simp
          exact hK.out _ _ (Chg.refl _ _) rfl (fun b hb=>hb.elim)
         | 10,_ =>
          have h8:(uu 42)=.slice (some ⟨g,0,none⟩) k cap:=(hdep 8 rfl (by decide)).1
          have h9:(uu 43)=.int .i64 k:=(hdep 9 rfl (by decide)).1
          clear hdep
          refine ⟨_,rfl,fun K' hK=>?_⟩
          simp only [h8,h9] at hK ⊢
          go_simp
          exact hK.out _ _ (Chg.refl _ _) rfl (fun b hb=>hb.elim)
         | 11,_ =>
          have h7:OwnInts wr.heap.size w8 (uu 41) (zs.take k ++ [n]):=(hdep 7 rfl (by decide)).1
          have h10:(uu 44)=.slice (some ⟨g,k,none⟩) 0 (cap - k):=(hdep 10 rfl (by decide)).1
          clear hdep
          refine ⟨_,rfl,fun K' hK=>?_⟩
          refine step_append_at w8 rfl _ _ 25 rfl (some 45) rfl wr.heap.size 3 i0 (.int .i64 0) 1 8 Tryz.underlying25 HI.out HZ0.out HZ1.out HZ2.out rfl (by decide) _ _ _ rfl h7 ⟨g,k,none⟩ 0 (cap - k) ((zs.drop k).map (.int .i64)) h10 (by have:=HLn.out;simp;omega) (fun t y ht=>by rw [List.drop_eq_nil_of_le (by have:=HLn.out;omega)] at ht;cases ht) (one_ints _) (by have:=HLn.out;unfold maxLen;simp <;> omega) (by have:=HLn.out;simp <;> omega) S8.size ?_
          intro v' w' hown hg hat
          refine hK.out v' w' (Chg.of_grown hg (fun b hb=>⟨7,rfl,by decide,hb⟩)) (by have h9:=hown;show OwnInts wr.heap.size w' v' (zs.take k ++ [n] ++ zs.drop k);unfold OwnInts;rw [List.length_append (bs:=zs.drop k),List.map_append,show (zs.drop k).length=0 by have:=HLn.out;simp <;> omega];exact h9) (fun b hb=>⟨(World.ownsRow.lt hown b hb).2,?_⟩)
          rcases hat with hat|hat
          · exact .inl ⟨7,rfl,by decide,by rw [hat] at hb;exact hb⟩
          · rw [hat] at hb
            injection hb with hb
            exact .inr (Nat.le_of_eq hb)
         | i+12,hi=>exact absurd hi (by omega)
        case pre =>
         intro uu w8 S8 hdep
         have h11:OwnInts wr.heap.size w8 (uu 45) (zs.take k ++ [n] ++ zs.drop k):=(hdep 11 rfl (by decide)).1
         clear hdep
         refine ⟨_,rfl,fun K' hK=>?_⟩
         go_simp
         exact hK.out _ _ ⟨h11,S8⟩
        case last =>
         intro uu w8 hψ
         obtain ⟨hor,hb⟩:=hψ
         have HF:Hid (OwnInts wr.heap.size w8 (uu 4) (zs.take k ++ [n] ++ zs.drop k)):=hid hor
         have HB8:=hid (HBr.out.trans (hb.mono hsr))
         clear hor hb
         refine ⟨_,rfl,fun K' hK=>?_⟩
         go_simp
         refine hK.out _ _ ?_
         go_wp2_with fail
         go_ret2
         unfold InsOut
         rw [HLn.out]
         exact ⟨_,true,k,rfl,Nat.le_refl _,HLow.out,.inr ⟨rfl,fun h=>absurd h (Nat.lt_irrefl _),HF.out.mono hsr⟩,HB8.out⟩
end Go.Proofs.YthompjbplddkgaaGreatDoor.insSpec
