import Derived.Test.YthompjbplddkgaaGreatDoorNumbers
import Derived.Laws.AppendOwn
import Derived.Lib.IndexBytes
set_option linter.unusedVariables false
namespace Go.Proofs.YthompjbplddkgaaGreatDoor.askWords
open Go.RowKit Go.Deep base numbers
def cutC (c : UInt8) : List UInt8→List (List UInt8)
 | []=>[[]]
 | b::l=>if b=c then []::cutC c l else match cutC c l with
  | h::t=>(b::h)::t
  | []=>[[b]]
theorem cutC_miss (c:UInt8):∀ a:List UInt8,(∀ x∈a,x≠c)→cutC c a=[a]
 | [],_=>rfl
 | b::l,h=>by
  have ih:=cutC_miss c l (fun x hx=>h x (by simp [hx]))
  rw [cutC,if_neg (h b (by simp)),ih]
theorem cutC_hit (c:UInt8):∀ (a b:List UInt8),(∀ x∈a,x≠c)→cutC c (a ++ c::b)=a::cutC c b
 | [],b,_=>by simp [cutC]
 | d::l,b,h=>by
  have ih:=cutC_hit c l b (fun x hx=>h x (by simp [hx]))
  rw [List.cons_append,cutC,if_neg (h d (by simp)),ih]
theorem idx_none (c:UInt8):∀ l:List UInt8,Lib.indexByte l c = -1→∀ x∈l,x≠c
 | [],_,x,hx=>by cases hx
 | b::l,h,x,hx=>by
  unfold Lib.indexByte at h
  split at h
  · cases h
  · rename_i hb
    have hb':b≠c:=fun e=>hb (by simp [e])
    split at h
    · rename_i h2
      rcases List.mem_cons.1 hx with rfl|hx
      · exact hb'
      · exact idx_none c l (by simpa using h2) x hx
    · have:=Lib.indexByte_ge l c
      omega
theorem idx_some (c:UInt8):∀ (l:List UInt8) (i:Nat),Lib.indexByte l c=i→l=l.take i ++ c::l.drop (i+1)∧∀ x∈l.take i,x≠c
 | [],i,h=>by simp [Lib.indexByte] at h
 | b::l,i,h=>by
  unfold Lib.indexByte at h
  split at h
  · rename_i hb
    have hi:i=0:=by omega
    have hb':b=c:=by simpa using hb
    subst hi hb'
    simp
  · rename_i hb
    have hb':b≠c:=fun e=>hb (by simp [e])
    split at h
    · omega
    · rename_i h2
      have hge:=Lib.indexByte_ge l c
      have h2':Lib.indexByte l c≠-1:=by simpa using h2
      obtain ⟨j,rfl⟩:∃ j,i=j+1:=⟨i - 1,by omega⟩
      obtain ⟨e,hn⟩:=idx_some c l j (by omega)
      refine ⟨?_,?_⟩
      · simp only [List.take_succ_cons,List.cons_append,List.drop_succ_cons]
        rw [← e]
      · intro x hx
        simp only [List.take_succ_cons] at hx
        rcases List.mem_cons.1 hx with rfl|hx
        · exact hb'
        · exact hn x hx
def piece (l : List UInt8) : ByteArray := ⟨l.toArray⟩
theorem idx_nl (s:ByteArray):Lib.indexB s ⟨#[32]⟩=Lib.indexByte s.data.toList 32:=Lib.one s ⟨#[32]⟩ rfl
theorem split_cut : ∀ (n:Nat) (s:ByteArray),Lib.countB s ⟨#[32]⟩=n→Lib.splitB ⟨#[32]⟩ 0 n s=(cutC 32 s.data.toList).map piece:=by
 have hself:∀ s:ByteArray,piece s.data.toList=s:=fun s=>rfl
 have miss:∀ s:ByteArray,Lib.indexB s ⟨#[32]⟩ = -1→(cutC 32 s.data.toList).map piece=[s]:=fun s h=>by
  rw [cutC_miss 32 _ (idx_none 32 _ (by rw [← idx_nl];exact h))]
  rfl
 intro n
 induction n with
 | zero =>
  intro s h
  rcases Lib.indexB_cases s ⟨#[32]⟩ with h1|⟨i,h1,h2⟩
  · rw [miss s h1];rfl
  · have:=Lib.countB_hit s ⟨#[32]⟩ i (Nat.le_refl _) h1
    omega
 | succ n ih =>
  intro s h
  rcases Lib.indexB_cases s ⟨#[32]⟩ with h1|⟨i,h1,h2⟩
  · have:=Lib.countB_miss s ⟨#[32]⟩ h1
    omega
  · have hc:=Lib.countB_hit s ⟨#[32]⟩ i (Nat.le_refl _) h1
    rw [Lib.splitB_hit _ _ _ _ i h1,ih _ (by omega)]
    obtain ⟨e,hn⟩:=idx_some 32 s.data.toList i (by rw [← idx_nl];exact h1)
    have e2:cutC 32 s.data.toList=s.data.toList.take i::cutC 32 (s.data.toList.drop (i+1)):=by
     conv=>lhs;rw [e]
     exact cutC_hit 32 _ _ hn
    rw [e2,List.map_cons]
    congr 1
    · rw [← hself (s.extract 0 (i+0)),Lib.extract_from_zero];rfl
    · rw [Lib.extract_to_end];rfl
theorem info_str : (Tryz.prog.info? 9).map (fun i=>(i.zero,i.size,i.bytes))=some (some (.string ⟨#[]⟩),1,16):=by kernel_rfl
theorem split_impl (s:ByteArray) (m:Int) (w:World) (hs:s.size<4294967281) (hm:w.cell? ⟨1,0,none⟩=some (.int .i64 m)) :
  Calls Tryz.prog 39 #[.string s,.string ⟨#[32]⟩] w fun e w'=>e=.returned (.slice (some ⟨w.heap.size,0,none⟩) (cutC 32 s.data.toList).length (cutC 32 s.data.toList).length)∧w' = w.alloc (.cells ((cutC 32 s.data.toList).map fun l=>Value.string (piece l)).toArray 9):=by
 have h:=Any.strings_Split Tryz.lays146 info_str s ⟨#[32]⟩ m w hs hm (Nat.le_refl _)
 change Calls Tryz.prog 39 _ _ _ at h
 have e1:=split_cut _ s rfl
 have e2:=Lib.splitB_all ⟨#[32]⟩ (Nat.le_refl _) 0 _ s rfl
 rw [e1,List.length_map] at e2
 refine h.mono ?_
 rintro e w' ⟨rfl,rfl⟩
 rw [e1,← e2,List.map_map]
 exact ⟨rfl,rfl⟩
theorem piece_part (s:ByteArray) (a b:Nat):s.extract a b=piece ((s.data.toList.drop a).take (b - a)):=by
 have h:=Lib.extract_data s a b
 have e:piece (s.extract a b).data.toList=s.extract a b:=rfl
 rw [← e,h]
def kept (l : List (List UInt8)) : List (List UInt8) := l.filter fun x=>!x.isEmpty
def wordsL (l : List UInt8) : List (List UInt8) := kept (cutC 32 l)
theorem cutC_len (c:UInt8):∀ l:List UInt8,(cutC c l).length≤l.length+1
 | []=>by simp [cutC]
 | b::l=>by
  have ih:=cutC_len c l
  rw [cutC]
  split
  · simp;exact ih
  · split
    · rename_i h;rw [h] at ih;simp at ih ⊢;omega
    · simp
theorem cutC_small (c:UInt8):∀ (l:List UInt8) x,x∈cutC c l→x.length≤l.length
 | [],x,h=>by simp [cutC] at h;simp [h]
 | b::l,x,h=>by
  have ih:=cutC_small c l
  rw [cutC] at h
  split at h
  · rcases List.mem_cons.1 h with rfl|h
    · simp
    · have:=ih x h;simp;omega
  · split at h
    · rename_i hd tl e
      rcases List.mem_cons.1 h with rfl|h
      · have:=ih hd (by rw [e];simp);simp;omega
      · have:=ih x (by rw [e];simp [h]);simp;omega
    · simp at h;simp [h]
theorem kept_len (l:List (List UInt8)):(kept l).length≤l.length:=List.length_filter_le _ _
theorem words_small {l x:List UInt8} (h:x∈wordsL l):x.length≤l.length:=cutC_small 32 l x (List.mem_filter.1 h).1
theorem words_some {l x:List UInt8} (h:x∈wordsL l):x≠[]:=by
 have:=(List.mem_filter.1 h).2
 intro e
 subst e
 simp at this
def strC (l : List (List UInt8)) : List Value := l.map fun x=>Value.string (piece x)
theorem at_one {w:World} {b:Nat} {x:Value} (h0:w.cell? ⟨b,0,none⟩=some x):∀ j u,[x][j]? = some u→w.cell? ((⟨b,0,none⟩:Addr).add j)=some u:=by
 intro j u h
 match j,h with
 | 0,h=>simp at h;subst h;simpa [Addr.add] using h0
 | j+1,h=>simp at h
theorem byte_ne {x:UInt8} (h:((x.toNat:Int) == 32)=false):x≠32:=fun e=>by subst e;simp at h
theorem byte_eq {x:UInt8} (h:((x.toNat:Int) == 32)=true):x=32:=by
 have:(x.toNat:Int)=32:=by simpa using h
 exact UInt8.toNat_inj.1 (show x.toNat=(32:UInt8).toNat from by have:(32:UInt8).toNat=32:=rfl;omega)
theorem own_pass {B n:Nat} {w w1:World} {v:Value} {t:TypeId} {s:Nat} {xs:List Value} (h:w.ownsRow B t s v n xs) (hb:Below w.heap.size w w1):w1.ownsRow B t s v n xs:=by
 obtain ⟨h1,h2⟩:=h
 refine ⟨h1,?_⟩
 rcases h2 with h2|⟨g,cap,cur,e,hg,hh,hn,hm,hs,ht⟩
 · exact .inl h2
 · exact .inr ⟨g,cap,cur,e,hg,by rw [hb.block g (Array.getElem?_eq_some_iff.1 hh).1];exact hh,hn,hm,hs,ht⟩
theorem own_none (w:World) {B N:Nat} (t:TypeId) (hN:w.heap.size=N) (hB:B≤N):(w.alloc (.cells #[] t)).ownsRow B t 1 (.slice (some ⟨N,0,none⟩) 0 0) 0 []:=by
 subst hN
 exact ⟨rfl,.inr ⟨_,0,#[],rfl,hB,heap_alloc_new w _,Nat.le_refl _,Nat.zero_le _,rfl,rfl⟩⟩
def OwnT (B : Nat) (w : World) (v : Value) (l : List (List UInt8)) : Prop := w.ownsRow B 9 1 v l.length (strC l)
theorem own_mono {B B':Nat} {w:World} {v:Value} {l:List (List UInt8)} (h:OwnT B w v l) (hB:B'≤B):OwnT B' w v l:=by
 obtain ⟨h1,h2⟩:=h
 refine ⟨h1,?_⟩
 rcases h2 with h2|⟨g,cap,cur,e,hg,hn⟩
 · exact .inl h2
 · exact .inr ⟨g,cap,cur,e,Nat.le_trans hB hg,hn⟩
theorem own_add {B:Nat} {w:World} {v:Value} {l:List (List UInt8)} {x:List UInt8} {y:ByteArray} (hy:y=piece x) (h:w.ownsRow B 9 1 v (l.length+1) (strC l ++ [.string y])):OwnT B w v (l ++ [x]):=by
 subst hy
 show World.ownsRow _ _ _ _ _ _ _
 have e1:strC (l ++ [x])=strC l ++ [.string (piece x)]:=by simp [strC]
 rw [e1,List.length_append]
 exact h
set_option maxHeartbeats 1600000 in
set_option maxRecDepth 8000 in
theorem words_spec (s:ByteArray) (w:World) (hs:s.size≤1048576) :
  Calls Tryz.prog 20 #[.string s] w fun e w'=>∃ v,e=.returned v∧OwnT w.heap.size w' v (wordsL s.data.toList)∧Below w.heap.size w w' := by
 obtain ⟨i0,hi,hzz⟩:=Option.map_eq_some_iff.1 info_str
 simp only [Prod.mk.injEq] at hzz
 obtain ⟨hz0,hz1,hz2⟩:=hzz
 have HI:=hid hi
 have HZ0:=hid hz0
 have HZ1:=hid hz1
 have HZ2:=hid hz2
 clear hi hz0 hz1 hz2
 have hLs:s.data.toList.length=s.size:=by simp
 obtain ⟨L,hL⟩:∃ L,s.data.toList=L:=⟨_,rfl⟩
 have HLs:Hid (L.length=s.size):=by show _=_;rw [← hL];exact hLs
 have HPart:Hid (∀ a b,s.extract a b=piece ((L.drop a).take (b - a))):=fun a b=>by rw [← hL];exact piece_part s a b
 have HAt:Hid (∀ k (h:k<s.size),L[k]? = some s[k]):=fun k h=>by
  subst hL
  rw [List.getElem?_eq_getElem (by simpa using h)]
  rfl
 rw [hL]
 clear hL hLs
 go_enter Tryz.func20,Tryz.ntmps20
 go_wp2
 go_loopw [3,4,5] (fun v st i wr=>∃ (k a:Nat) (out:List (List UInt8)),k≤s.size+1∧a≤k∧i=.int .i64 k∧st=.int .i64 a∧out.length≤k∧OwnT w.heap.size wr v out∧Below w.heap.size w wr ∧
  wordsL L=out ++ wordsL (L.drop a)∧(∀ x∈(L.drop a).take (k - a),x≠32)∧(s.size<k→a=k)) (fun _ _ i _=>s.size+1 - (intOf i).toNat)
 case atStart=>exact ⟨0,0,[],Nat.zero_le _,Nat.zero_le _,rfl,rfl,Nat.le_refl _,own_none w _ rfl (Nat.le_refl _),(Below.refl _ _).alloc (Nat.le_refl _) _,rfl,by simp,fun h=>absurd h (by omega)⟩
 case round =>
  obtain ⟨k,a,out,hk,hak,rfl,rfl,hol,hown,hbel,hcut,hno,hfin⟩:=hrel
  have HO:=hid hown
  have HB:=hid hbel
  have HC:=hid hcut
  have HN:=hid hno
  have HF:=hid hfin
  clear hown hbel hcut hno hfin
  have HP:=hid (HPart.out a k)
  by_cases hend:k≤s.size
  · have HG : Hid (∀ (x : UInt8) (R : List UInt8), L.drop a = (L.drop a).take (k - a) ++ 32 :: R → wordsL L = (out ++ (if a < k then [(L.drop a).take (k - a)] else [])) ++ wordsL R) := fun x R e => by
     rw [HC.out]
     have e1:wordsL (L.drop a)=(if a<k then [(L.drop a).take (k - a)] else []) ++ wordsL R:=by
      have e2:wordsL (L.drop a)=kept ((L.drop a).take (k - a)::cutC 32 R):=by
       show kept (cutC 32 (L.drop a))=_
       conv=>lhs;rw [e]
       rw [cutC_hit 32 _ _ HN.out]
      rw [e2]
      have hlen:((L.drop a).take (k - a)).length=k - a:=by rw [List.length_take,List.length_drop,HLs.out];omega
      unfold kept
      by_cases h:a<k
      · rw [if_pos h, List.filter_cons_of_pos (by
         cases h9:(L.drop a).take (k - a) with
         | nil=>rw [h9] at hlen;simp at hlen;omega
         | cons _ _=>rfl)]
        rfl
      · rw [if_neg h, List.filter_cons_of_neg (by
         have:k - a=0:=by omega
         rw [this];simp)]
        rfl
     rw [e1,List.append_assoc]
    by_cases hlt:k<s.size
    · have hat:=HAt.out k hlt
      have HTk:Hid (L.drop a=(L.drop a).take (k - a) ++ s[k]::L.drop (k+1)):=by
       show _=_
       have h1:(L.drop a).drop (k - a)=s[k]::L.drop (k+1):=by
        rw [List.drop_drop,show a+(k - a)=k from by omega]
        have hl:k<L.length:=by rw [HLs.out];exact hlt
        rw [List.drop_eq_getElem_cons hl]
        rw [List.getElem?_eq_getElem hl] at hat
        rw [Option.some.inj hat]
       rw [← h1,List.take_append_drop]
      have HTs:Hid ((L.drop a).take (k+1 - a)=(L.drop a).take (k - a) ++ [s[k]]):=by
       show _=_
       have h2:(L.drop a)[k - a]? = some s[k]:=by rw [List.getElem?_drop,show a+(k - a)=k from by omega];exact hat
       rw [show k+1 - a=(k - a)+1 from by omega,List.take_add_one,h2]
       rfl
      clear hat
      have hne:((k:Int) == (s.size:Int))=false:=beq_eq_false_iff_ne.2 (by omega)
      by_cases hq:((s[k].toNat:Int) == 32)=true
      · have HC2 := hid (HG.out 0 (L.drop (k + 1)) (by
         have h1:=HTk.out
         rw [byte_eq hq] at h1
         exact h1))
        clear HTk HTs HC HG
        by_cases h9:a<k
        · have hda:decide ((a:Int)<(k:Int))=true:=decide_eq_true (by omega)
          rw [if_pos h9] at HC2
          go_wp2_with (at_builtin;(refine wpList_append_own _ rfl _ _ 23 rfl w.heap.size 9 i0 _ 1 16 Tryz.underlying23 HI.out HZ0.out HZ1.out HZ2.out rfl (by decide) _ _ _ rfl (own_pass HO.out Bl) ⟨wr.heap.size,0,none⟩ 1 1 [.string (s.extract a k)] rfl rfl (at_one (by simp [go_sem])) (by simp [Value.oneCell']) (by unfold maxLen;omega) (by omega) (by simp;exact Nat.le_succ_of_le HB.out.size) ?_);intro v2 w2 hown2 hg2 hnil2)
          have HB2:Hid (Below w.heap.size w w2):=(show Below w.heap.size w _ from HB.out.alloc HB.out.size _).grown hg2 (by simp;exact Nat.le_succ_of_le HB.out.size) (fun j hj=>(HO.out.lt j hj).1)
          have HO2:Hid (OwnT w.heap.size w2 v2 (out ++ [(L.drop a).take (k - a)])):=own_add HP.out hown2
          clear hown2 hg2 hnil2
          go_wp2
          exact ⟨⟨k+1,k+1,out ++ [(L.drop a).take (k - a)],by omega,Nat.le_refl _,by go_num,by go_num,by simp;omega,HO2.out,HB2.out,HC2.out,by simp,fun _=>rfl⟩,by simp [intOf];omega⟩
        · have hda:decide ((a:Int)<(k:Int))=false:=decide_eq_false (by omega)
          rw [if_neg h9,List.append_nil] at HC2
          go_wp2
          exact ⟨⟨k+1,k+1,out,by omega,Nat.le_refl _,by go_num,by go_num,by omega,HO.out,HB.out,HC2.out,by simp,fun _=>rfl⟩,by simp [intOf];omega⟩
      · have hq':((s[k].toNat:Int) == 32)=false:=by simpa using hq
        have HN2:Hid (∀ x∈(L.drop a).take (k+1 - a),x≠32):=by
         show ∀ x∈_,_
         rw [HTs.out]
         intro x hx
         rcases List.mem_append.1 hx with hx|hx
         · exact HN.out x hx
         · simp at hx;subst hx;exact byte_ne hq'
        clear HTk HTs hq HG
        go_wp2
        exact ⟨⟨k+1,a,out,by omega,by omega,by go_num,rfl,by omega,HO.out,HB.out,HC.out,HN2.out,fun h=>absurd h (by omega)⟩,by simp [intOf];omega⟩
    · have e:k=s.size:=by omega
      have hq:((k:Int) == (s.size:Int))=true:=by simp [e]
      have HC2:Hid (wordsL L=(out ++ (if a<k then [(L.drop a).take (k - a)] else [])) ++ wordsL (L.drop (k+1))):=by
       show _=_
       have h0:L.drop (k+1)=[]:=List.drop_eq_nil_of_le (by rw [HLs.out];omega)
       have h1:(L.drop a).take (k - a)=L.drop a:=List.take_of_length_le (by rw [List.length_drop,HLs.out];omega)
       have h2:(L.drop a).length=k - a:=by rw [List.length_drop,HLs.out,e]
       have h3:=HN.out
       rw [h1] at h3
       rw [HC.out,h0,h1]
       have e1:wordsL (L.drop a)=if a<k then [L.drop a] else []:=by
        show kept (cutC 32 (L.drop a))=_
        rw [cutC_miss 32 _ h3]
        by_cases h:a<k
        · rw [if_pos h]
          unfold kept
          rw [List.filter_cons_of_pos (by
           cases h9:L.drop a with
           | nil=>rw [h9] at h2;simp at h2;omega
           | cons _ _=>rfl)]
          rfl
        · rw [if_neg h]
          have h9:L.drop a=[]:=List.length_eq_zero_iff.1 (by omega)
          rw [h9]
          rfl
       rw [e1]
       have e3:wordsL []=[]:=rfl
       rw [e3,List.append_nil]
      clear HC HN HG e
      by_cases h9:a<k
      · have hda:decide ((a:Int)<(k:Int))=true:=decide_eq_true (by omega)
        rw [if_pos h9] at HC2
        go_wp2_with (at_builtin;(refine wpList_append_own _ rfl _ _ 23 rfl w.heap.size 9 i0 _ 1 16 Tryz.underlying23 HI.out HZ0.out HZ1.out HZ2.out rfl (by decide) _ _ _ rfl (own_pass HO.out Bl) ⟨wr.heap.size,0,none⟩ 1 1 [.string (s.extract a k)] rfl rfl (at_one (by simp [go_sem])) (by simp [Value.oneCell']) (by unfold maxLen;omega) (by omega) (by simp;exact Nat.le_succ_of_le HB.out.size) ?_);intro v2 w2 hown2 hg2 hnil2)
        have HB2:Hid (Below w.heap.size w w2):=(show Below w.heap.size w _ from HB.out.alloc HB.out.size _).grown hg2 (by simp;exact Nat.le_succ_of_le HB.out.size) (fun j hj=>(HO.out.lt j hj).1)
        have HO2:Hid (OwnT w.heap.size w2 v2 (out ++ [(L.drop a).take (k - a)])):=own_add HP.out hown2
        clear hown2 hg2 hnil2
        go_wp2
        exact ⟨⟨k+1,k+1,out ++ [(L.drop a).take (k - a)],by omega,Nat.le_refl _,by go_num,by go_num,by simp;omega,HO2.out,HB2.out,HC2.out,by simp,fun _=>rfl⟩,by simp [intOf];omega⟩
      · have hda:decide ((a:Int)<(k:Int))=false:=decide_eq_false (by omega)
        rw [if_neg h9,List.append_nil] at HC2
        go_wp2
        exact ⟨⟨k+1,k+1,out,by omega,Nat.le_refl _,by go_num,by go_num,by omega,HO.out,HB.out,HC2.out,by simp,fun _=>rfl⟩,by simp [intOf];omega⟩
  · have hdk:decide ((k:Int)≤(s.size:Int))=false:=decide_eq_false (by omega)
    have ha:=HF.out (by omega)
    have HE:Hid (wordsL L=out):=by
     show _=_
     rw [HC.out,List.drop_eq_nil_of_le (by rw [HLs.out];omega)]
     exact List.append_nil _
    clear HC HN HF ha
    go_wp2
    go_ret
    exact ⟨_,rfl,by rw [HE.out];exact HO.out,HB.out⟩
set_option maxHeartbeats 1600000 in
set_option maxRecDepth 8000 in
theorem words_impl (s:ByteArray) (m:Int) (w:World) (hs:s.size≤1048576) (hm:w.cell? ⟨1,0,none⟩=some (.int .i64 m)) :
  Calls Tryz.prog 16 #[.string s] w fun e w'=>∃ v,e=.returned v∧OwnT w.heap.size w' v (wordsL s.data.toList)∧Below w.heap.size w w' := by
 obtain ⟨i0,hi,hzz⟩:=Option.map_eq_some_iff.1 info_str
 simp only [Prod.mk.injEq] at hzz
 obtain ⟨hz0,hz1,hz2⟩:=hzz
 have HI:=hid hi
 have HZ0:=hid hz0
 have HZ1:=hid hz1
 have HZ2:=hid hz2
 clear hi hz0 hz1 hz2
 have HS:=hid (split_impl s m w (by omega) hm)
 have HL1:=hid (cutC_len 32 s.data.toList)
 have hLs:s.data.toList.length=s.size:=by simp
 rw [hLs] at HL1
 have HW:Hid (wordsL s.data.toList=kept (cutC 32 s.data.toList)):=rfl
 generalize wordsL s.data.toList=ws at *
 generalize cutC 32 s.data.toList=L at *
 clear hLs hm
 have hLl:=HL1.out
 go_enter Tryz.func16,Tryz.ntmps16
 go_wp2_with fail
 refine HS.out.mono ?_
 rintro e w1 ⟨rfl,hw1⟩
 have HCell:Hid (∀ k (h:k<L.length),w1.cell? ⟨w.heap.size,k,none⟩=some (.string (piece L[k]))):=fun k h=>by
  rw [hw1]
  simp [go_sem,h]
 have HB1:Hid (Below w.heap.size w w1):=by rw [hw1];exact Bl
 have hz1:w1.heap.size=w.heap.size+1:=by rw [hw1];simp
 have HZ:=hid hz1
 clear hw1 hz1 HS
 go_wp2
 go_loopw [3,5,9] (fun v x i wr=>∃ k:Nat,k≤L.length∧i=.int .i64 k∧OwnT (w.heap.size+1) wr v (kept (L.take k))∧Below w1.heap.size w1 wr) (fun _ _ i _=>L.length - (intOf i).toNat)
 case atStart=>exact ⟨0,Nat.zero_le _,rfl,World.ownsRow_nil _ _ _ _,Below.refl _ _⟩
 case round =>
  obtain ⟨k,hk,rfl,hown,hbel⟩:=hrel
  have HO:=hid hown
  have HB:=hid hbel
  clear hown hbel
  have HBw:=hid (HB1.out.trans (HB.out.mono (by have:=HZ.out;omega)))
  have hsz:=HBw.out.size
  by_cases hlt:k<L.length
  · have hc:=keep HB.out (HCell.out k hlt)
    have HT:Hid (kept (L.take (k+1))=kept (L.take k) ++ kept [L[k]]):=by
     show _=_
     unfold kept
     rw [← List.filter_append,List.take_append_getElem hlt]
    have hkl:(kept (L.take k)).length≤k:=Nat.le_trans (kept_len _) (by simp;omega)
    generalize L[k]=y at *
    cases y with
    | nil =>
     have hq:((piece []).toList == ([]:List UInt8))=true:=by rw [toList_data];rfl
     have HT2:Hid (kept (L.take (k+1))=kept (L.take k)):=by
      show _=_
      rw [HT.out]
      exact List.append_nil _
     clear HT
     go_wp2
     go_roundw
     case rel=>exact ⟨k+1,by omega,by go_num,by rw [HT2.out];exact HO.out,HB.out⟩
     case measure=>simp [intOf];omega
    | cons y0 ys =>
     have HT2:Hid (kept (L.take (k+1))=kept (L.take k) ++ [y0::ys]):=HT.out
     have hq:((piece (y0::ys)).toList == ([]:List UInt8))=false:=by
      rw [toList_data]
      rfl
     clear HT
     generalize hY:piece (y0::ys)=Y at *
     have HY:=hid hY.symm
     clear hY
     go_wp2_with (at_builtin;(refine wpList_append_own _ rfl _ _ 23 rfl (w.heap.size+1) 9 i0 _ 1 16 Tryz.underlying23 HI.out HZ0.out HZ1.out HZ2.out rfl (by decide) _ _ _ rfl (own_pass HO.out Bl) ⟨wr.heap.size,0,none⟩ 1 1 [.string Y] rfl rfl (at_one (by simp [go_sem])) (by simp [Value.oneCell']) (by unfold maxLen;omega) (by omega) (by simp;have:=HB.out.size;have:=HZ.out;omega) ?_);intro v2 w2 hown2 hg2 hnil2)
     have HB2:Hid (Below w1.heap.size w1 w2):=(show Below w1.heap.size w1 _ from HB.out.alloc HB.out.size _).grown hg2 (by simp;exact Nat.le_succ_of_le HB.out.size) (fun j hj=>by have:=(HO.out.lt j hj).1;have:=HZ.out;omega)
     have HO2:Hid (OwnT (w.heap.size+1) w2 v2 (kept (L.take k) ++ [y0::ys])):=own_add HY.out hown2
     clear hown2 hg2 hnil2
     go_wp2
     go_roundw
     case rel=>exact ⟨k+1,by omega,by go_num,by rw [HT2.out];exact HO2.out,HB2.out⟩
     case measure=>simp [intOf];omega
  · have e:k=L.length:=by omega
    have HE:Hid (ws=kept (L.take k)):=by
     show _=_
     rw [HW.out,e,List.take_length]
    have hdk:decide ((k:Int)<(L.length:Int))=false:=decide_eq_false (by omega)
    clear e
    go_wp2
    go_ret
    exact ⟨_,rfl,by rw [HE.out];exact own_mono HO.out (by omega),HBw.out⟩
end Go.Proofs.YthompjbplddkgaaGreatDoor.askWords
