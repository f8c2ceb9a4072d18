import Derived.Test.YtajhklklbfnmpaaGreatPart8
set_option linter.unusedVariables false
namespace Go.Proofs.YtajhklklbfnmpaaGreat.hopBetween
open Go.RowKit Go.Deep Go base netSem routeRow nbSem candSem hopSem intsOwn hopMake hopOnce
structure Fit (b : Nat) (F : Nat→Value) (w : World) (p1 p4 : Option Addr) (l1 l4 c1 c4 : Nat) (g x : R) : Prop where
 f1:F 1=.slice p1 l1 c1
 f4:F 4=.slice p4 l4 c4
 links:Row 3 w p1 l1 g
 imports:Row 5 w p4 l4 x
 gi:∀ i,i < l1→0≤g i 0∧g i 0 < 4∧0≤g i 1∧g i 1 < 4∧g i 0 ≠ g i 1
 xi:∀ i,i < l4→0≤x i 0∧x i 0 < 4∧0≤x i 1∧x i 1 < 4
 few:l4≤12
 n1:∀ a o,0 < l1→p1=some ⟨a,o,none⟩→a ≠ b
 n4:∀ a o,0 < l4→p4=some ⟨a,o,none⟩→a ≠ b
structure Made (b B : Nat) (F F' : Nat→Value) (w : World) (l1 l4 : Nat) (g x : R) (V : Nat→Nat→Value) : Prop where
 row:w.rowIs b 82 57 F'
 net:∀ o,o < 6→F' o=F o
 done:F' 6=.int .u32 1
 hops:Hf F' (fun p q=>lkT g p q l1) (fun p q=>ckT g p q l1) V
 own:∀ p q,p < 4→q < 4→OwnImp B w (V p q) x (jsT x p q l4)
theorem row_off {m : Nat} {w : World} {p : Option Addr} {l b o : Nat} {g : R} {v : Value} (h : Row m w p l g) (hn : ∀ a o,0 < l→p=some ⟨a,o,none⟩→a ≠ b) : Row m (w.setCell ⟨b,o,none⟩ v) p l g :=
 ⟨h.most,fun i hi=>by
  obtain ⟨a,off,e,hc⟩:=h.cell i hi
  exact ⟨a,off,e,fun j hj=>(World.cell?_of_block (a:=⟨a,off+i * m+j,none⟩) (Below.heap_setCell _ _ _ _ (by dsimp only;exact hn a off (by omega) e))).trans (hc j hj)⟩⟩
set_option maxRecDepth 100000 in
set_option maxHeartbeats 3200000 in
theorem slow_hops (b : Nat) (F : Nat→Value) (p1 p4 : Option Addr) (l1 l4 c1 c4 : Nat) (g x : R) (w : World) (hr : w.rowIs b 82 57 F) (hf : Fit b F w p1 p4 l1 l4 c1 c4 g x)
  (hz:Hf F (fun _ _=>0) (fun _ _=>0) (fun _ _=>.slice none 0 0)) (h6:F 6=.int .u32 0) (h7:F 7=.int .i32 0) :
  Calls Tryz.prog 166 #[.pointer (some ⟨b,6,none⟩),.func (.func 160) #[.pointer (some ⟨b,0,none⟩)] #[]] w fun e w'=>e=.returned (.tuple #[])∧∃ V F',Made b w.heap.size F F' w' l1 l4 g x V∧w.grownBy w' (some b):=by
 have c6:w.cell? ⟨b,6,none⟩=some (.int .u32 0):=by rw [hr.cell (i:=6) (by omega),h6]
 have c7:w.cell? ⟨b,7,none⟩=some (.int .i32 0):=by rw [hr.cell (i:=7) (by omega),h7]
 have z7:=hr.frozen 7
 have hbw:=hr.lt
 have r1:=hr.set 7 (.int .i32 1)
 have HM:=hid (make_hops b p1 p4 l1 l4 c1 c4 g x _ _ r1 (by rw [if_neg (by omega)];exact hf.f1) (by rw [if_neg (by omega)];exact hf.f4) (row_off hf.links hf.n1) (row_off hf.imports hf.n4)
  (fun p q hp hq=>by
   have h:=hz p q hp hq
   unfold hopO at h ⊢
   dsimp only
   rw [if_neg (by omega),if_neg (by omega),if_neg (by omega)]
   exact h) hf.gi hf.xi hf.few hf.n1 hf.n4)
 have hl:=run_call_load (P:=Tryz.prog) Tryz.func169 (by kernel_rfl) (by kernel_rfl) (by kernel_rfl) .u32 (by kernel_rfl) (w:=w.setCell ⟨b,7,none⟩ (.int .i32 1)) (a:=⟨b,6,none⟩) (x:=0) ((World.cell?_setCell_other _ ⟨b,7,none⟩ ⟨b,6,none⟩ _ (by simp)).trans c6)
 have hnot:∀ (x:Bool) (w:World),(Op.unary .not (.bool x)).run Tryz.prog w=.ok (.bool (!x)) w:=fun _ _=>rfl
 have HR:=hid hr
 have HF:=hid hf
 have H6:=hid h6
 have HG1:Hid (w.grownBy (w.setCell ⟨b,7,none⟩ (.int .i32 1)) (some b)):=hid (grown_set (grown_refl _ _))
 have hs1:(w.setCell ⟨b,7,none⟩ (.int .i32 1)).heap.size=w.heap.size:=by simp [World.setCell]
 have HS1:=hid hs1
 clear hr hf hz h6 h7 r1 hs1
 go_enter_defers Tryz.func166,Tryz.ntmps166
 go_wp2_with (first | (go_at_call 170;refine (lock_free ⟨b,7,none⟩ _ (by go_simp) (by go_simp)).mono ?_;rintro e w' ⟨rfl,rfl⟩) | (go_at_call 160;refine HM.out.mono ?_;rintro e w2 ⟨rfl,V,F2,hr2,hF2,hh2,ho2,hg2⟩) | (go_at_call 165;go_in))
 have f6:F2 6=.int .u32 0:=by rw [hF2 6 (by omega),if_neg (by omega)];exact H6.out
 have f7:F2 7=.int .i32 1:=by rw [hF2 7 (by omega),if_pos rfl]
 refine leaves_cons (f:=172) (args:=#[.pointer (some ⟨b,6,none⟩),.bool true]) (by simp) (by simp [go_sem]) ?_
 refine (store_deferred ⟨b,6,none⟩ (.int .u32 0) .returning _ (by rw [hr2.cell (i:=6) (by omega),f6]) (hr2.frozen 6)).mono ?_
 rintro e u' w'' ⟨rfl,rfl,rfl⟩
 have r3:=(show w2.drew.rowIs b 82 57 F2 from hr2).set 6 (.int .u32 1)
 refine leaves_cons (f:=171) (args:=#[.pointer (some ⟨b,7,none⟩)]) (by simp [settle]) (by simp [go_sem]) ?_
 refine (unlock_deferred ⟨b,7,none⟩ _ _ (by rw [r3.cell (i:=7) (by omega),if_neg (by omega),f7]) (r3.frozen 7)).mono ?_
 rintro e u' w'' ⟨rfl,rfl,rfl⟩
 have r4:=r3.set 7 (.int .i32 0)
 have hres:∃ V' F',Made b w.heap.size F F' ((w2.drew.setCell ⟨b,6,none⟩ (.int .u32 1)).setCell ⟨b,7,none⟩ (.int .i32 0)) l1 l4 g x V'∧w.grownBy ((w2.drew.setCell ⟨b,6,none⟩ (.int .u32 1)).setCell ⟨b,7,none⟩ (.int .i32 0)) (some b):=by
  refine ⟨V,_,⟨r4,fun o ho=>?_,?_,fun p q hp hq=>?_,fun p q hp hq=>?_⟩,grown_set (grown_set (show w.grownBy w2.drew (some b) from ?_))⟩
  · rw [if_neg (by omega),if_neg (by omega),hF2 o (by omega),if_neg (by omega)]
  · rw [if_neg (by omega),if_pos rfl]
  · have h:=hh2 p q hp hq
    unfold hopO at h ⊢
    dsimp only
    rw [if_neg (by omega),if_neg (by omega),if_neg (by omega),if_neg (by omega),if_neg (by omega),if_neg (by omega)]
    exact h
  · have h:=ho2 p q hp hq
    rw [HS1.out] at h
    exact own_keep h fun q' hq'=>by
     have:=(World.ownsRow.lt h q' hq').1
     rw [Below.heap_setCell _ _ _ _ (by dsimp only;omega),Below.heap_setCell _ _ _ _ (by dsimp only;omega)]
     rfl
  · have h:=grown_trans HG1.out hg2
    exact ⟨h.os,h.tape,h.output,h.size,h.block⟩
 simp [Leaves,settle,results,Tryz.results166]
 obtain ⟨V',F',k1,k2⟩:=hres
 first
  | exact ⟨⟨V',F',k1⟩,k2⟩
  | exact ⟨V',F',k1,k2⟩
theorem do_hops (b : Nat) (F : Nat→Value) (p1 p4 : Option Addr) (l1 l4 c1 c4 : Nat) (g x : R) (w : World) (hr : w.rowIs b 82 57 F) (hf : Fit b F w p1 p4 l1 l4 c1 c4 g x)
  (hz:Hf F (fun _ _=>0) (fun _ _=>0) (fun _ _=>.slice none 0 0)) (h6:F 6=.int .u32 0) (h7:F 7=.int .i32 0) :
  Calls Tryz.prog 159 #[.pointer (some ⟨b,6,none⟩),.func (.func 160) #[.pointer (some ⟨b,0,none⟩)] #[]] w fun e w'=>e=.returned (.tuple #[])∧∃ V F',Made b w.heap.size F F' w' l1 l4 g x V∧w.grownBy w' (some b):=by
 have c6:w.cell? ⟨b,6,none⟩=some (.int .u32 0):=by rw [hr.cell (i:=6) (by omega),h6]
 have hl:=run_call_load (P:=Tryz.prog) Tryz.func169 (by kernel_rfl) (by kernel_rfl) (by kernel_rfl) .u32 (by kernel_rfl) c6
 have hnot:∀ (x:Bool) (w:World),(Op.unary .not (.bool x)).run Tryz.prog w=.ok (.bool (!x)) w:=fun _ _=>rfl
 have HS:=hid (slow_hops b F p1 p4 l1 l4 c1 c4 g x w hr hf hz h6 h7)
 clear hr hf hz h6 h7
 go_enter Tryz.func159,Tryz.ntmps159
 go_wp2_with (first | (go_at_call 166;refine HS.out.mono ?_;rintro e w' ⟨rfl,hres⟩) | (go_at_call 165;go_in))
 go_end0
 exact ⟨rfl,hres⟩
def Ready (b B : Nat) (F : Nat→Value) (w : World) (p1 p4 : Option Addr) (l1 l4 c1 c4 : Nat) (g x : R) : Prop :=
 (w.rowIs b 82 57 F∧Hf F (fun _ _=>0) (fun _ _=>0) (fun _ _=>.slice none 0 0)∧F 6=.int .u32 0∧F 7=.int .i32 0) ∨ ∃ V F',Made b B F F' w l1 l4 g x V
theorem made_mono {b B B' : Nat} {F F' : Nat→Value} {w : World} {l1 l4 : Nat} {g x : R} {V : Nat→Nat→Value} (h : Made b B F F' w l1 l4 g x V) (hB : B'≤B) : Made b B' F F' w l1 l4 g x V :=
 ⟨h.row,h.net,h.done,h.hops,fun p q hp hq=>by
  obtain ⟨h1,h2⟩:=h.own p q hp hq
  refine ⟨h1,?_⟩
  rcases h2 with h | ⟨g,cap,cur,e,hb,hr⟩
  · exact .inl h
  · exact .inr ⟨g,cap,cur,e,Nat.le_trans hB hb,hr⟩⟩
set_option maxHeartbeats 1600000 in
theorem hop_between (b B : Nat) (F : Nat→Value) (p1 p4 : Option Addr) (l1 l4 c1 c4 : Nat) (g x : R) (P Q : Nat) (w : World) (hr : Ready b B F w p1 p4 l1 l4 c1 c4 g x) (hf : Fit b F w p1 p4 l1 l4 c1 c4 g x) (hB : B≤w.heap.size) (hP : P < 4) (hQ : Q < 4) :
  Calls Tryz.prog 144 #[.pointer (some ⟨b,0,none⟩),.int .i64 (P:Int),.int .i64 (Q:Int)] w fun e w'=>e=.returned (.pointer (some ⟨b,hopO P Q,none⟩))∧∃ V F',Made b B F F' w' l1 l4 g x V∧w.grownBy w' (some b):=by
 have hmf:∀ (fn:Fn) (first cap:Array Value) (w:World),(Instr.makeFunc fn first cap).run Tryz.prog w=.ok (.func fn first cap) w:=fun _ _ _ _=>rfl
 have hPi:(P:Int) < 4:=by omega
 have hQi:(Q:Int) < 4:=by omega
 have HD:Hid (Calls Tryz.prog 159 #[.pointer (some ⟨b,6,none⟩),.func (.func 160) #[.pointer (some ⟨b,0,none⟩)] #[]] w fun e w'=>e=.returned (.tuple #[])∧∃ V F',Made b B F F' w' l1 l4 g x V∧w.grownBy w' (some b)):=hid (by
  rcases hr with ⟨h1,h2,h3,h4⟩ | ⟨V,F',hm⟩
  · refine (do_hops b F p1 p4 l1 l4 c1 c4 g x w h1 hf h2 h3 h4).mono ?_
    rintro e w' ⟨rfl,V,F',hm,hg⟩
    exact ⟨rfl,V,F',made_mono hm hB,hg⟩
  · have c6:w.cell? ⟨b,6,none⟩=some (.int .u32 1):=by rw [hm.row.cell (i:=6) (by omega),hm.done]
    refine (do_done ⟨b,6,none⟩ 1 (by decide) _ w c6).mono ?_
    rintro e w' ⟨rfl,rfl⟩
    exact ⟨rfl,V,F',hm,grown_refl _ _⟩)
 clear hr hf
 unfold hopO
 go_enter Tryz.func144,Tryz.ntmps144
 go_wp2_with (go_at_call 159;refine HD.out.mono ?_;rintro e w' ⟨rfl,hres⟩)
 go_ret
 exact ⟨rfl,hres⟩
end Go.Proofs.YtajhklklbfnmpaaGreat.hopBetween
namespace Go.Proofs.YtajhklklbfnmpaaGreat.netSpec
open Go.RowKit Go.Deep base names netSem
set_option maxHeartbeats 400000 in
theorem in_spec (n low high : Int) (w : World) :
  Calls Tryz.prog 20 #[.int .i64 n,.int .i64 low,.int .i64 high] w fun e w'=>e=.returned (.bool (inB n low high))∧w' = w:=by
 go_enter Tryz.func20,Tryz.ntmps20
 go_wp2
 all_goals
  go_ret
  refine ⟨ret_bool ?_,rfl⟩
  rw [Bool.eq_iff_iff];simp [inB, *];try omega
set_option maxHeartbeats 400000 in
theorem place_spec (a : Option Addr) (len cap : Nat) (s : Ss) (t : ByteArray) (w : World) (hr : StrRow w a len s) :
  Calls Tryz.prog 69 #[.slice a len cap,.string t] w fun e w'=>e=.returned (.int .i64 (nameAt s len t))∧w' = w:=by
 have hmost:=hr.most
 unfold maxLen at hmost
 have HC:=hid hr.cell
 clear hr
 go_enter Tryz.func69,Tryz.ntmps69
 go_wp2
 go_loop [5] (fun i=>∃ k:Nat,k≤len∧i=.int .i64 k∧∀ j,j < k→same s t j=false) (fun i=>len - (intOf i).toNat)
 case atStart=>exact ⟨0,Nat.zero_le _,rfl,fun j hj=>absurd hj (Nat.not_lt_zero _)⟩
 case round =>
  obtain ⟨k,hk,rfl,ha⟩:=hrel
  have HA:=hid ha
  clear ha
  by_cases hlt:k < len
  · obtain ⟨b,off,rfl,hc⟩:=HC.out k hlt
    by_cases he:(s k).toList=t.toList
    · have hq:((s k).toList == t.toList)=true:=by simp [he]
      have HE:=hid (show same s t k=true from decide_eq_true he)
      clear he
      go_wp2
      go_ret
      exact ⟨ret_int (firstAt_hit hlt HE.out HA.out).symm,rfl⟩
    · have hq:((s k).toList == t.toList)=false:=beq_eq_false_iff_ne.2 he
      have HE:=hid (show same s t k=false from decide_eq_false he)
      clear he
      go_wp2
      go_round
      case rel =>
       refine ⟨k+1,by omega,by go_num,fun j hj=>?_⟩
       by_cases e:j=k
       · subst e;exact HE.out
       · exact HA.out j (by omega)
      case measure=>simp [intOf];omega
  · have e:k=len:=by omega
    subst e
    go_wp2
    go_ret
    exact ⟨ret_int (firstAt_none HA.out).symm,rfl⟩
set_option maxHeartbeats 800000 in
theorem link_spec (p : Option Addr) (len cap : Nat) (g : R) (a b : Int) (w : World) (hr : Row 3 w p len g) :
  Calls Tryz.prog 70 #[.slice p len cap,.int .i64 a,.int .i64 b] w fun e w'=>e=.returned (.int .i64 (linkAt g len a b))∧w' = w:=by
 have hmost:=hr.most
 unfold maxLen at hmost
 have HR:=hid hr
 clear hr
 go_enter Tryz.func70,Tryz.ntmps70
 go_wp2
 go_loop [7] (fun i=>∃ k:Nat,k≤len∧i=.int .i64 k∧∀ j,j < k→hit g a b j=false) (fun i=>len - (intOf i).toNat)
 case atStart=>exact ⟨0,Nat.zero_le _,rfl,fun j hj=>absurd hj (Nat.not_lt_zero _)⟩
 case round =>
  obtain ⟨k,hk,rfl,ha⟩:=hrel
  have HA:=hid ha
  clear ha
  by_cases hlt:k < len
  · obtain ⟨b0,off,rfl,c0,c1,c2⟩:=HR.out.at3 hlt
    obtain ⟨D,hD⟩:∃ D,hit g a b k=D:=⟨_,rfl⟩
    have HQ:=hid hD
    have hE:decide (g k 0=a∧g k 1=b ∨ g k 0=b∧g k 1=a)=D:=hD
    clear hD
    generalize g k 0=x at *
    generalize g k 1=y at *
    generalize g k 2=z at *
    obtain ⟨p1,e1⟩:∃ p,(x == a)=p:=⟨_,rfl⟩
    obtain ⟨p2,e2⟩:∃ p,(y == b)=p:=⟨_,rfl⟩
    obtain ⟨p3,e3⟩:∃ p,(x == b)=p:=⟨_,rfl⟩
    obtain ⟨p4,e4⟩:∃ p,(y == a)=p:=⟨_,rfl⟩
    have HD:D=(p1 && p2 || p3 && p4):=by
     rw [← hE,← e1,← e2,← e3,← e4,Bool.eq_iff_iff]
     simp
    clear hE
    cases p1 <;> cases p2 <;> cases p3 <;> cases p4
    all_goals
     subst HD
     go_wp2
     first
     | (go_ret;exact ⟨ret_int (firstAt_hit hlt HQ.out HA.out).symm,rfl⟩)
     | (go_round
        case rel =>
         refine ⟨k+1,by omega,by go_num,fun j hj=>?_⟩
         by_cases e:j=k
         · subst e;exact HQ.out
         · exact HA.out j (by omega)
        case measure=>simp [intOf];omega)
  · have e:k=len:=by omega
    subst e
    go_wp2
    go_ret
    exact ⟨ret_int (firstAt_none HA.out).symm,rfl⟩
set_option maxHeartbeats 800000 in
theorem rising_spec (a : Option Addr) (len cap : Nat) (zs : List Int) (r : Nat) (w : World) (hr : IntRow w a len zs) (hm : r≤maxLen) :
  Calls Tryz.prog 67 #[.slice a len cap,.int .i64 r] w fun e w'=>e=.returned (.bool (risingB zs len r))∧∃ n,w' = w.drewN n:=by
 obtain ⟨hlen,hmost,hcell⟩:=hr
 unfold maxLen at hmost
 have HC:=hid hcell
 have HM:=hid hm
 unfold maxLen at hm
 clear hlen hcell
 go_enter Tryz.func67,Tryz.ntmps67
 go_wp2
 go_loopw [5] (fun i wr=>∃ k n:Nat,k≤len∧i=.int .i64 k∧(∀ j,j < k→risesB zs r j=true)∧wr=w.drewN n) (fun i _=>len - (intOf i).toNat)
 case atStart=>exact ⟨0,0,Nat.zero_le _,rfl,fun j hj=>absurd hj (Nat.not_lt_zero _),rfl⟩
 case round =>
  obtain ⟨k,n,hk,rfl,ha,hw⟩:=hrel
  have HA:=hid ha
  have HW:=hid hw
  clear ha
  by_cases hlt:k < len
  · obtain ⟨b,off,rfl,hc0⟩:=HC.out k hlt
    have hc:wr.cell? ⟨b,off+k,none⟩=some (.int .i64 (zAt zs k)):=by rw [hw];simpa [zAt] using hc0
    have HQ:Hid (risesB zs r k=(inB (zAt zs k) 0 (r - 1) && (decide (k=0) || decide (zAt zs (k - 1) < zAt zs k)))):=rfl
    obtain ⟨p1,e1⟩:∃ p,inB (zAt zs k) 0 (r - 1)=p:=⟨_,rfl⟩
    rw [e1] at HQ
    cases p1 with
    | false =>
     have HF:=hid (show risesB zs r k=false from HQ.out)
     clear hw hc0
     generalize zAt zs k=z at *
     go_wp2
     go_quiet (first | (go_at_call 20;exact Calls.quiet_of_same (in_spec _ _ _ _)))
     go_wp2
     go_ret
     exact ⟨ret_bool (allN_false hlt HF.out).symm,n+nq,by rw [HW.out,World.drewN_drewN]⟩
    | true =>
     by_cases hk0:k=0
     · have HF:=hid (show risesB zs r k=true by rw [HQ.out,decide_eq_true hk0];rfl)
       have ip3:decide ((0:Int) < (k:Int))=false:=decide_eq_false (by omega)
       have ip4:decide (0 < k)=false:=decide_eq_false (by omega)
       clear hw hc0 hk0
       generalize zAt zs k=z at *
       go_wp2
       go_quiet (first | (go_at_call 20;exact Calls.quiet_of_same (in_spec _ _ _ _)))
       go_wp2
       go_roundw
       case rel =>
        refine ⟨k+1,n+nq,by omega,by go_num,fun j hj=>?_,by rw [HW.out,World.drewN_drewN]⟩
        by_cases e:j=k
        · subst e;exact HF.out
        · exact HA.out j (by omega)
       case measure=>simp [intOf];omega
     · obtain ⟨m,hm1⟩:∃ m,k=m+1:=⟨k - 1,by omega⟩
       obtain ⟨b',off',hab,hd0⟩:=HC.out m (by omega)
       cases hab
       have hd:wr.cell? ⟨b,off+m,none⟩=some (.int .i64 (zAt zs m)):=by rw [hw];simpa [zAt] using hd0
       have ek:k - 1=m:=by omega
       have ip:(k:Int) - 1=(m:Int):=by omega
       have ip1:(m:Int) < (len:Int):=by omega
       have ip2:(k:Int) < (len:Int):=by omega
       have ip3:decide ((0:Int) < (k:Int))=true:=decide_eq_true (by omega)
       have ip4:decide (0 < k)=true:=decide_eq_true (by omega)
       have HQ2:Hid (risesB zs r k=decide (zAt zs m < zAt zs k)):=by
        show _=_
        rw [HQ.out,ek,decide_eq_false hk0];rfl
       have HM1:=hid hm1
       clear hw hc0 hd0 hm1 ek HQ
       obtain ⟨p2,e2⟩:∃ p,decide (zAt zs k≤zAt zs m)=p:=⟨_,rfl⟩
       have HF:Hid (risesB zs r k = !p2):=by
        show _=_
        rw [HQ2.out,← e2,Bool.eq_iff_iff];simp
       clear HQ2
       generalize zAt zs k=z at *
       generalize zAt zs m=y at *
       cases p2 with
       | true =>
        go_wp2
        go_quiet (first | (go_at_call 20;exact Calls.quiet_of_same (in_spec _ _ _ _)))
        go_wp2
        go_ret
        exact ⟨ret_bool (allN_false hlt HF.out).symm,n+nq,by rw [HW.out,World.drewN_drewN]⟩
       | false =>
        go_wp2
        go_quiet (first | (go_at_call 20;exact Calls.quiet_of_same (in_spec _ _ _ _)))
        go_wp2
        go_roundw
        case rel =>
         refine ⟨k+1,n+nq,by omega,by go_num,fun j hj=>?_,by rw [HW.out,World.drewN_drewN]⟩
         by_cases e:j=k
         · subst e;exact HF.out
         · exact HA.out j (by omega)
        case measure=>simp [intOf];omega
  · have e:k=len:=by omega
    subst e
    go_wp2
    go_ret
    exact ⟨ret_bool (allN_of HA.out).symm,n,by first | exact HW.out | rfl⟩
end Go.Proofs.YtajhklklbfnmpaaGreat.netSpec
namespace Go.Proofs.YtajhklklbfnmpaaGreat.candWay
open Go.RowKit Go.Deep Go base names netSem netSpec nbSem routeRow candSem
set_option maxHeartbeats 800000 in
theorem has_spec (a : Option Addr) (len cap : Nat) (z : List Int) (v : Int) (w : World) (hr : IntRow w a len z) :
  Calls Tryz.prog 100 #[.slice a len cap,.int .i64 v] w fun e w'=>e=.returned (.int .i64 (hasAt z v))∧w' = w:=by
 obtain ⟨hlen,hmost,hcell⟩:=hr
 unfold maxLen at hmost
 have HC:=hid hcell
 have HL:=hid hlen
 clear hcell hlen
 go_enter Tryz.func100,Tryz.ntmps100
 go_wp2
 go_loop [5] (fun i=>∃ k:Nat,k≤len∧i=.int .i64 k∧∀ j,j < k→decide (zAt z j=v)=false) (fun i=>len - (intOf i).toNat)
 case atStart=>exact ⟨0,Nat.zero_le _,rfl,fun j hj=>absurd hj (Nat.not_lt_zero _)⟩
 case round =>
  obtain ⟨k,hk,rfl,ha⟩:=hrel
  have HA:=hid ha
  clear ha
  by_cases hlt:k < len
  · obtain ⟨b0,off,rfl,c0⟩:=HC.out k hlt
    have HZ:Hid (zAt z k=z[k]?.getD 0):=hid rfl
    generalize z[k]?.getD 0=y at *
    obtain ⟨p1,e1⟩:∃ p,(y == v)=p:=⟨_,rfl⟩
    cases p1 with
    | true =>
     have HQ:=hid (show decide (zAt z k=v)=true by rw [HZ.out];simpa using e1)
     go_wp2
     go_ret
     exact ⟨ret_int (firstAt_hit (by rw [HL.out];exact hlt) HQ.out HA.out).symm,rfl⟩
    | false =>
     have HQ:=hid (show decide (zAt z k=v)=false by rw [HZ.out];simpa using e1)
     go_wp2
     go_round
     case rel =>
      refine ⟨k+1,by omega,by go_num,fun j hj=>?_⟩
      by_cases e:j=k
      · subst e;exact HQ.out
      · exact HA.out j (by omega)
     case measure=>simp [intOf];omega
  · have e:k=len:=by omega
    have HA2:=hid (firstAt_none (p:=fun i=>decide (zAt z i=v)) (n:=z.length) (fun i hi=>HA.out i (by rw [e,← HL.out];exact hi)))
    subst e
    go_wp2
    go_ret
    exact ⟨ret_int HA2.out.symm,rfl⟩
set_option maxHeartbeats 1600000 in
theorem thru_spec (a : Option Addr) (n cap : Nat) (rs : Rs) (fr router : Int) (w : World) (hr : RtRow w a n rs) (hn : n≤4) (hv : ∀ i,i < n→(rs i).via < n) (hf : 0≤fr) (hf2 : fr < n) :
  Calls Tryz.prog 131 #[.slice a n cap,.int .i64 fr,.int .i64 router] w fun e w'=>e=.returned (.bool (thru rs router (n+1) fr))∧Below w.heap.size w w' := by
 have HR:=hid hr
 have HV:=hid hv
 clear hr hv
 obtain ⟨m0,rfl⟩:∃ m:Nat,fr=(m:Int):=⟨fr.toNat,by omega⟩
 obtain ⟨T,hT⟩:∃ T,thru rs router (n+1) (m0:Int)=T:=⟨_,rfl⟩
 have HT:=hid hT
 rw [hT]
 clear hT
 go_enter Tryz.func131,Tryz.ntmps131
 go_wp2
 go_loopw [8,7] (fun i v wr=>∃ k m:Nat,k≤n+1∧m < n∧i=.int .i64 k∧v=.int .i64 m∧Below w.heap.size w wr∧thru rs router (n+1 - k) (m:Int)=T) (fun i _ _=>n+1 - (intOf i).toNat)
 case atStart=>exact ⟨0,m0,Nat.zero_le _,by omega,rfl,rfl,Bl,HT.out⟩
 case round =>
  obtain ⟨k,m,hk,hm,rfl,rfl,hb,ht⟩:=hrel
  have HB:=hid hb
  have HU:=hid ht
  clear hb ht HT
  by_cases hlt:k≤n
  · have HU2 : Hid ((if (m : Int) = router then true else if (m : Int) < 0 then false else if (rs m).via < 0 then false else thru rs router (n - k) (rs m).via) = T) := hid (by
     have h:=HU.out
     rw [show n+1 - k=n - k+1 from by omega] at h
     exact h)
    have HVm:=hid (HV.out m hm)
    obtain ⟨b0,off,rfl,c0,c1,c2,c3⟩:=HR.out.at4 hm
    replace c0:=keep HB.out c0
    replace c1:=keep HB.out c1
    replace c2:=keep HB.out c2
    replace c3:=keep HB.out c3
    generalize (rs m).via=y at *
    generalize (rs m).pref=y1 at *
    generalize (rs m).len=y2 at *
    generalize (rs m).mark=y3 at *
    clear HU
    by_cases h1:(m:Int)=router
    · have e1:((m:Int) == router)=true:=by simp [h1]
      have HT2:=HU2.out
      rw [if_pos h1] at HT2
      subst HT2
      clear h1 HU2
      go_wp2
      go_ret
      exact ⟨rfl,Bl⟩
    have e1:((m:Int) == router)=false:=by simp [h1]
    have e2:decide ((m:Int) < 0)=false:=decide_eq_false (by omega)
    have HU3:=HU2.out
    rw [if_neg h1,if_neg (by omega)] at HU3
    clear h1 HU2
    by_cases h2:y < 0
    · have e3:decide (y < 0)=true:=decide_eq_true h2
      rw [if_pos h2] at HU3
      subst HU3
      clear h2
      go_wp2
      go_ret
      exact ⟨rfl,HB.out.trans (by first | exact Below.refl _ _ | exact Bl)⟩
    · have e3:decide (y < 0)=false:=decide_eq_false h2
      rw [if_neg h2] at HU3
      have HU4:=hid HU3
      clear HU3
      obtain ⟨m1,rfl⟩:∃ q:Nat,y=(q:Int):=⟨y.toNat,by omega⟩
      clear h2
      go_wp2
      go_roundw
      case rel=>exact ⟨k+1,m1,by omega,by have:=HVm.out;omega,by go_num,rfl,Bl,by rw [show n+1 - (k+1)=n - k from by omega];exact HU4.out⟩
      case measure=>simp [intOf];omega
  · have e:k=n+1:=by omega
    subst e
    have HT2:=HU.out
    rw [Nat.sub_self] at HT2
    have HT3:true=T:=HT2
    subst HT3
    have e1:decide (((n+1:Nat):Int)≤(n:Int))=false:=decide_eq_false (by omega)
    clear HT2 HU hlt
    go_wp2
    go_ret
    exact ⟨rfl,HB.out⟩
end Go.Proofs.YtajhklklbfnmpaaGreat.candWay
namespace Go.Proofs.YtajhklklbfnmpaaGreat.drawn
open Go heldStore
variable {P : Program} {ops : Array Oper} {Q : Exit→Act→World→Prop}
def falses : List Bool→Nat
 | []=>0
 | true :: l=>falses l
 | false :: l=>falses l+1
theorem falses_set : ∀ (l : List Bool) (i : Nat),l[i]? = some false→falses (l.set i true)+1=falses l
 | [],i,h=>by simp at h
 | b :: l,0,h=>by
  simp only [List.getElem?_cons_zero,Option.some.injEq] at h
  subst h;rfl
 | b :: l,i+1,h=>by
  simp only [List.getElem?_cons_succ] at h
  have ih:=falses_set l i h
  cases b <;> simp only [List.set_cons_succ,falses] <;> omega
theorem falses_pos : ∀ (l : List Bool) (i : Nat),l[i]? = some false→0 < falses l
 | [],i,h=>by simp at h
 | b :: l,0,h=>by
  simp only [List.getElem?_cons_zero,Option.some.injEq] at h
  subst h;simp [falses]
 | b :: l,i+1,h=>by
  simp only [List.getElem?_cons_succ] at h
  have ih:=falses_pos l i h
  cases b <;> simp only [falses] <;> omega
theorem falses_replicate (m : Nat) : falses (List.replicate m false)=m := by
 induction m with
 | zero=>rfl
 | succ m ih=>rw [List.replicate_succ];simp [falses,ih]
theorem at_false {listed : Array Bool} {i : Nat} (h : listed.getD i true=false) : listed.toList[i]? = some false := by
 rcases Nat.lt_or_ge i listed.size with h' | h'
 · simp [h'] at h ⊢;exact h
 · simp [Array.getElem?_eq_none h'] at h
def upB (ops : Array Oper) : Bool := (List.range ops.size).all fun i=>((ops[i]?).map (·.after.all fun e=>decide (e.on < i))).getD true
theorem upB_spec (h : upB ops=true) {i : Nat} {o : Oper} (ho : ops[i]? = some o) : ∀ e ∈ o.after,e.on < i := by
 have hlt:i < ops.size:=(Array.getElem?_eq_some_iff.1 ho).1
 have h1:=List.all_eq_true.1 h i (List.mem_range.2 hlt)
 rw [ho] at h1
 simp only [Option.map_some,Option.getD_some,Array.all_eq_true_iff_forall_mem,decide_eq_true_eq] at h1
 exact h1
theorem ready_ne (h : upB ops=true) {listed : Array Bool} (hs : listed.size=ops.size) : ∀ n,listed.getD n true=false→Region.ready .any ops listed ≠ [] := by
 intro n
 induction n using Nat.strongRecOn with
 | _ n ih =>
  intro hn he
  have hlt:n < ops.size:=by
   rcases Nat.lt_or_ge n listed.size with h' | h'
   · omega
   · simp [Array.getElem?_eq_none h'] at hn
  by_cases hall:∀ e ∈ (ops[n]).after,Region.binds .any e=true→listed.getD e.on false=true
  · have:n ∈ Region.ready .any ops listed:=mem_ready.2 ⟨hn,ops[n],by simp [hlt],hall⟩
    rw [he] at this
    cases this
  · have hx : ∃ e ∈ (ops[n]).after, listed.getD e.on false = false := by
     apply Classical.byContradiction
     intro hno
     refine hall fun e he' _=>?_
     cases hb:listed.getD e.on false with
     | true=>rfl
     | false=>exact absurd ⟨e,he',hb⟩ hno
    obtain ⟨e,he',hb⟩:=hx
    have hlt' := upB_spec h (i:=n) (o:=ops[n]) (by simp [hlt]) e he'
    exact ih e.on hlt' (getD_in (by omega) hb) he
def upd (u : Nat→Value) (k : Nat) (v : Value) : Nat→Value := fun j=>if j=k then v else u j
theorem upd_same (u : Nat→Value) (k : Nat) (v : Value) : upd u k v k=v := if_pos rfl
theorem upd_ne (u : Nat→Value) {k j : Nat} (v : Value) (h : j ≠ k) : upd u k v j=u j := if_neg h
variable {A : (Nat→Value)→Act} {s : Nat→Nat} {φ : Nat→Value→World→Prop} {S : World→Prop} {n : Nat}
theorem any_inv (hz : ops.size=n+1) (hE : LastOf ops n) (hup : upB ops=true)
  (hput:∀ i,i < n→∀ u v,(A u).put (some (s i)) v=A (upd u (s i) v)) (hinj:∀ i j,i < n→j < n→s i=s j→i=j)
  (step:∀ i,i < n→∀ u w,S w→(∀ j,Region.waitsFor .any ops i j=true→φ j (u (s j)) w)→∃ o,ops[i]? = some o∧∀ K':Act→World→Prop,Shut (∀ v w',S w'→(∀ j v',φ j v' w→φ j v' w')→φ i v w'→K' ((A u).put (some (s i)) v) w')→if Region.wanted o (yielded ops (A u).tmps)=true then Oper.wp P o (A u) w K' Q else K' ((A u).put o.dst undef) w)
  (last:∀ u w,S w→(∀ j,j < n→φ j (u (s j)) w)→∃ o,ops[n]? = some o∧∀ K':Act→World→Prop,Shut (∀ a w,Q .normal a w→K' a w)→if Region.wanted o (yielded ops (A u).tmps)=true then Oper.wp P o (A u) w K' Q else K' ((A u).put o.dst undef) w) :
  ∀ (fuel:Nat) (listed:Array Bool) (u:Nat→Value) (w:World),falses listed.toList≤fuel→HeadInv .any ops n listed→S w→(∀ j,j < n→listed.getD j false=true→φ j (u (s j)) w) →
   wpAny P .any ops Q fuel listed (A u) w:=by
 intro fuel
 induction fuel with
 | zero =>
  intro listed u w hf inv _ _
  have:=falses_pos _ _ (at_false (inv.tail n (Nat.le_refl _) (by omega)))
  omega
 | succ fuel ih =>
  intro listed u w hf inv hS hφ
  have hn:=inv.tail n (Nat.le_refl _) (by omega)
  refine ⟨fun h=>absurd h (ready_ne hup inv.size n hn),fun i hi=>?_⟩
  have hi' := mem_ready.1 hi
  obtain ⟨hun,oi,hoi,hall⟩:=hi'
  have hisz:i < n+1:=by rw [← hz];exact (Array.getElem?_eq_some_iff.1 hoi).1
  by_cases hin:i < n
  · obtain ⟨o, ho, h⟩ := step i hin u w hS (fun j hj => by
     obtain ⟨oj,hoj,e,he,hb,hon⟩:=Region.waitsFor_spec hj
     have e1:oj=oi:=Option.some.inj (hoj.symm.trans hoi)
     subst e1
     have h1:=hall e he hb
     have h2:=upB_spec hup hoj e he
     rw [hon] at h1 h2
     exact hφ j (by omega) h1)
    refine wpOp_step ho fun K' hK=>h K' fun v w' hS' hst hv=>hK _ _ ?_
    rw [hput i hin]
    refine ih _ _ _ ?_ (inv.set hi hin) hS' fun j hj hl=>?_
    · have:=falses_set _ _ (at_false hun)
      simp only [Array.toList_setIfInBounds]
      omega
    · by_cases e:i=j
      · subst e;rw [upd_same];exact hv
      · rw [getD_set_ne false e] at hl
        rw [upd_ne _ _ (fun e'=>e (hinj i j hin hj e'.symm))]
        exact hst j _ (hφ j hj hl)
  · have e:i=n:=by omega
    subst e
    have hlall:∀ j,j < i→listed.getD j false=true:=by
     intro j hj
     cases hb:listed.getD j false with
     | true=>rfl
     | false=>exact absurd hi (tail_waits hE.sink hE.chain hE.lt inv _ j rfl hj (getD_in (by rw [inv.size];omega) hb) i (Nat.le_refl _))
    obtain ⟨o,ho,h⟩:=last u w hS (fun j hj=>hφ j hj (hlall j hj))
    refine wpOp_step ho fun K' hK=>h K' fun a' w' hq=>hK _ _ ?_
    have hd:Region.ready .any ops (listed.setIfInBounds i true)=[]:=by
     cases hr:Region.ready .any ops (listed.setIfInBounds i true) with
     | nil=>rfl
     | cons k l =>
      have hk:k ∈ Region.ready .any ops (listed.setIfInBounds i true):=by rw [hr];exact List.mem_cons_self
      obtain ⟨h1,ok,hok,_⟩:=mem_ready.1 hk
      have hklt:k < i+1:=by rw [← hz];exact (Array.getElem?_eq_some_iff.1 hok).1
      by_cases e:k=i
      · subst e
        have:k < listed.size:=by rw [inv.size];omega
        simp [this] at h1
      · rw [getD_set_ne true (Ne.symm e)] at h1
        have h2:=hlall k (by omega)
        rw [getD_both h1] at h2
        cases h2
    cases fuel with
    | zero=>exact ⟨hd,hq⟩
    | succ f=>exact ⟨fun _=>hq,fun k hk=>by rw [hd] at hk;cases hk⟩
theorem region_inv {id : Nat} {a : Act} {w : World} (A : (Nat→Value)→Act) (s : Nat→Nat) (φ : Nat→Value→World→Prop) (S : World→Prop) (n : Nat) (u0 : Nat→Value) (ha : a=A u0)
  (hm:P.follows .mixedOrders=true) (hz:ops.size=n+1) (hE:LastOf ops n) (hup:upB ops=true) (hS:S w.drew)
  (hput:∀ i,i < n→∀ u v,(A u).put (some (s i)) v=A (upd u (s i) v)) (hinj:∀ i j,i < n→j < n→s i=s j→i=j)
  (step:∀ i,i < n→∀ u w,S w→(∀ j,Region.waitsFor .any ops i j=true→φ j (u (s j)) w)→∃ o,ops[i]? = some o∧∀ K':Act→World→Prop,Shut (∀ v w',S w'→(∀ j v',φ j v' w→φ j v' w')→φ i v w'→K' ((A u).put (some (s i)) v) w')→if Region.wanted o (yielded ops (A u).tmps)=true then Oper.wp P o (A u) w K' Q else K' ((A u).put o.dst undef) w)
  (last:∀ u w,S w→(∀ j,j < n→φ j (u (s j)) w)→∃ o,ops[n]? = some o∧∀ K':Act→World→Prop,Shut (∀ a w,Q .normal a w→K' a w)→if Region.wanted o (yielded ops (A u).tmps)=true then Oper.wp P o (A u) w K' Q else K' ((A u).put o.dst undef) w) :
  (Code.region id ops true).wp P Q a w:=by
 subst ha
 refine wp_region_any hm ?_
 rw [hz]
 refine any_inv hz hE hup hput hinj step last _ _ _ _ ?_ ⟨by simp [hz],fun j oj _ hl=>(by rw [getD_replicate_false] at hl;cases hl),fun t _ ht=>getD_in (by simp;omega) (getD_replicate_false _ _)⟩ hS (fun j _ hl=>(by rw [getD_replicate_false] at hl;cases hl))
 simp [falses_replicate]
open Go.RowKit in
theorem region_below {id : Nat} {a : Act} {w : World} (A : (Nat→Value)→Act) (s : Nat→Nat) (φ : Nat→Value→World→Prop) (W : World) (n : Nat) (u0 : Nat→Value) (ha : a=A u0)
  (hm:P.follows .mixedOrders=true) (hz:ops.size=n+1) (hE:LastOf ops n) (hup:upB ops=true) (hW:Below W.heap.size W w)
  (hput:∀ i,i < n→∀ u v,(A u).put (some (s i)) v=A (upd u (s i) v)) (hinj:∀ i j,i < n→j < n→s i=s j→i=j)
  (stable:∀ i v w w',Below w.heap.size w w'→φ i v w→φ i v w')
  (step:∀ i,i < n→∀ u w,Below W.heap.size W w→(∀ j,Region.waitsFor .any ops i j=true→φ j (u (s j)) w)→∃ o,ops[i]? = some o∧∀ K':Act→World→Prop,Shut (∀ v w',Below w.heap.size w w'→φ i v w'→K' ((A u).put (some (s i)) v) w')→if Region.wanted o (yielded ops (A u).tmps)=true then Oper.wp P o (A u) w K' Q else K' ((A u).put o.dst undef) w)
  (last:∀ u w,Below W.heap.size W w→(∀ j,j < n→φ j (u (s j)) w)→∃ o,ops[n]? = some o∧∀ K':Act→World→Prop,Shut (∀ a w,Q .normal a w→K' a w)→if Region.wanted o (yielded ops (A u).tmps)=true then Oper.wp P o (A u) w K' Q else K' ((A u).put o.dst undef) w) :
  (Code.region id ops true).wp P Q a w:=by
 refine region_inv A s φ (fun w=>Below W.heap.size W w) n u0 ha hm hz hE hup hW.drew hput hinj ?_ last
 intro i hi u w8 hS8 hdep
 obtain ⟨o,ho,h⟩:=step i hi u w8 hS8 hdep
 refine ⟨o,ho,fun K' hK=>h K' fun v w' hb hv=>hK.out v w' (hS8.trans (hb.mono hS8.size)) (fun j v' h'=>stable j v' _ _ hb h') hv⟩
theorem slots_inj (l : List Nat) (h : l.Nodup) {i j : Nat} (hi : i < l.length) (hj : j < l.length) (e : l.getD i 0=l.getD j 0) : i=j := by
 rw [List.getD_eq_getElem?_getD,List.getD_eq_getElem?_getD,List.getElem?_eq_getElem hi,List.getElem?_eq_getElem hj] at e
 exact (List.getElem_inj h).1 e
end Go.Proofs.YtajhklklbfnmpaaGreat.drawn
