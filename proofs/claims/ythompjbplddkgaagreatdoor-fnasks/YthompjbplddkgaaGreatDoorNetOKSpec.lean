import Derived.Test.YthompjbplddkgaaGreatDoorPart12
set_option linter.unusedVariables false
namespace Go.Proofs.YthompjbplddkgaaGreatDoor
theorem Bn {n:Nat} {v w:World} (h:Go.RowKit.Below n v w:=by repeat (first|exact Go.RowKit.Below.refl _ _|assumption|refine Go.Proofs.YthompjbplddkgaaGreatDoor.netSem.bdn ?_ _|refine Go.RowKit.Below.drew ?_|refine Go.RowKit.Below.alloc ?_ (by first|exact Nat.le_refl _|omega|(simp;done)|(simp;omega)) _)):Go.RowKit.Below n v w:=h
end Go.Proofs.YthompjbplddkgaaGreatDoor
namespace Go.Proofs.YthompjbplddkgaaGreatDoor.netOKSpec
open Go.RowKit Go.Deep Go base names netSem netSpec
theorem no_in {l:Nat→Nat} {s:Ss} {g x f:R} {o e:List Int} (h:inB (l 0) 1 4=false∨¬ l 1≤6∨¬ l 4≤12∨¬ l 5≤6∨risingB o (l 2) (l 0)=false∨risingB e (l 3) (l 0)=false∨¬ l 3≤2∨(∃ i,i<l 0∧routerB s i=false)∨(∃ i,i<l 1∧linkB g (l 0) i=false)∨(∃ i,i<l 4∧importB g (l 1) x i=false)∨(∃ i,i<l 5∧filterB g (l 1) f i=false)):netB l s g o e x f=false:=by
 unfold netB
 rcases h with h|h|h|h|h|h|h|⟨i,hi,h⟩|⟨i,hi,h⟩|⟨i,hi,h⟩|⟨i,hi,h⟩
 · simp [routersB,h]
 · simp [linksB,h]
 · simp [importsB,h]
 · simp [filtersB,h]
 · simp [h]
 · simp [h]
 · simp [h]
 · simp [routersB,allN_false hi h]
 · simp [linksB,allN_false hi h]
 · simp [importsB,allN_false hi h]
 · simp [filtersB,allN_false hi h]
theorem yes_in {l:Nat→Nat} {s:Ss} {g x f:R} {o e:List Int} (h1:inB (l 0) 1 4=true) (h2:l 1≤6) (h3:l 4≤12) (h4:l 5≤6) (h5:risingB o (l 2) (l 0)=true) (h6:risingB e (l 3) (l 0)=true) (h7:l 3≤2) (h8:∀ i,i<l 0→routerB s i=true) (h9:∀ i,i<l 1→linkB g (l 0) i=true) (h10:∀ i,i<l 4→importB g (l 1) x i=true) (h11:∀ i,i<l 5→filterB g (l 1) f i=true):netB l s g o e x f=true:=by
 unfold netB routersB linksB importsB filtersB
 rw [h1,h5,h6,decide_eq_true h2,decide_eq_true h3,decide_eq_true h4,decide_eq_true h7,allN_of h8,allN_of h9,allN_of h10,allN_of h11];rfl
theorem import_eq {P p1 p2 p3 p4 p5 p7:Bool} {L x2 x3 x4:Int} (h:P=(decide (0≤L) && deedB x2 x3 x4)) (e1:decide (L<0)=p1) (e2:inB x2 0 2=p2) (e3:inB x3 1 4=p3) (e4:(x3 == 2)=p4) (e5:inB x4 0 1000=p5) (e7:(x4 != 0)=p7):P=(!p1 && p2 && p3 && (if p4 then p5 else !p7)):=by
 rw [h,← e1,← e2,← e3,← e4,← e5,← e7]
 by_cases h2:x3=2
 · rw [Bool.eq_iff_iff];simp [deedB,h2,inB];omega
 · rw [Bool.eq_iff_iff];simp [deedB,h2,inB];omega
theorem filter_eq {P p1 p2 p3:Bool} {L x2 x3:Int} (h:P=(decide (0≤L) && portsB x2 x3)) (e1:decide (L<0)=p1) (e2:inB x2 0 15=p2) (e3:inB x3 x2 15=p3):P=(!p1 && p2 && p3):=by
 rw [h,← e1,← e2,← e3,Bool.eq_iff_iff];simp [portsB,inB];omega
set_option maxHeartbeats 6400000 in
set_option maxRecDepth 8000 in
theorem netOK_spec (p:Nat→Option Addr) (l c:Nat→Nat) (s:Ss) (g:R) (o e:List Int) (x f:R) (w:World) (h:NetIs w p l s g o e x f) (hc0:l 0≤c 0) (hc1:l 1≤c 1) :
  Calls Tryz.prog 18 #[netV p l c] w fun e' w'=>e' = .returned (.bool (netB l s g o e x f))∧Below w.heap.size w w' := by
 have HN:=hid h
 have m0:=h.routers.most
 have m1:=h.links.most
 have m3:=h.externals.most
 have m4:=h.imports.most
 have m5:=h.filters.most
 have M0:=hid m0
 have HK0:=hid hc0
 have HK1:=hid hc1
 unfold maxLen at m0 m1 m3 m4 m5
 obtain ⟨D,hD⟩:∃ D,netB l s g o e x f=D:=⟨_,rfl⟩
 rw [hD]
 have HNO:=hid (fun hh=>hD.symm.trans (no_in (l:=l) (s:=s) (g:=g) (o:=o) (e:=e) (x:=x) (f:=f) hh))
 have HYES:=hid (fun h1 h2 h3 h4 h5 h6 h7 h8 h9 h10 h11=>hD.symm.trans (yes_in (l:=l) (s:=s) (g:=g) (o:=o) (e:=e) (x:=x) (f:=f) h1 h2 h3 h4 h5 h6 h7 h8 h9 h10 h11))
 clear hD h hc0 hc1
 unfold netV
 have C1:∀ w8:World,Below ((w.alloc (.cells #[.slice (p 0) (l 0) (c 0),.slice (p 1) (l 1) (c 1),.slice (p 2) (l 2) (c 2),.slice (p 3) (l 3) (c 3),.slice (p 4) (l 4) (c 4),.slice (p 5) (l 5) (c 5)] 29))).heap.size (w.alloc (.cells #[.slice (p 0) (l 0) (c 0),.slice (p 1) (l 1) (c 1),.slice (p 2) (l 2) (c 2),.slice (p 3) (l 3) (c 3),.slice (p 4) (l 4) (c 4),.slice (p 5) (l 5) (c 5)] 29)) w8→w8.cell? ⟨w.heap.size,0,none⟩=some (.slice (p 0) (l 0) (c 0))∧w8.cell? ⟨w.heap.size,1,none⟩=some (.slice (p 1) (l 1) (c 1))∧w8.cell? ⟨w.heap.size,2,none⟩=some (.slice (p 2) (l 2) (c 2))∧w8.cell? ⟨w.heap.size,3,none⟩=some (.slice (p 3) (l 3) (c 3))∧w8.cell? ⟨w.heap.size,4,none⟩=some (.slice (p 4) (l 4) (c 4))∧w8.cell? ⟨w.heap.size,5,none⟩=some (.slice (p 5) (l 5) (c 5))∧NetIs w8 p l s g o e x f∧Below w.heap.size w w8 :=
  fun w8 hb=>⟨keep hb (by simp [go_sem]),keep hb (by simp [go_sem]),keep hb (by simp [go_sem]),keep hb (by simp [go_sem]),keep hb (by simp [go_sem]),keep hb (by simp [go_sem]),(HN.out.below Bl).below hb,(show Below w.heap.size w _ from Bl).trans (hb.mono (by simp))⟩
 have HC1:=hid C1
 clear C1
 go_enter Tryz.func18,Tryz.ntmps18
 obtain ⟨b1,e1⟩:∃ b,inB (l 0) 1 4=b:=⟨_,rfl⟩
 cases b1 with
 | false =>
  go_wp2_with (go_at_call 21;refine (in_spec _ _ _ _).mono ?_;rintro e' w' ⟨rfl,rfl⟩)
  go_ret
  exact ⟨ret_bool (HNO.out (.inl e1)).symm,Bn⟩
 | true =>
 have E1:=hid e1
 by_cases q1:l 1≤6
 case neg =>
  have d1:decide ((6:Int)<(l 1:Int))=true:=decide_eq_true (by omega)
  have Q:=hid q1
  clear q1
  go_wp2_with (go_at_call 21;refine (in_spec _ _ _ _).mono ?_;rintro e' w' ⟨rfl,rfl⟩)
  go_ret
  exact ⟨ret_bool (HNO.out (.inr (.inl Q.out))).symm,Bn⟩
 have d1:decide ((6:Int)<(l 1:Int))=false:=decide_eq_false (by omega)
 have Q1:=hid q1
 by_cases q4:l 4≤12
 case neg =>
  have d4:decide ((12:Int)<(l 4:Int))=true:=decide_eq_true (by omega)
  have Q:=hid q4
  clear q4
  go_wp2_with (go_at_call 21;refine (in_spec _ _ _ _).mono ?_;rintro e' w' ⟨rfl,rfl⟩)
  go_ret
  exact ⟨ret_bool (HNO.out (.inr (.inr (.inl Q.out)))).symm,Bn⟩
 have d4:decide ((12:Int)<(l 4:Int))=false:=decide_eq_false (by omega)
 have Q4:=hid q4
 by_cases q5:l 5≤6
 case neg =>
  have d5:decide ((6:Int)<(l 5:Int))=true:=decide_eq_true (by omega)
  have Q:=hid q5
  clear q5
  go_wp2_with (go_at_call 21;refine (in_spec _ _ _ _).mono ?_;rintro e' w' ⟨rfl,rfl⟩)
  go_ret
  exact ⟨ret_bool (HNO.out (.inr (.inr (.inr (.inl Q.out))))).symm,Bn⟩
 have d5:decide ((6:Int)<(l 5:Int))=false:=decide_eq_false (by omega)
 have Q5:=hid q5
 obtain ⟨b5,e5⟩:∃ b,risingB o (l 2) (l 0)=b:=⟨_,rfl⟩
 obtain ⟨b6,e6⟩:∃ b,risingB e (l 3) (l 0)=b:=⟨_,rfl⟩
 have H0:Below ((w.alloc (.cells #[.slice (p 0) (l 0) (c 0),.slice (p 1) (l 1) (c 1),.slice (p 2) (l 2) (c 2),.slice (p 3) (l 3) (c 3),.slice (p 4) (l 4) (c 4),.slice (p 5) (l 5) (c 5)] 29))).heap.size (w.alloc (.cells #[.slice (p 0) (l 0) (c 0),.slice (p 1) (l 1) (c 1),.slice (p 2) (l 2) (c 2),.slice (p 3) (l 3) (c 3),.slice (p 4) (l 4) (c 4),.slice (p 5) (l 5) (c 5)] 29)) (w.alloc (.cells #[.slice (p 0) (l 0) (c 0),.slice (p 1) (l 1) (c 1),.slice (p 2) (l 2) (c 2),.slice (p 3) (l 3) (c 3),.slice (p 4) (l 4) (c 4),.slice (p 5) (l 5) (c 5)] 29)):=Below.refl _ _
 go_wp2_with (go_at_call 21;refine (in_spec _ _ _ _).mono ?_;rintro e' w' ⟨rfl,rfl⟩)
 refine (rising_spec (p 2) (l 2) (c 2) o (l 0) _ (HN.out.origins.below Bn) M0.out).mono ?_
 rintro e' w1 ⟨rfl,n,hw⟩
 have H1:=hid (show Below _ _ w1 by rw [hw];exact bdn H0 n)
 clear hw H0
 obtain ⟨c0,c1,c2,c3,c4,c5,hn,hB⟩:=HC1.out w1 H1.out
 have N1:=hid hn
 have B1:=hid hB
 clear hn hB
 rw [e5]
 cases b5 with
 | false =>
  go_wp2
  go_ret
  exact ⟨ret_bool (HNO.out (.inr (.inr (.inr (.inr (.inl e5)))))).symm,B1.out⟩
 | true =>
 have E5:=hid e5
 go_wp2_with fail
 refine (rising_spec (p 3) (l 3) (c 3) e (l 0) _ N1.out.externals M0.out).mono ?_
 rintro e' w2 ⟨rfl,n2,hw⟩
 have H2:=hid (show Below _ _ w2 by rw [hw];exact bdn H1.out n2)
 clear hw c0 c1 c2 c3 c4 c5
 obtain ⟨c0,c1,c2,c3,c4,c5,hn,hB⟩:=HC1.out w2 H2.out
 have N2:=hid hn
 have B2:=hid hB
 clear hn hB
 rw [e6]
 cases b6 with
 | false =>
  go_wp2
  go_ret
  exact ⟨ret_bool (HNO.out (.inr (.inr (.inr (.inr (.inr (.inl e6))))))).symm,B2.out⟩
 | true =>
 have E6:=hid e6
 by_cases q3:l 3≤2
 case neg =>
  have d3:decide ((2:Int)<(l 3:Int))=true:=decide_eq_true (by omega)
  have Q:=hid q3
  clear q3
  go_wp2
  go_ret
  exact ⟨ret_bool (HNO.out (.inr (.inr (.inr (.inr (.inr (.inr (.inl Q.out)))))))).symm,B2.out⟩
 have d3:decide ((2:Int)<(l 3:Int))=false:=decide_eq_false (by omega)
 have Q3:=hid q3
 go_wp2
 clear d1 d3 d4 d5 q1 q3 q4 q5 c0 c1 c2 c3 c4 c5
 go_loopw [4] (fun i wr=>∃ k:Nat,k≤l 0∧i=.int .i64 k∧(∀ j,j<k→routerB s j=true)∧Below ((w.alloc (.cells #[.slice (p 0) (l 0) (c 0),.slice (p 1) (l 1) (c 1),.slice (p 2) (l 2) (c 2),.slice (p 3) (l 3) (c 3),.slice (p 4) (l 4) (c 4),.slice (p 5) (l 5) (c 5)] 29))).heap.size (w.alloc (.cells #[.slice (p 0) (l 0) (c 0),.slice (p 1) (l 1) (c 1),.slice (p 2) (l 2) (c 2),.slice (p 3) (l 3) (c 3),.slice (p 4) (l 4) (c 4),.slice (p 5) (l 5) (c 5)] 29)) wr) (fun i _=>l 0 - (intOf i).toNat)
 case atStart=>exact ⟨0,Nat.zero_le _,rfl,fun j hj=>absurd hj (Nat.not_lt_zero _),H2.out⟩
 case round =>
  obtain ⟨k,hk,rfl,ha,hbel⟩:=hrel
  have HA:=hid ha
  obtain ⟨c0,c1,c2,c3,c4,c5,hn,hB⟩:=HC1.out wr hbel
  have NR:=hid hn
  have BR:=hid hB
  have HB:=hid hbel
  clear ha hn hB hbel c1 c2 c3 c4 c5
  by_cases hlt:k<l 0
  · obtain ⟨b,off,hp,hc⟩:=NR.out.routers.cell k hlt
    have hkc:(k:Int)≤(c 0:Int):=by have:=HK0.out;omega
    have HS:=hid (NR.out.routers.size k hlt)
    have HR2:=hid (NR.out.routers.front (show k≤l 0 by omega))
    have HQ:Hid (routerB s k=(nameB (s k) && decide (nameAt s k (s k)<0))):=rfl
    obtain ⟨p0,hp0⟩:∃ p0,p 0=p0:=⟨_,rfl⟩
    have HP0:=hid hp0
    rw [hp0] at c0 HR2 hp
    clear hp0
    subst hp
    generalize s k=t at *
    by_cases hn:nameB t=true
    · by_cases hpl:0≤nameAt s k t
      · have hpd:decide (0≤nameAt s k t)=true:=decide_eq_true hpl
        have HF:=hid (show routerB s k=false by rw [HQ.out,hn,decide_eq_false (by omega)];rfl)
        clear hpl
        go_wp2
        go_quiet (first|(go_at_call 45;exact Calls.quiet_of_same (name_spec _ _ HS.out))|(go_at_call 46;exact Calls.quiet_of_same (place_spec _ _ _ s _ _ (HR2.out.below (below_drewN _ _)))))
        go_wp2
        go_ret
        exact ⟨ret_bool (HNO.out (.inr (.inr (.inr (.inr (.inr (.inr (.inr (.inl ⟨k,hlt,HF.out⟩))))))))).symm,bdn BR.out _⟩
      · have hpd:decide (0≤nameAt s k t)=false:=decide_eq_false hpl
        have HF:=hid (show routerB s k=true by rw [HQ.out,hn,decide_eq_true (by omega)];rfl)
        clear hpl
        go_wp2
        go_quiet (first|(go_at_call 45;exact Calls.quiet_of_same (name_spec _ _ HS.out))|(go_at_call 46;exact Calls.quiet_of_same (place_spec _ _ _ s _ _ (HR2.out.below (below_drewN _ _)))))
        go_wp2
        go_roundw
        case rel =>
         refine ⟨k+1,by omega,by go_num,fun j hj=>?_,bdn HB.out _⟩
         by_cases e:j=k
         · subst e;exact HF.out
         · exact HA.out j (by omega)
        case measure=>simp [intOf];omega
    · have hn':nameB t=false:=by simpa using hn
      have HF:=hid (show routerB s k=false by rw [HQ.out,hn'];rfl)
      clear hn
      go_wp2
      go_quiet (first|(go_at_call 45;exact Calls.quiet_of_same (name_spec _ _ HS.out)))
      go_wp2
      go_ret
      exact ⟨ret_bool (HNO.out (.inr (.inr (.inr (.inr (.inr (.inr (.inr (.inl ⟨k,hlt,HF.out⟩))))))))).symm,bdn BR.out _⟩
  · have ek:k=l 0:=by omega
    have HR:=hid (show ∀ j,j<l 0→routerB s j=true by rw [← ek];exact HA.out)
    clear HA
    have hlt':decide (k<l 0)=false:=decide_eq_false (by omega)
    clear hlt ek hk c0 NR BR
    go_wp2
    have HBX:=hid HB.out
    clear HB
    go_loopw [5] (fun i wr2=>∃ k:Nat,k≤l 1∧i=.int .i64 k∧(∀ j,j<k→linkB g (l 0) j=true)∧Below ((w.alloc (.cells #[.slice (p 0) (l 0) (c 0),.slice (p 1) (l 1) (c 1),.slice (p 2) (l 2) (c 2),.slice (p 3) (l 3) (c 3),.slice (p 4) (l 4) (c 4),.slice (p 5) (l 5) (c 5)] 29))).heap.size (w.alloc (.cells #[.slice (p 0) (l 0) (c 0),.slice (p 1) (l 1) (c 1),.slice (p 2) (l 2) (c 2),.slice (p 3) (l 3) (c 3),.slice (p 4) (l 4) (c 4),.slice (p 5) (l 5) (c 5)] 29)) wr2) (fun i _=>l 1 - (intOf i).toNat)
    case atStart=>exact ⟨0,Nat.zero_le _,rfl,fun j hj=>absurd hj (Nat.not_lt_zero _),HBX.out⟩
    case round =>
     clear HBX hlt'
     obtain ⟨k,hk,rfl,ha,hbel⟩:=hrel
     have HA:=hid ha
     obtain ⟨c0,c1,c2,c3,c4,c5,hn,hB⟩:=HC1.out _ hbel
     have NR:=hid hn
     have BR:=hid hB
     have HB:=hid hbel
     clear ha hn hB hbel c0 c2 c3 c4 c5
     have hzz:=World.block_lt_of_cell? _ _ c1
     simp only at hzz
     by_cases hlt:k<l 1
     · obtain ⟨b,off,hp,hc0,hc1,hc2⟩:=NR.out.links.at3 hlt
       have hkc:(k:Int)≤(c 1:Int)∨True:=.inr trivial
       have hkc1:(k:Int)≤(c 1:Int):=by have:=HK1.out;omega
       have HR2:=hid (NR.out.links.front (show k≤l 1 by omega))
       obtain ⟨p0,hp0⟩:∃ p0,p 1=p0:=⟨_,rfl⟩
       have HP0:=hid hp0
       rw [hp0] at c1 HR2 hp
       clear hp0 hkc
       subst hp
       have HQ:Hid (linkB g (l 0) k=(inB (g k 0) 0 (l 0 - 1) && inB (g k 1) 0 (l 0 - 1) && decide (g k 0≠g k 1) && inB (g k 2) 1 100 && decide (linkAt g k (g k 0) (g k 1)<0))):=rfl
       generalize g k 0=x0 at *
       generalize g k 1=x1 at *
       generalize g k 2=x2 at *
       obtain ⟨p1,e1⟩:∃ p,inB x0 0 (l 0 - 1)=p:=⟨_,rfl⟩
       obtain ⟨p2,e2⟩:∃ p,inB x1 0 (l 0 - 1)=p:=⟨_,rfl⟩
       obtain ⟨p3,e3⟩:∃ p,(x0 == x1)=p:=⟨_,rfl⟩
       obtain ⟨p4,e4⟩:∃ p,inB x2 1 100=p:=⟨_,rfl⟩
       obtain ⟨p5,e5⟩:∃ p,decide (0≤linkAt g k x0 x1)=p:=⟨_,rfl⟩
       have HF:Hid (linkB g (l 0) k=(p1 && p2 && !p3 && p4 && !p5)):=by
        show _=_
        rw [HQ.out,e1,e2,e4,← e3,← e5]
        congr 1
        · congr 1
          congr 1
          rw [Bool.eq_iff_iff];simp
        · rw [Bool.eq_iff_iff];simp
       clear HQ
       cases p1 with
       | false =>
        go_wp2
        go_quiet (first|(go_at_call 21;exact Calls.quiet_of_same (in_spec _ _ _ _))|(go_at_call 29;exact Calls.quiet_of_same (link_spec _ _ _ g _ _ _ (HR2.out.below Bn))))
        go_wp2
        go_ret
        exact ⟨ret_bool (HNO.out (.inr (.inr (.inr (.inr (.inr (.inr (.inr (.inr (.inl ⟨k,hlt,HF.out⟩)))))))))).symm,BR.out.trans ((show Below _ _ _ from Bn).mono BR.out.size)⟩
       | true =>
       cases p2 with
       | false =>
        go_wp2
        go_quiet (first|(go_at_call 21;exact Calls.quiet_of_same (in_spec _ _ _ _))|(go_at_call 29;exact Calls.quiet_of_same (link_spec _ _ _ g _ _ _ (HR2.out.below Bn))))
        go_wp2
        go_ret
        exact ⟨ret_bool (HNO.out (.inr (.inr (.inr (.inr (.inr (.inr (.inr (.inr (.inl ⟨k,hlt,HF.out⟩)))))))))).symm,BR.out.trans ((show Below _ _ _ from Bn).mono BR.out.size)⟩
       | true =>
       cases p3 with
       | true =>
        go_wp2
        go_quiet (first|(go_at_call 21;exact Calls.quiet_of_same (in_spec _ _ _ _))|(go_at_call 29;exact Calls.quiet_of_same (link_spec _ _ _ g _ _ _ (HR2.out.below Bn))))
        go_wp2
        go_ret
        exact ⟨ret_bool (HNO.out (.inr (.inr (.inr (.inr (.inr (.inr (.inr (.inr (.inl ⟨k,hlt,HF.out⟩)))))))))).symm,BR.out.trans ((show Below _ _ _ from Bn).mono BR.out.size)⟩
       | false =>
       cases p4 with
       | false =>
        go_wp2
        go_quiet (first|(go_at_call 21;exact Calls.quiet_of_same (in_spec _ _ _ _))|(go_at_call 29;exact Calls.quiet_of_same (link_spec _ _ _ g _ _ _ (HR2.out.below Bn))))
        go_wp2
        go_ret
        exact ⟨ret_bool (HNO.out (.inr (.inr (.inr (.inr (.inr (.inr (.inr (.inr (.inl ⟨k,hlt,HF.out⟩)))))))))).symm,BR.out.trans ((show Below _ _ _ from Bn).mono BR.out.size)⟩
       | true =>
       cases p5 with
       | true =>
        go_wp2
        go_quiet (first|(go_at_call 21;exact Calls.quiet_of_same (in_spec _ _ _ _))|(go_at_call 29;exact Calls.quiet_of_same (link_spec _ _ _ g _ _ _ (HR2.out.below Bn))))
        go_wp2
        go_ret
        exact ⟨ret_bool (HNO.out (.inr (.inr (.inr (.inr (.inr (.inr (.inr (.inr (.inl ⟨k,hlt,HF.out⟩)))))))))).symm,BR.out.trans ((show Below _ _ _ from Bn).mono BR.out.size)⟩
       | false =>
       go_wp2
       go_quiet (first|(go_at_call 21;exact Calls.quiet_of_same (in_spec _ _ _ _))|(go_at_call 29;exact Calls.quiet_of_same (link_spec _ _ _ g _ _ _ (HR2.out.below Bn))))
       go_wp2
       go_roundw
       case rel =>
        refine ⟨k+1,by omega,by go_num,fun j hj=>?_,HB.out.trans ((show Below _ _ _ from Bn).mono HB.out.size)⟩
        by_cases e:j=k
        · subst e;exact HF.out
        · exact HA.out j (by omega)
       case measure=>simp [intOf];omega
     · have ek:k=l 1:=by omega
       have HR1:=hid (show ∀ j,j<l 1→linkB g (l 0) j=true by rw [← ek];exact HA.out)
       clear HA
       have hlt':decide (k<l 1)=false:=decide_eq_false (by omega)
       clear hlt ek hk NR
       go_wp2
       have HBX:=hid HB.out
       clear HB BR c1 hzz
       go_loopw [7] (fun i wr2=>∃ k:Nat,k≤l 4∧i=.int .i64 k∧(∀ j,j<k→importB g (l 1) x j=true)∧Below ((w.alloc (.cells #[.slice (p 0) (l 0) (c 0),.slice (p 1) (l 1) (c 1),.slice (p 2) (l 2) (c 2),.slice (p 3) (l 3) (c 3),.slice (p 4) (l 4) (c 4),.slice (p 5) (l 5) (c 5)] 29))).heap.size (w.alloc (.cells #[.slice (p 0) (l 0) (c 0),.slice (p 1) (l 1) (c 1),.slice (p 2) (l 2) (c 2),.slice (p 3) (l 3) (c 3),.slice (p 4) (l 4) (c 4),.slice (p 5) (l 5) (c 5)] 29)) wr2) (fun i _=>l 4 - (intOf i).toNat)
       case atStart=>exact ⟨0,Nat.zero_le _,rfl,fun j hj=>absurd hj (Nat.not_lt_zero _),HBX.out⟩
       case round =>
        clear HBX hlt'
        obtain ⟨k,hk,rfl,ha,hbel⟩:=hrel
        have HA:=hid ha
        obtain ⟨c0,c1,c2,c3,c4,c5,hn,hB⟩:=HC1.out _ hbel
        have NR:=hid hn
        have BR:=hid hB
        have HB:=hid hbel
        clear ha hn hB hbel c0 c2 c3 c5
        have hzz:=World.block_lt_of_cell? _ _ c1
        simp only at hzz
        by_cases hlt:k<l 4
        · obtain ⟨b,off,hp,hc0,hc1,hc2,hc3,hc4⟩:=NR.out.imports.at5 hlt
          have HR2:=hid NR.out.links
          obtain ⟨p0,hp0⟩:∃ p0,p 4=p0:=⟨_,rfl⟩
          have HP0:=hid hp0
          rw [hp0] at c4 hp
          clear hp0
          subst hp
          have HQ:Hid (importB g (l 1) x k=(decide (0≤linkAt g (l 1) (x k 0) (x k 1)) && deedB (x k 2) (x k 3) (x k 4))):=rfl
          generalize x k 0=x0 at *
          generalize x k 1=x1 at *
          generalize x k 2=x2 at *
          generalize x k 3=x3 at *
          generalize x k 4=x4 at *
          obtain ⟨p1,e1⟩:∃ p,decide (linkAt g (l 1) x0 x1<0)=p:=⟨_,rfl⟩
          obtain ⟨p2,e2⟩:∃ p,inB x2 0 2=p:=⟨_,rfl⟩
          obtain ⟨p3,e3⟩:∃ p,inB x3 1 4=p:=⟨_,rfl⟩
          obtain ⟨p4,e4⟩:∃ p,(x3 == 2)=p:=⟨_,rfl⟩
          have e4':(x3 != 2) = !p4:=by rw [← e4];rfl
          obtain ⟨p5,e5⟩:∃ p,inB x4 0 1000=p:=⟨_,rfl⟩
          obtain ⟨p7,e7⟩:∃ p,(x4 != 0)=p:=⟨_,rfl⟩
          have HF:Hid (importB g (l 1) x k=(!p1 && p2 && p3 && (if p4 then p5 else !p7))):=import_eq HQ.out e1 e2 e3 e4 e5 e7
          clear HQ
          cases p1 with
          | true =>
           go_wp2_with (first|(go_at_call 21;refine (in_spec _ _ _ _).mono ?_;rintro e' w' ⟨rfl,rfl⟩)|(go_at_call 29;refine (link_spec _ _ _ g _ _ _ (HR2.out.below Bn)).mono ?_;rintro e' w' ⟨rfl,rfl⟩))
           go_ret
           exact ⟨ret_bool (HNO.out (.inr (.inr (.inr (.inr (.inr (.inr (.inr (.inr (.inr (.inl ⟨k,hlt,HF.out⟩))))))))))).symm,BR.out.trans ((show Below _ _ _ from Bn).mono BR.out.size)⟩
          | false =>
          cases p2 with
          | false =>
           go_wp2_with (first|(go_at_call 21;refine (in_spec _ _ _ _).mono ?_;rintro e' w' ⟨rfl,rfl⟩)|(go_at_call 29;refine (link_spec _ _ _ g _ _ _ (HR2.out.below Bn)).mono ?_;rintro e' w' ⟨rfl,rfl⟩))
           go_ret
           exact ⟨ret_bool (HNO.out (.inr (.inr (.inr (.inr (.inr (.inr (.inr (.inr (.inr (.inl ⟨k,hlt,HF.out⟩))))))))))).symm,BR.out.trans ((show Below _ _ _ from Bn).mono BR.out.size)⟩
          | true =>
          cases p3 with
          | false =>
           go_wp2_with (first|(go_at_call 21;refine (in_spec _ _ _ _).mono ?_;rintro e' w' ⟨rfl,rfl⟩)|(go_at_call 29;refine (link_spec _ _ _ g _ _ _ (HR2.out.below Bn)).mono ?_;rintro e' w' ⟨rfl,rfl⟩))
           go_ret
           exact ⟨ret_bool (HNO.out (.inr (.inr (.inr (.inr (.inr (.inr (.inr (.inr (.inr (.inl ⟨k,hlt,HF.out⟩))))))))))).symm,BR.out.trans ((show Below _ _ _ from Bn).mono BR.out.size)⟩
          | true =>
          cases p4 with
          | true =>
           cases p5 with
           | false =>
            go_wp2_with (first|(go_at_call 21;refine (in_spec _ _ _ _).mono ?_;rintro e' w' ⟨rfl,rfl⟩)|(go_at_call 29;refine (link_spec _ _ _ g _ _ _ (HR2.out.below Bn)).mono ?_;rintro e' w' ⟨rfl,rfl⟩))
            go_ret
            exact ⟨ret_bool (HNO.out (.inr (.inr (.inr (.inr (.inr (.inr (.inr (.inr (.inr (.inl ⟨k,hlt,HF.out⟩))))))))))).symm,BR.out.trans ((show Below _ _ _ from Bn).mono BR.out.size)⟩
           | true =>
           go_wp2_with (first|(go_at_call 21;refine (in_spec _ _ _ _).mono ?_;rintro e' w' ⟨rfl,rfl⟩)|(go_at_call 29;refine (link_spec _ _ _ g _ _ _ (HR2.out.below Bn)).mono ?_;rintro e' w' ⟨rfl,rfl⟩))
           go_roundw
           case rel =>
            refine ⟨k+1,by omega,by go_num,fun j hj=>?_,HB.out.trans ((show Below _ _ _ from Bn).mono HB.out.size)⟩
            by_cases e:j=k
            · subst e;exact HF.out
            · exact HA.out j (by omega)
           case measure=>simp [intOf];omega
          | false =>
           cases p7 with
           | true =>
            go_wp2_with (first|(go_at_call 21;refine (in_spec _ _ _ _).mono ?_;rintro e' w' ⟨rfl,rfl⟩)|(go_at_call 29;refine (link_spec _ _ _ g _ _ _ (HR2.out.below Bn)).mono ?_;rintro e' w' ⟨rfl,rfl⟩))
            go_ret
            exact ⟨ret_bool (HNO.out (.inr (.inr (.inr (.inr (.inr (.inr (.inr (.inr (.inr (.inl ⟨k,hlt,HF.out⟩))))))))))).symm,BR.out.trans ((show Below _ _ _ from Bn).mono BR.out.size)⟩
           | false =>
           go_wp2_with (first|(go_at_call 21;refine (in_spec _ _ _ _).mono ?_;rintro e' w' ⟨rfl,rfl⟩)|(go_at_call 29;refine (link_spec _ _ _ g _ _ _ (HR2.out.below Bn)).mono ?_;rintro e' w' ⟨rfl,rfl⟩))
           go_roundw
           case rel =>
            refine ⟨k+1,by omega,by go_num,fun j hj=>?_,HB.out.trans ((show Below _ _ _ from Bn).mono HB.out.size)⟩
            by_cases e:j=k
            · subst e;exact HF.out
            · exact HA.out j (by omega)
           case measure=>simp [intOf];omega
        · have ek:k=l 4:=by omega
          have HR4:=hid (show ∀ j,j<l 4→importB g (l 1) x j=true by rw [← ek];exact HA.out)
          clear HA
          have hlt':decide (k<l 4)=false:=decide_eq_false (by omega)
          clear hlt ek hk NR
          go_wp2
          have HBX:=hid HB.out
          clear HB BR c1 c4 hzz
          go_loopw [9] (fun i wr2=>∃ k:Nat,k≤l 5∧i=.int .i64 k∧(∀ j,j<k→filterB g (l 1) f j=true)∧Below ((w.alloc (.cells #[.slice (p 0) (l 0) (c 0),.slice (p 1) (l 1) (c 1),.slice (p 2) (l 2) (c 2),.slice (p 3) (l 3) (c 3),.slice (p 4) (l 4) (c 4),.slice (p 5) (l 5) (c 5)] 29))).heap.size (w.alloc (.cells #[.slice (p 0) (l 0) (c 0),.slice (p 1) (l 1) (c 1),.slice (p 2) (l 2) (c 2),.slice (p 3) (l 3) (c 3),.slice (p 4) (l 4) (c 4),.slice (p 5) (l 5) (c 5)] 29)) wr2) (fun i _=>l 5 - (intOf i).toNat)
          case atStart=>exact ⟨0,Nat.zero_le _,rfl,fun j hj=>absurd hj (Nat.not_lt_zero _),HBX.out⟩
          case round =>
           clear HBX hlt'
           obtain ⟨k,hk,rfl,ha,hbel⟩:=hrel
           have HA:=hid ha
           obtain ⟨c0,c1,c2,c3,c4,c5,hn,hB⟩:=HC1.out _ hbel
           have NR:=hid hn
           have BR:=hid hB
           have HB:=hid hbel
           clear ha hn hB hbel c0 c2 c3 c4
           have hzz:=World.block_lt_of_cell? _ _ c1
           simp only at hzz
           by_cases hlt:k<l 5
           · obtain ⟨b,off,hp,hc0,hc1,hc2,hc3⟩:=NR.out.filters.at4 hlt
             have HR2:=hid NR.out.links
             obtain ⟨p0,hp0⟩:∃ p0,p 5=p0:=⟨_,rfl⟩
             have HP0:=hid hp0
             rw [hp0] at c5 hp
             clear hp0
             subst hp
             have HQ:Hid (filterB g (l 1) f k=(decide (0≤linkAt g (l 1) (f k 0) (f k 1)) && portsB (f k 2) (f k 3))):=rfl
             generalize f k 0=x0 at *
             generalize f k 1=x1 at *
             generalize f k 2=x2 at *
             generalize f k 3=x3 at *
             obtain ⟨p1,e1⟩:∃ p,decide (linkAt g (l 1) x0 x1<0)=p:=⟨_,rfl⟩
             obtain ⟨p2,e2⟩:∃ p,inB x2 0 15=p:=⟨_,rfl⟩
             obtain ⟨p3,e3⟩:∃ p,inB x3 x2 15=p:=⟨_,rfl⟩
             have HF:Hid (filterB g (l 1) f k=(!p1 && p2 && p3)):=filter_eq HQ.out e1 e2 e3
             clear HQ
             cases p1 with
             | true =>
              go_wp2_with (first|(go_at_call 21;refine (in_spec _ _ _ _).mono ?_;rintro e' w' ⟨rfl,rfl⟩)|(go_at_call 29;refine (link_spec _ _ _ g _ _ _ (HR2.out.below Bn)).mono ?_;rintro e' w' ⟨rfl,rfl⟩))
              go_ret
              exact ⟨ret_bool (HNO.out (.inr (.inr (.inr (.inr (.inr (.inr (.inr (.inr (.inr (.inr (⟨k,hlt,HF.out⟩)))))))))))).symm,BR.out.trans ((show Below _ _ _ from Bn).mono BR.out.size)⟩
             | false =>
             cases p2 with
             | false =>
              go_wp2_with (first|(go_at_call 21;refine (in_spec _ _ _ _).mono ?_;rintro e' w' ⟨rfl,rfl⟩)|(go_at_call 29;refine (link_spec _ _ _ g _ _ _ (HR2.out.below Bn)).mono ?_;rintro e' w' ⟨rfl,rfl⟩))
              go_ret
              exact ⟨ret_bool (HNO.out (.inr (.inr (.inr (.inr (.inr (.inr (.inr (.inr (.inr (.inr (⟨k,hlt,HF.out⟩)))))))))))).symm,BR.out.trans ((show Below _ _ _ from Bn).mono BR.out.size)⟩
             | true =>
             cases p3 with
             | false =>
              go_wp2_with (first|(go_at_call 21;refine (in_spec _ _ _ _).mono ?_;rintro e' w' ⟨rfl,rfl⟩)|(go_at_call 29;refine (link_spec _ _ _ g _ _ _ (HR2.out.below Bn)).mono ?_;rintro e' w' ⟨rfl,rfl⟩))
              go_ret
              exact ⟨ret_bool (HNO.out (.inr (.inr (.inr (.inr (.inr (.inr (.inr (.inr (.inr (.inr (⟨k,hlt,HF.out⟩)))))))))))).symm,BR.out.trans ((show Below _ _ _ from Bn).mono BR.out.size)⟩
             | true =>
             go_wp2_with (first|(go_at_call 21;refine (in_spec _ _ _ _).mono ?_;rintro e' w' ⟨rfl,rfl⟩)|(go_at_call 29;refine (link_spec _ _ _ g _ _ _ (HR2.out.below Bn)).mono ?_;rintro e' w' ⟨rfl,rfl⟩))
             go_roundw
             case rel =>
              refine ⟨k+1,by omega,by go_num,fun j hj=>?_,HB.out.trans ((show Below _ _ _ from Bn).mono HB.out.size)⟩
              by_cases e:j=k
              · subst e;exact HF.out
              · exact HA.out j (by omega)
             case measure=>simp [intOf];omega
           · have ek:k=l 5:=by omega
             have HR5:=hid (show ∀ j,j<l 5→filterB g (l 1) f j=true by rw [← ek];exact HA.out)
             clear HA
             have hlt':decide (k<l 5)=false:=decide_eq_false (by omega)
             clear hlt ek hk NR
             go_wp2
             go_ret
             exact ⟨ret_bool (HYES.out E1.out Q1.out Q4.out Q5.out E5.out E6.out Q3.out HR.out HR1.out HR4.out HR5.out).symm,BR.out⟩
end Go.Proofs.YthompjbplddkgaaGreatDoor.netOKSpec
