import Derived.Test.YthompjbplddkgaaGreatDoorPart1
set_option linter.unusedVariables false
namespace Go.Proofs.YthompjbplddkgaaGreatDoor.numbers
open Go.RowKit base
def digB (n : Int) : Bool := decide (48≤n∧n≤57)
def digS (s : ByteArray) (i : Nat) : Int := (s.data.toList.getD i 0).toNat
theorem digS_eq (s:ByteArray) (i:Nat) (h:i<s.size):digS s i=(s[i].toNat:Int):=by
 unfold digS
 rw [List.getD_eq_getElem?_getD,List.getElem?_eq_getElem (by simpa using h)];rfl
def valS (s : ByteArray) : Nat→Int
 | 0=>0
 | k+1=>valS s k*10+(digS s k - 48)
def allS (s : ByteArray) : Nat→Bool
 | 0=>true
 | k+1=>allS s k && digB (digS s k)
theorem allS_false {s:ByteArray} {k n:Nat} (h:k<n) (hp:digB (digS s k)=false):allS s n=false:=by
 induction n with
 | zero=>omega
 | succ n ih =>
  by_cases e:k=n
  · subst e;simp [allS,hp]
  · simp [allS,ih (by omega)]
theorem val_bound {s : ByteArray} : ∀ k,allS s k=true→0≤valS s k∧valS s k<10 ^ k
 | 0,_=>by simp [valS]
 | k+1,h=>by
  simp only [allS,Bool.and_eq_true] at h
  have h1:=val_bound k h.1
  have h2:48≤digS s k∧digS s k≤57:=of_decide_eq_true h.2
  rw [valS,Int.pow_succ]
  omega
set_option maxHeartbeats 400000 in
theorem dig_impl (n:Int) (w:World) :
  Calls Tryz.prog 88 #[.int .u8 n] w fun e w'=>e=.returned (.bool (digB n))∧w' = w:=by
 go_enter Tryz.func88,Tryz.ntmps88
 go_wp2
 all_goals
  go_ret
  refine ⟨ret_bool ?_,rfl⟩
  rw [Bool.eq_iff_iff];simp [digB];try omega
def negS (s : ByteArray) : Bool := Lib.hasPrefix s.data.toList [45]
def cutS (s : ByteArray) : ByteArray := ⟨(Lib.trimPrefix s.data.toList [45]).toArray⟩
def isNum (s : ByteArray) : Bool := decide ((cutS s).size≠0∧(cutS s).size≤18∧¬ (digS (cutS s) 0=48∧s.toList≠[48])) && allS (cutS s) (cutS s).size
def numS (s : ByteArray) : Int := if isNum s then (if negS s then - valS (cutS s) (cutS s).size else valS (cutS s) (cutS s).size) else 0
theorem cut_impl (s:ByteArray) (w:World) :
  Calls Tryz.prog 93 #[.string s,.string ⟨#[45]⟩] w fun e w'=>e=.returned (.tuple #[.string (cutS s),.bool (negS s)])∧w' = w:=by
 have h:=Any.strings_CutPrefix Tryz.lays103 s ⟨#[45]⟩ w
 change Calls Tryz.prog 93 _ _ _ at h
 exact h
set_option maxHeartbeats 800000 in
theorem number_impl (s:ByteArray) (w:World) :
  Calls Tryz.prog 76 #[.string s] w fun e w'=>e=.returned (.tuple #[.int .i64 (numS s),.bool (isNum s)])∧w' = w:=by
 have HC:=hid (cut_impl s w)
 obtain ⟨D,hD⟩:∃ D,cutS s=D:=⟨_,rfl⟩
 obtain ⟨N,hN⟩:∃ N,negS s=N:=⟨_,rfl⟩
 obtain ⟨V,hV⟩:∃ V,numS s=V:=⟨_,rfl⟩
 obtain ⟨I,hI⟩:∃ I,isNum s=I:=⟨_,rfl⟩
 rw [hD,hN] at HC
 rw [hV,hI]
 have HI:Hid (I=(decide (D.size≠0∧D.size≤18∧¬ (digS D 0=48∧s.toList≠[48])) && allS D D.size)):=by
  show _=_
  rw [← hI,← hD];rfl
 have HV:Hid (V=if I then (if N then - valS D D.size else valS D D.size) else 0):=by
  show _=_
  rw [← hV,← hI,← hN,← hD];rfl
 clear hD hN hV hI
 by_cases h0:D.size=0
 · have hz:((D.size:Int) == 0)=true:=by simp [h0]
   have hI:I=false:=by rw [HI.out];simp [h0]
   have hV:V=0:=by rw [HV.out,hI];rfl
   subst hI hV
   clear HI HV
   go_enter Tryz.func76,Tryz.ntmps76
   go_wp2_with fail
   refine HC.out.mono ?_
   rintro e w1 ⟨rfl,rfl⟩
   go_wp2
   go_ret2
   exact ⟨rfl,rfl⟩
 have hz:((D.size:Int) == 0)=false:=beq_eq_false_iff_ne.2 (by omega)
 by_cases h1:18<D.size
 · have hI : I = false := by
    rw [HI.out]
    have:decide (D.size≠0∧D.size≤18∧¬ (digS D 0=48∧s.toList≠[48]))=false:=decide_eq_false (by omega)
    rw [this];rfl
   have hV:V=0:=by rw [HV.out,hI];rfl
   subst hI hV
   clear HI HV
   have hd:decide ((18:Int)<(D.size:Int))=true:=decide_eq_true (by omega)
   go_enter Tryz.func76,Tryz.ntmps76
   go_wp2_with fail
   refine HC.out.mono ?_
   rintro e w1 ⟨rfl,rfl⟩
   go_wp2
   go_ret2
   exact ⟨rfl,rfl⟩
 have hd:decide ((18:Int)<(D.size:Int))=false:=decide_eq_false (by omega)
 have h0':0<D.size:=by omega
 have HB0:=hid (digS_eq D 0 h0')
 by_cases h2:digS D 0=48∧s.toList≠[48]
 · have hI : I = false := by
    rw [HI.out]
    have:decide (D.size≠0∧D.size≤18∧¬ (digS D 0=48∧s.toList≠[48]))=false:=decide_eq_false (fun h=>h.2.2 h2)
    rw [this];rfl
   have hV:V=0:=by rw [HV.out,hI];rfl
   subst hI hV
   clear HI HV
   have hq:((D[0].toNat:Int) == 48)=true:=by rw [← HB0.out,h2.1];rfl
   have hr:(s.toList == [48])=false:=beq_eq_false_iff_ne.2 h2.2
   clear h2
   go_enter Tryz.func76,Tryz.ntmps76
   go_wp2_with fail
   refine HC.out.mono ?_
   rintro e w1 ⟨rfl,rfl⟩
   go_wp2
   go_ret2
   exact ⟨rfl,rfl⟩
 have hIe:Hid (I=allS D D.size):=by
  show _=_
  rw [HI.out]
  have:decide (D.size≠0∧D.size≤18∧¬ (digS D 0=48∧s.toList≠[48]))=true:=decide_eq_true ⟨h0,by omega,h2⟩
  rw [this];rfl
 have hcase:(((D[0].toNat:Int) == 48)=true∧(s.toList == [48])=true)∨((D[0].toNat:Int) == 48)=false:=by
  rw [← HB0.out]
  by_cases hq:digS D 0=48
  · exact .inl ⟨by rw [hq];rfl,beq_iff_eq.2 (Decidable.byContradiction fun hs=>h2 ⟨hq,hs⟩)⟩
  · exact .inr (beq_eq_false_iff_ne.2 hq)
 clear HI h2 HB0
 rcases hcase with ⟨hq,hr⟩|hq
 all_goals
  go_enter Tryz.func76,Tryz.ntmps76
  go_wp2_with fail
  refine HC.out.mono ?_
  rintro e w1 ⟨rfl,rfl⟩
  go_wp2
  go_loop [30,6] (fun i n=>∃ k:Nat,k≤D.size∧i=.int .i64 k∧n=.int .i64 (valS D k)∧allS D k=true) (fun i _=>D.size - (intOf i).toNat)
  case atStart=>exact ⟨0,Nat.zero_le _,rfl,rfl,rfl⟩
  case round =>
   obtain ⟨k,hk,rfl,rfl,ha⟩:=hrel
   have HA:=hid ha
   have hvb:=val_bound k ha
   have hp:(10:Int) ^ k≤10 ^ 18:=by
    have:(10:Nat) ^ k≤10 ^ 18:=Nat.pow_le_pow_right (by omega) (by omega)
    exact_mod_cast this
   have HVn:=hid (show valS D (k+1)=valS D k*10+(digS D k - 48) from rfl)
   clear ha
   by_cases hlt:k<D.size
   · have HBk:=hid (digS_eq D k hlt)
     have hp17:valS D k<100000000000000000:=by
      have:(10:Nat) ^ k≤10 ^ 17:=Nat.pow_le_pow_right (by omega) (by omega)
      have:(10:Int) ^ k≤10 ^ 17:=by exact_mod_cast this
      omega
     have hv0:=hvb.1
     have HF:=hid (fun (h:digB (digS D k)=false)=>allS_false hlt h)
     have HS:=hid (show allS D (k+1)=(allS D k && digB (digS D k)) from rfl)
     rw [HBk.out] at HF HS HVn
     clear hvb hp
     by_cases hL:digB (D[k].toNat:Int)=true
     · have hx:48≤(D[k].toNat:Int)∧(D[k].toNat:Int)≤57:=of_decide_eq_true hL
       obtain ⟨hx1,hx2⟩:=hx
       generalize hv:valS D k=v at *
       clear hv
       go_wp2_with (go_at_call 88;refine (dig_impl _ _).mono ?_;rintro e w' ⟨rfl,rfl⟩)
       exact ⟨⟨k+1,by omega,by go_num,by rw [HVn.out];congr 1;omega,by rw [HS.out,HA.out,hL];rfl⟩,by simp [intOf];omega⟩
     · have hL':digB (D[k].toNat:Int)=false:=by simpa using hL
       clear hL
       have hI:I=false:=by rw [hIe.out];exact HF.out hL'
       have hV:V=0:=by rw [HV.out,hI];rfl
       go_wp2_with (go_at_call 88;refine (dig_impl _ _).mono ?_;rintro e w' ⟨rfl,rfl⟩)
       go_ret2
       exact ⟨by rw [hI,hV];rfl,rfl⟩
   · have e:k=D.size:=by omega
     subst e
     have hI:I=true:=by rw [hIe.out];exact HA.out
     have hV:V=if N then - valS D D.size else valS D D.size:=by rw [HV.out,hI];rfl
     subst hI
     clear HV hIe
     have HVv:=hid hV
     clear hV
     obtain ⟨hv0,hv1⟩:=hvb
     have hv2:valS D D.size≤1000000000000000000:=by omega
     clear hp hv1 HVn
     generalize valS D D.size=v at *
     cases N
     · go_wp2
       go_ret2
       exact ⟨by rw [HVv.out];rfl,rfl⟩
     · go_wp2
       go_ret2
       exact ⟨by rw [HVv.out];rfl,rfl⟩
theorem toList_data (s:ByteArray):s.toList=s.data.toList:=Lib.toList_data s
theorem neg_at (s:ByteArray) (h:0<s.size):negS s=((s[0].toNat:Int) == 45):=by
 rw [← digS_eq s 0 h]
 unfold negS Lib.hasPrefix digS
 have hl:0<s.data.toList.length:=by simpa using h
 match e:s.data.toList,hl with
 | x::xs,_ =>
  simp [List.isPrefixOf]
  rw [Bool.eq_iff_iff]
  simp
  constructor
  · intro h;rw [← h];rfl
  · intro h
    have:x.toNat=(45:UInt8).toNat:=by have:(45:UInt8).toNat=45:=rfl;omega
    exact (UInt8.toNat_inj.1 this).symm
theorem neg_none (s:ByteArray) (h:s.size=0):negS s=false:=by
 unfold negS Lib.hasPrefix
 have hl:s.data.toList.length=0:=by simpa using h
 rw [List.length_eq_zero_iff.1 hl]
 rfl
theorem cut_pos (s:ByteArray) (h:negS s=false):cutS s=s:=by
 unfold cutS Lib.trimPrefix
 rw [if_neg (by unfold negS at h;rw [h];simp)]
theorem cut_neg (s:ByteArray) (h:negS s=true):cutS s=s.extract 1 s.size:=by
 have h1:0<s.size:=Nat.pos_of_ne_zero fun e=>by rw [neg_none s e] at h;cases h
 have h2:=Lib.hasPrefix_raw s ⟨#[45]⟩
 have h3:(decide ((⟨#[45]⟩:ByteArray).size≤s.size) && ((s.extract 0 (⟨#[45]⟩:ByteArray).size).toList == (⟨#[45]⟩:ByteArray).toList))=true:=h2.trans h
 rw [Bool.and_eq_true] at h3
 exact Lib.trimPrefix_hit s ⟨#[45]⟩ (of_decide_eq_true h3.1) h3.2
theorem nought (s:ByteArray):(digS (cutS s) 0=48∧s.toList≠[48]) ↔ (digS (cutS s) 0=48∧(1<(cutS s).size∨negS s=true)):=by
 constructor
 · rintro ⟨h48,hne⟩
   refine ⟨h48,?_⟩
   by_cases hN:negS s=true
   · exact .inr hN
   · left
     have hc:=cut_pos s (by simpa using hN)
     rw [hc] at h48 ⊢
     rw [toList_data] at hne
     unfold digS at h48
     have hl:s.data.toList.length=s.size:=by simp
     rcases e:s.data.toList with _|⟨x,_|⟨y,r⟩⟩
     · rw [e] at h48;simp at h48
     · rw [e] at h48 hne
       simp at h48
       exact absurd (by rw [UInt8.toNat_inj.1 (show x.toNat=(48:UInt8).toNat from by have:(48:UInt8).toNat=48:=rfl;omega)]) hne
     · rw [e] at hl;simp at hl;omega
 · rintro ⟨h48,h⟩
   refine ⟨h48,fun hs=>?_⟩
   rw [toList_data] at hs
   have hn:negS s=false:=by unfold negS;rw [hs];rfl
   rw [cut_pos s hn,hn] at h
   have hl:s.data.toList.length=s.size:=by simp
   rw [hs] at hl
   simp at hl h
   omega
set_option maxHeartbeats 1600000 in
theorem number_spec (s:ByteArray) (w:World) (hs:s.size≤maxLen) :
  Calls Tryz.prog 47 #[.string s] w fun e w'=>e=.returned (.tuple #[.int .i64 (numS s),.bool (isNum s)])∧w' = w:=by
 unfold maxLen at hs
 have hn48:=nought s
 have hng:=neg_at s
 have hnn:=neg_none s
 have hcp:=cut_pos s
 have hcn:=cut_neg s
 obtain ⟨D,hD⟩:∃ D,cutS s=D:=⟨_,rfl⟩
 obtain ⟨N,hN⟩:∃ N,negS s=N:=⟨_,rfl⟩
 obtain ⟨V,hV⟩:∃ V,numS s=V:=⟨_,rfl⟩
 obtain ⟨I,hI⟩:∃ I,isNum s=I:=⟨_,rfl⟩
 rw [hV,hI]
 have HI:Hid (I=(decide (D.size≠0∧D.size≤18∧¬ (digS D 0=48∧(1<D.size∨N=true))) && allS D D.size)):=by
  show _=_
  rw [← hI,← hD,← hN]
  unfold isNum
  congr 1
  rw [Bool.eq_iff_iff,decide_eq_true_eq,decide_eq_true_eq,hn48]
 have HV:Hid (V=if I then (if N then - valS D D.size else valS D D.size) else 0):=by
  show _=_
  rw [← hV,← hI,← hN,← hD];rfl
 rw [hD,hN] at hcn hcp
 rw [hN] at hng hnn
 clear hD hN hV hI hn48
 have hDs:D.size≤s.size:=by
  cases N
  · rw [hcp rfl];exact Nat.le_refl _
  · rw [hcn rfl,ByteArray.size_extract];omega
 have HNG:=hid hng
 have HNN:=hid hnn
 have HCP:=hid hcp
 have HCN:=hid hcn
 clear hng hnn hcp hcn
 -- the sign's test
 have hsign:(N=true∧0<s.size∧s.extract 1 s.size=D)∨(N=false∧D=s):=by
  cases N
  · exact .inr ⟨rfl,HCP.out rfl⟩
  · exact .inl ⟨rfl,Nat.pos_of_ne_zero fun e=>Bool.noConfusion (HNN.out e),(HCN.out rfl).symm⟩
 rcases hsign with ⟨rfl,hpos,hext⟩|⟨rfl,hsD⟩
 · have hq0:((s[0].toNat:Int) == 45)=true:=(HNG.out hpos).symm
   have hgt:decide ((0:Int)<(s.size:Int))=true:=decide_eq_true (by omega)
   by_cases h0:D.size=0
   · have hz:((D.size:Int) == 0)=true:=by simp [h0]
     have hI:I=false:=by rw [HI.out];simp [h0]
     have hV:V=0:=by rw [HV.out,hI];rfl
     subst hI hV
     clear HI HV HNG HNN HCP HCN
     go_enter Tryz.func47,Tryz.ntmps47
     go_wp2
     go_ret2
     exact ⟨rfl,rfl⟩
   have hz:((D.size:Int) == 0)=false:=beq_eq_false_iff_ne.2 (by omega)
   by_cases h1:18<D.size
   · have hd:decide ((18:Int)<(D.size:Int))=true:=decide_eq_true (by omega)
     have hI:I=false:=by
      rw [HI.out]
      have:decide (D.size≠0∧D.size≤18∧¬ (digS D 0=48∧(1<D.size∨true=true)))=false:=decide_eq_false (by omega)
      rw [this];rfl
     have hV:V=0:=by rw [HV.out,hI];rfl
     subst hI hV
     clear HI HV HNG HNN HCP HCN
     go_enter Tryz.func47,Tryz.ntmps47
     go_wp2
     go_ret2
     exact ⟨rfl,rfl⟩
   have hd:decide ((18:Int)<(D.size:Int))=false:=decide_eq_false (by omega)
   have h0':0<D.size:=by omega
   have HB0:=hid (digS_eq D 0 h0')
   by_cases h2:digS D 0=48∧(1<D.size∨true=true)
   · have hq:((D[0].toNat:Int) == 48)=true:=by rw [← HB0.out,h2.1];rfl
     have hI:I=false:=by
      rw [HI.out]
      have:decide (D.size≠0∧D.size≤18∧¬ (digS D 0=48∧(1<D.size∨true=true)))=false:=decide_eq_false (fun h=>h.2.2 h2)
      rw [this];rfl
     have hV:V=0:=by rw [HV.out,hI];rfl
     subst hI hV
     clear HI HV HNG HNN HCP HCN h2
     cases hone:decide ((1:Int)<(D.size:Int))
     all_goals
      go_enter Tryz.func47,Tryz.ntmps47
      go_wp2
      go_ret2
      exact ⟨rfl,rfl⟩
   have hIe:Hid (I=allS D D.size):=by
    show _=_
    rw [HI.out]
    have:decide (D.size≠0∧D.size≤18∧¬ (digS D 0=48∧(1<D.size∨true=true)))=true:=decide_eq_true ⟨h0,by omega,h2⟩
    rw [this];rfl
   have hcase:((D[0].toNat:Int) == 48)=false:=beq_eq_false_iff_ne.2 (by rw [← HB0.out];exact fun h=>h2 ⟨h,.inr rfl⟩)
   rcases (show ((D[0].toNat:Int) == 48)=false∨False from .inl hcase) with hq|hq
   · skip
     clear HI HNG HNN HCP HCN h2 HB0
     go_enter Tryz.func47,Tryz.ntmps47
     go_wp2
     go_loop [6,5] (fun i n=>∃ k:Nat,k≤D.size∧i=.int .i64 k∧n=.int .i64 (valS D k)∧allS D k=true) (fun i _=>D.size - (intOf i).toNat)
     case atStart=>exact ⟨0,Nat.zero_le _,rfl,rfl,rfl⟩
     case round =>
      obtain ⟨k,hk,rfl,rfl,ha⟩:=hrel
      have HA:=hid ha
      have hvb:=val_bound k ha
      have hp:(10:Int) ^ k≤10 ^ 18:=by
       have:(10:Nat) ^ k≤10 ^ 18:=Nat.pow_le_pow_right (by omega) (by omega)
       exact_mod_cast this
      have HVn:=hid (show valS D (k+1)=valS D k*10+(digS D k - 48) from rfl)
      clear ha
      by_cases hlt:k<D.size
      · have HBk:=hid (digS_eq D k hlt)
        have hp17:valS D k<100000000000000000:=by
         have:(10:Nat) ^ k≤10 ^ 17:=Nat.pow_le_pow_right (by omega) (by omega)
         have:(10:Int) ^ k≤10 ^ 17:=by exact_mod_cast this
         omega
        have hv0:=hvb.1
        have HF:=hid (fun (h:digB (digS D k)=false)=>allS_false hlt h)
        have HS:=hid (show allS D (k+1)=(allS D k && digB (digS D k)) from rfl)
        rw [HBk.out] at HF HS HVn
        have hxx:(0:Int)≤(D[k].toNat:Int):=by omega
        have hx256:(D[k].toNat:Int)<256:=by have:=D[k].toNat_lt;omega
        clear hvb hp
        by_cases hL:digB (D[k].toNat:Int)=true
        · have hx:48≤(D[k].toNat:Int)∧(D[k].toNat:Int)≤57:=of_decide_eq_true hL
          obtain ⟨hx1,hx2⟩:=hx
          have hy1:decide ((D[k].toNat:Int)<48)=false:=decide_eq_false (by omega)
          have hy2:decide ((57:Int)<(D[k].toNat:Int))=false:=decide_eq_false (by omega)
          generalize hv:valS D k=v at *
          clear hv
          go_wp2
          exact ⟨⟨k+1,by omega,by go_num,by rw [HVn.out];congr 1;omega,by rw [HS.out,HA.out,hL];rfl⟩,by simp [intOf];omega⟩
        · have hL':digB (D[k].toNat:Int)=false:=by simpa using hL
          clear hL
          have hI:I=false:=by rw [hIe.out];exact HF.out hL'
          have hV:V=0:=by rw [HV.out,hI];rfl
          have hno:(D[k].toNat:Int)<48∨57<(D[k].toNat:Int):=by
           have:¬ (48≤(D[k].toNat:Int)∧(D[k].toNat:Int)≤57):=of_decide_eq_false hL'
           omega
          subst hI hV
          clear HV hIe HF HS HVn
          rcases hno with hno|hno
          · have hy1:decide ((D[k].toNat:Int)<48)=true:=decide_eq_true hno
            go_wp2
            go_ret2
            exact ⟨rfl,rfl⟩
          · have hy1:decide ((D[k].toNat:Int)<48)=false:=decide_eq_false (by omega)
            have hy2:decide ((57:Int)<(D[k].toNat:Int))=true:=decide_eq_true hno
            go_wp2
            go_ret2
            exact ⟨rfl,rfl⟩
      · have e:k=D.size:=by omega
        subst e
        have hI:I=true:=by rw [hIe.out];exact HA.out
        have hV:V = - valS D D.size:=by rw [HV.out,hI];rfl
        subst hI
        clear HV hIe
        have HVv:=hid hV
        clear hV
        obtain ⟨hv0,hv1⟩:=hvb
        have hv2:valS D D.size≤1000000000000000000:=by omega
        clear hp hv1 HVn
        generalize valS D D.size=v at *
        go_wp2
        go_ret2
        exact ⟨by rw [HVv.out];go_num,rfl⟩
   · exact hq.elim
 · subst hsD
   by_cases h0:D.size=0
   · have hgt:decide ((0:Int)<(D.size:Int))=false:=decide_eq_false (by omega)
     have hz:((D.size:Int) == 0)=true:=by simp [h0]
     have hI:I=false:=by rw [HI.out];simp [h0]
     have hV:V=0:=by rw [HV.out,hI];rfl
     subst hI hV
     clear HI HV HNG HNN HCP HCN
     go_enter Tryz.func47,Tryz.ntmps47
     go_wp2
     go_ret2
     exact ⟨rfl,rfl⟩
   have h0':0<D.size:=by omega
   have hq0:((D[0].toNat:Int) == 45)=false:=(HNG.out h0').symm
   have hgt:decide ((0:Int)<(D.size:Int))=true:=decide_eq_true (by omega)
   have hz:((D.size:Int) == 0)=false:=beq_eq_false_iff_ne.2 (by omega)
   by_cases h1:18<D.size
   · have hd:decide ((18:Int)<(D.size:Int))=true:=decide_eq_true (by omega)
     have hI:I=false:=by
      rw [HI.out]
      have:decide (D.size≠0∧D.size≤18∧¬ (digS D 0=48∧(1<D.size∨false=true)))=false:=decide_eq_false (by omega)
      rw [this];rfl
     have hV:V=0:=by rw [HV.out,hI];rfl
     subst hI hV
     clear HI HV HNG HNN HCP HCN
     go_enter Tryz.func47,Tryz.ntmps47
     go_wp2
     go_ret2
     exact ⟨rfl,rfl⟩
   have hd:decide ((18:Int)<(D.size:Int))=false:=decide_eq_false (by omega)
   have HB0:=hid (digS_eq D 0 h0')
   by_cases h2:digS D 0=48∧(1<D.size∨false=true)
   · have hq:((D[0].toNat:Int) == 48)=true:=by rw [← HB0.out,h2.1];rfl
     have hone:decide ((1:Int)<(D.size:Int))=true:=decide_eq_true (by have:=h2.2.resolve_right Bool.false_ne_true;omega)
     have hI:I=false:=by
      rw [HI.out]
      have:decide (D.size≠0∧D.size≤18∧¬ (digS D 0=48∧(1<D.size∨false=true)))=false:=decide_eq_false (fun h=>h.2.2 h2)
      rw [this];rfl
     have hV:V=0:=by rw [HV.out,hI];rfl
     subst hI hV
     clear HI HV HNG HNN HCP HCN h2
     go_enter Tryz.func47,Tryz.ntmps47
     go_wp2
     go_ret2
     exact ⟨rfl,rfl⟩
   have hIe:Hid (I=allS D D.size):=by
    show _=_
    rw [HI.out]
    have:decide (D.size≠0∧D.size≤18∧¬ (digS D 0=48∧(1<D.size∨false=true)))=true:=decide_eq_true ⟨h0,by omega,h2⟩
    rw [this];rfl
   have hcase:(((D[0].toNat:Int) == 48)=true∧decide ((1:Int)<(D.size:Int))=false)∨((D[0].toNat:Int) == 48)=false:=by
    rw [← HB0.out]
    by_cases hq:digS D 0=48
    · exact .inl ⟨by rw [hq];rfl,decide_eq_false fun h=>h2 ⟨hq,.inl (by omega)⟩⟩
    · exact .inr (beq_eq_false_iff_ne.2 hq)
   rcases hcase with ⟨hq,hone⟩|hq
   all_goals
    clear HI HNG HNN HCP HCN h2 HB0
    go_enter Tryz.func47,Tryz.ntmps47
    go_wp2
    go_loop [6,5] (fun i n=>∃ k:Nat,k≤D.size∧i=.int .i64 k∧n=.int .i64 (valS D k)∧allS D k=true) (fun i _=>D.size - (intOf i).toNat)
    case atStart=>exact ⟨0,Nat.zero_le _,rfl,rfl,rfl⟩
    case round =>
     obtain ⟨k,hk,rfl,rfl,ha⟩:=hrel
     have HA:=hid ha
     have hvb:=val_bound k ha
     have hp:(10:Int) ^ k≤10 ^ 18:=by
      have:(10:Nat) ^ k≤10 ^ 18:=Nat.pow_le_pow_right (by omega) (by omega)
      exact_mod_cast this
     have HVn:=hid (show valS D (k+1)=valS D k*10+(digS D k - 48) from rfl)
     clear ha
     by_cases hlt:k<D.size
     · have HBk:=hid (digS_eq D k hlt)
       have hp17:valS D k<100000000000000000:=by
        have:(10:Nat) ^ k≤10 ^ 17:=Nat.pow_le_pow_right (by omega) (by omega)
        have:(10:Int) ^ k≤10 ^ 17:=by exact_mod_cast this
        omega
       have hv0:=hvb.1
       have HF:=hid (fun (h:digB (digS D k)=false)=>allS_false hlt h)
       have HS:=hid (show allS D (k+1)=(allS D k && digB (digS D k)) from rfl)
       rw [HBk.out] at HF HS HVn
       have hxx:(0:Int)≤(D[k].toNat:Int):=by omega
       have hx256:(D[k].toNat:Int)<256:=by have:=D[k].toNat_lt;omega
       clear hvb hp
       by_cases hL:digB (D[k].toNat:Int)=true
       · have hx:48≤(D[k].toNat:Int)∧(D[k].toNat:Int)≤57:=of_decide_eq_true hL
         obtain ⟨hx1,hx2⟩:=hx
         have hy1:decide ((D[k].toNat:Int)<48)=false:=decide_eq_false (by omega)
         have hy2:decide ((57:Int)<(D[k].toNat:Int))=false:=decide_eq_false (by omega)
         generalize hv:valS D k=v at *
         clear hv
         go_wp2
         exact ⟨⟨k+1,by omega,by go_num,by rw [HVn.out];congr 1;omega,by rw [HS.out,HA.out,hL];rfl⟩,by simp [intOf];omega⟩
       · have hL':digB (D[k].toNat:Int)=false:=by simpa using hL
         clear hL
         have hI:I=false:=by rw [hIe.out];exact HF.out hL'
         have hV:V=0:=by rw [HV.out,hI];rfl
         have hno:(D[k].toNat:Int)<48∨57<(D[k].toNat:Int):=by
          have:¬ (48≤(D[k].toNat:Int)∧(D[k].toNat:Int)≤57):=of_decide_eq_false hL'
          omega
         subst hI hV
         clear HV hIe HF HS HVn
         rcases hno with hno|hno
         · have hy1:decide ((D[k].toNat:Int)<48)=true:=decide_eq_true hno
           go_wp2
           go_ret2
           exact ⟨rfl,rfl⟩
         · have hy1:decide ((D[k].toNat:Int)<48)=false:=decide_eq_false (by omega)
           have hy2:decide ((57:Int)<(D[k].toNat:Int))=true:=decide_eq_true hno
           go_wp2
           go_ret2
           exact ⟨rfl,rfl⟩
     · have e:k=D.size:=by omega
       subst e
       have hI:I=true:=by rw [hIe.out];exact HA.out
       have hV:V=valS D D.size:=by rw [HV.out,hI];rfl
       subst hI
       clear HV hIe
       have HVv:=hid hV
       clear hV
       obtain ⟨hv0,hv1⟩:=hvb
       have hv2:valS D D.size≤1000000000000000000:=by omega
       clear hp hv1 HVn
       generalize valS D D.size=v at *
       go_wp2
       go_ret2
       exact ⟨by rw [HVv.out];go_num,rfl⟩
end Go.Proofs.YthompjbplddkgaaGreatDoor.numbers
