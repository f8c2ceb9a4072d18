import Derived.Test.YthompjbplddkgaaGreatDoorNetImpl
import Derived.BigRegion
set_option linter.unusedVariables false
namespace Go.Proofs.YthompjbplddkgaaGreatDoor.askTake
open Go.RowKit Go.Deep Go base names netSem netImpl numbers askWords askSem
structure Oth2 (A P : Nat) (w w' : World) : Prop where
 os:w'.os=w.os
 tape:w'.tape=w.tape
 output:w'.output=w.output
 size:w.heap.size≤w'.heap.size
 block:∀ b,b<w.heap.size→b≠A→b≠P→w'.heap[b]? = w.heap[b]?
theorem Oth2.refl (A P:Nat) (w:World):Oth2 A P w w:=⟨rfl,rfl,rfl,Nat.le_refl _,fun _ _ _ _=>rfl⟩
theorem Oth2.trans {A P:Nat} {x y z:World} (h:Oth2 A P x y) (k:Oth2 A P y z):Oth2 A P x z :=
 ⟨k.os.trans h.os,k.tape.trans h.tape,k.output.trans h.output,Nat.le_trans h.size k.size,fun i hi hn hm=>(k.block i (Nat.lt_of_lt_of_le hi h.size) hn hm).trans (h.block i hi hn hm)⟩
theorem Oth2.of_below {A P:Nat} {w w':World} (hb:Below w.heap.size w w'):Oth2 A P w w' := ⟨hb.os,hb.tape,hb.output,hb.size,fun i hi _ _=>hb.block i hi⟩
theorem Oth2.below {A P N:Nat} {w w':World} (h:Oth2 A P w w') (hN:N≤w.heap.size) (hA:N≤A) (hP:N≤P):Below N w w' := ⟨h.os,h.tape,h.output,h.size,fun i hi=>h.block i (by omega) (by omega) (by omega)⟩
theorem Oth2.setA (A P:Nat) (w:World) (o:Nat) (v:Value):Oth2 A P w (w.setCell ⟨A,o,none⟩ v) :=
 ⟨rfl,rfl,rfl,by simp [World.setCell],fun k hk hn _=>Below.heap_setCell _ _ _ _ hn⟩
theorem Oth2.setP (A P:Nat) (w:World) (o:Nat) (v:Value):Oth2 A P w (w.setCell ⟨P,o,none⟩ v) :=
 ⟨rfl,rfl,rfl,by simp [World.setCell],fun k hk _ hn=>Below.heap_setCell _ _ _ _ hn⟩
theorem Oth2.widen {A P:Nat} {w w':World} (h:Oth2 A A w w'):Oth2 A P w w' := ⟨h.os,h.tape,h.output,h.size,fun i hi hn _=>h.block i hi hn hn⟩
theorem Oth2.drew {A P:Nat} {w w':World} (h:Oth2 A P w w'):Oth2 A P w w'.drew:=⟨h.os,h.tape,h.output,h.size,h.block⟩
theorem cell_in {w:World} {b:Nat} {cs:Array Value} {T:TypeId} {fr:Nat × Nat} (hb:w.heap[b]? = some (.cells cs T fr)) (j:Nat):w.cell? ⟨b,j,none⟩=cs[j]?:=by
 simp [World.cell?,hb]
theorem frozen_in {w:World} {b:Nat} {cs:Array Value} {T:TypeId} (hb:w.heap[b]? = some (.cells cs T (0,0))) (j:Nat):w.frozen? ⟨b,j,none⟩=false:=by
 simp [World.frozen?,hb]
structure As (A : Nat) (w : World) (nm : Value) (a : Option Addr) (c : Nat) (R : List Wd) (code : Int) : Prop where
 blk:w.heap[A]? = some (.cells #[nm,.slice a R.length c,.int .i64 code] 53 (0,0))
 row:TRow A w a c R
theorem As.lt {A:Nat} {w:World} {nm:Value} {a:Option Addr} {c:Nat} {R:List Wd} {code:Int} (h:As A w nm a c R code):A<w.heap.size:=(Array.getElem?_eq_some_iff.1 h.blk).1
theorem As.cells {A:Nat} {w:World} {nm:Value} {a:Option Addr} {c:Nat} {R:List Wd} {code:Int} (h:As A w nm a c R code):w.cell? ⟨A,0,none⟩=some nm∧w.cell? ⟨A,1,none⟩=some (.slice a R.length c)∧w.cell? ⟨A,2,none⟩=some (.int .i64 code)∧w.frozen? ⟨A,1,none⟩=false∧w.frozen? ⟨A,2,none⟩=false :=
 ⟨cell_in h.blk 0,cell_in h.blk 1,cell_in h.blk 2,frozen_in h.blk 1,frozen_in h.blk 2⟩
theorem As.same {A:Nat} {w w':World} {nm:Value} {a:Option Addr} {c:Nat} {R:List Wd} {code:Int} (h:As A w nm a c R code) (hA:w'.heap[A]? = w.heap[A]?) (hb:Below A w w'):As A w' nm a c R code :=
 ⟨by rw [hA];exact h.blk,h.row.under hb⟩
theorem As.left {A:Nat} {w:World} {nm:Value} {a a':Option Addr} {c c':Nat} {R R':List Wd} {code:Int} (h:As A w nm a c R code) (ht:TRow A w a' c' R'):As A (w.setCell ⟨A,1,none⟩ (.slice a' R'.length c')) nm a' c' R' code :=
 ⟨by rw [heap_setCell_same w A 1 _ _ _ h.blk];rfl,ht.under ((Below.refl A w).setCell (Nat.le_refl _) _)⟩
theorem As.fault {A:Nat} {w:World} {nm:Value} {a:Option Addr} {c:Nat} {R:List Wd} {code:Int} (n:Int) (h:As A w nm a c R code):As A (w.setCell ⟨A,2,none⟩ (.int .i64 n)) nm a c R n :=
 ⟨by rw [heap_setCell_same w A 2 _ _ _ h.blk];rfl,h.row.under ((Below.refl A w).setCell (Nat.le_refl _) _)⟩
def Bad (A P : Nat) (n : Int) (w w' : World) : Prop := w'.cell? ⟨A,2,none⟩=some (.int .i64 n)∧Oth2 A P w w'
theorem As.bad {A P:Nat} {w w':World} {nm:Value} {a:Option Addr} {c:Nat} {R:List Wd} {n:Int} (h:As A w' nm a c R n) (ho:Oth2 A P w w'):Bad A P n w w' := ⟨h.cells.2.2.1,ho⟩
set_option maxHeartbeats 800000 in
theorem next_none (A:Nat) (nm:Value) (a:Option Addr) (c:Nat) (code:Int) (w:World) (h:As A w nm a c [] code) :
  Calls Tryz.prog 72 #[.pointer (some ⟨A,0,none⟩)] w fun e w'=>e=.returned (.string ⟨#[]⟩)∧w' = w:=by
 obtain ⟨k0,k1,k2,f1,f2⟩:=h.cells
 have e0:([]:List Wd).length=0:=rfl
 rw [e0] at k1
 clear h
 go_enter Tryz.func72,Tryz.ntmps72
 go_wp2
 go_ret
 exact ⟨rfl,rfl⟩
set_option maxHeartbeats 800000 in
theorem next_some (A:Nat) (nm:Value) (a:Option Addr) (c:Nat) (x:Wd) (R:List Wd) (code:Int) (w:World) (h:As A w nm a c (x::R) code) :
  Calls Tryz.prog 72 #[.pointer (some ⟨A,0,none⟩)] w fun e w'=>e=.returned (.string (piece x))∧(∃ a' c',As A w' nm a' c' R code)∧Oth2 A A w w' := by
 obtain ⟨k0,k1,k2,f1,f2⟩:=h.cells
 obtain ⟨g,off,rfl,hg,hc⟩:=h.row.head
 have e0:(x::R).length=R.length+1:=rfl
 have hcap:=h.row.cap
 have hmost:=h.row.most
 unfold maxLen at hmost
 rw [e0] at k1 hcap
 have H:=hid h
 have hz:((R.length:Int)+1 == 0)=false:=beq_eq_false_iff_ne.2 (by omega)
 clear h e0
 by_cases hc1:c=1
 · have er:R=[]:=List.length_eq_zero_iff.1 (by omega)
   subst er
   have H2:Hid (As A (w.setCell ⟨A,1,none⟩ (.slice (some ⟨g,off,none⟩) ([]:List Wd).length 0)) nm (some ⟨g,off,none⟩) 0 [] code):=H.out.left (TRow.nil (Nat.zero_le _))
   go_enter Tryz.func72,Tryz.ntmps72
   go_wp2
   go_ret
   exact ⟨rfl,⟨_,_,H2.out⟩,Oth2.setA _ _ _ _ _⟩
 · have H2:Hid (As A (w.setCell ⟨A,1,none⟩ (.slice (some ⟨g,off+1,none⟩) R.length (c - 1))) nm (some ⟨g,off+1,none⟩) (c - 1) R code):=H.out.left H.out.row.tail
   go_enter Tryz.func72,Tryz.ntmps72
   go_wp2
   go_ret
   exact ⟨rfl,⟨_,_,H2.out⟩,Oth2.setA _ _ _ _ _⟩
set_option maxHeartbeats 800000 in
theorem fail_impl (A:Nat) (nm:Value) (a:Option Addr) (c:Nat) (R:List Wd) (code n:Int) (w:World) (h:As A w nm a c R code) :
  Calls Tryz.prog 73 #[.pointer (some ⟨A,0,none⟩),.int .i64 n] w fun e w'=>e=.returned (.bool false)∧As A w' nm a c R n∧Oth2 A A w w' := by
 obtain ⟨k0,k1,k2,f1,f2⟩:=h.cells
 have H:=hid (h.fault n)
 clear h
 go_enter Tryz.func73,Tryz.ntmps73
 go_wp2
 go_ret
 exact ⟨rfl,H.out,Oth2.setA _ _ _ _ _⟩
set_option maxHeartbeats 800000 in
theorem word_hit (A:Nat) (nm:Value) (a:Option Addr) (c:Nat) (x:Wd) (R:List Wd) (code:Int) (D:ByteArray) (w:World) (hx:((piece x).toList == D.toList)=true) (h:As A w nm a c (x::R) code) :
  Calls Tryz.prog 40 #[.pointer (some ⟨A,0,none⟩),.string D] w fun e w'=>e=.returned (.bool true)∧(∃ a' c',As A w' nm a' c' R code)∧Oth2 A A w w' := by
 have H:=hid h
 clear h
 go_enter Tryz.func40,Tryz.ntmps40
 go_wp2_with (go_at_call 72;refine (next_some A nm a c x R code _ H.out).mono ?_;rintro e w1 ⟨rfl,h1,o1⟩)
 go_ret
 exact ⟨rfl,h1,o1⟩
set_option maxHeartbeats 800000 in
theorem word_miss (A:Nat) (nm:Value) (a:Option Addr) (c:Nat) (W:List Wd) (code:Int) (D:ByteArray) (w:World) (hD0:D.toList.isEmpty=false) (hD1:¬ D.toList=[]) (hx:∀ x R,W=x::R→((piece x).toList == D.toList)=false) (h:As A w nm a c W code) :
  Calls Tryz.prog 40 #[.pointer (some ⟨A,0,none⟩),.string D] w fun e w'=>e=.returned (.bool false)∧Bad A A 4 w w' := by
 have H:=hid h
 have hlt:=h.lt
 clear h
 cases W with
 | nil =>
  clear hx
  go_enter Tryz.func40,Tryz.ntmps40
  go_wp2_with (first
   | (go_at_call 72;refine (next_none A nm a c code _ H.out).mono ?_;rintro e w1 ⟨rfl,hw1⟩;have hw1:=hw1.symm;subst hw1)
   | (go_at_call 73;refine (fail_impl A nm a c [] code 4 _ H.out).mono ?_;rintro e w2 ⟨rfl,h2,o2⟩))
  go_ret
  exact ⟨rfl,h2.bad o2⟩
 | cons x R =>
  have hq:=hx x R rfl
  clear hx
  go_enter Tryz.func40,Tryz.ntmps40
  go_wp2_with (first
   | (go_at_call 72;refine (next_some A nm a c x R code _ H.out).mono ?_;rintro e w1 ⟨rfl,⟨a1,c1,h1⟩,o1⟩)
   | (go_at_call 73;refine (fail_impl A nm a1 c1 R code 4 _ h1).mono ?_;rintro e w2 ⟨rfl,h2,o2⟩))
  go_ret
  exact ⟨rfl,h2.bad (o1.trans o2)⟩
theorem kinds {w:World} {N:Nat} (h0:w.cell? ⟨N,0,none⟩=some (.string ⟨#[]⟩)) (h1:w.cell? ⟨N,1,none⟩=some (.string ⟨#[114,101,97,99,104]⟩)) (h2:w.cell? ⟨N,2,none⟩=some (.string ⟨#[110,101,118,101,114]⟩)) (h3:w.cell? ⟨N,3,none⟩=some (.string ⟨#[119,97,121]⟩)) (h4:w.cell? ⟨N,4,none⟩=some (.string ⟨#[111,119,110]⟩)):StrRow w (some ⟨N,0,none⟩) 5 kS :=
 ⟨by unfold maxLen;omega,fun i hi=>by
  match i,hi with
  | 0,_=>decide
  | 1,_=>decide
  | 2,_=>decide
  | 3,_=>decide
  | 4,_=>decide,fun i hi=>⟨N,0,rfl,by
  match i,hi with
  | 0,_=>exact h0
  | 1,_=>exact h1
  | 2,_=>exact h2
  | 3,_=>exact h3
  | 4,_=>exact h4⟩⟩
set_option maxHeartbeats 800000 in
theorem kindWords_impl (w:World) :
  Calls Tryz.prog 75 #[] w fun e w'=>∃ N,e=.returned (.slice (some ⟨N,0,none⟩) 5 5)∧w.heap.size≤N∧StrRow w' (some ⟨N,0,none⟩) 5 kS∧Below w.heap.size w w' := by
 go_enter Tryz.func75,Tryz.ntmps75
 go_wp2
 go_ret
 exact ⟨_,rfl,Nat.le_refl _,kinds (by simp [go_sem]) (by simp [go_sem]) (by simp [go_sem]) (by simp [go_sem]) (by simp [go_sem]),Bl⟩
theorem kind_none : nameAt kS 5 ⟨#[]⟩=0 := firstAt_hit (k:=0) (by omega) (by unfold same;exact decide_eq_true rfl) (fun i hi=>absurd hi (Nat.not_lt_zero _))
theorem put_at {A P o:Nat} {w:World} {xs:Array Value} {t:TypeId} (v:Value) (hP:w.heap[P]? = some (.cells xs t (0,0))):(w.setCell ⟨P,o,none⟩ v).heap[P]? = some (.cells (xs.setIfInBounds o v) t (0,0)):=heap_setCell_same w P o _ _ _ hP
set_option maxHeartbeats 1600000 in
theorem kind_impl_bad (A P o:Nat) (nm:Value) (a:Option Addr) (c:Nat) (y:Wd) (R:List Wd) (code:Int) (xs:Array Value) (t:TypeId) (v0:Value) (w:World) (hP:w.heap[P]? = some (.cells xs t (0,0))) (hv:xs[o]? = some v0) (hAP:A<P) (hk:nameAt kS 5 (piece y)<1) (h:As A w nm a c (y::R) code) :
  Calls Tryz.prog 41 #[.pointer (some ⟨A,0,none⟩),.pointer (some ⟨P,o,none⟩)] w fun e w'=>e=.returned (.bool false)∧Bad A P 4 w w' := by
 have H:=hid h
 have HP:=hid hP
 have hlt:=h.lt
 have hPl:=(Array.getElem?_eq_some_iff.1 hP).1
 clear h hP
 obtain ⟨KD,hKD⟩:∃ q,nameAt kS 5 (piece y)=q:=⟨_,rfl⟩
 have HKD:=hid hKD
 rw [hKD] at hk
 clear hKD
 go_enter Tryz.func41,Tryz.ntmps41
 go_wp2_with fail
 refine (kindWords_impl _).mono ?_
 rintro e w1 ⟨N,rfl,hNw,hk,hb1⟩
 have H1:=hid (H.out.same (hb1.block _ hlt) (hb1.mono (by omega)))
 have HK:=hid hk
 have HB1:=hid hb1
 clear hk hb1
 go_wp2_with fail
 refine (next_some A nm a c y R code _ H1.out).mono ?_
 rintro e w2 ⟨rfl,⟨a2,c2,h2⟩,o2⟩
 have HP2:Hid (w2.heap[P]? = some (.cells xs t (0,0))):=by
  show _=_
  rw [o2.block P (by have:=HB1.out.size;omega) (by omega) (by omega),HB1.out.block P hPl]
  exact HP.out
 have HK2:Hid (StrRow w2 (some ⟨N,0,none⟩) 5 kS):=⟨HK.out.most,HK.out.size,fun i hi=>by
  obtain ⟨b,off,e,hc⟩:=HK.out.cell i hi
  refine ⟨b,off,e,?_⟩
  have hn:b≠A:=by
   simp only [Option.some.injEq,Addr.mk.injEq,and_true] at e
   omega
  rw [World.cell?_of_block (w:=w1) (a:=⟨b,off+i,none⟩) (o2.block b (World.block_lt_of_cell? _ _ hc) hn hn)]
  exact hc⟩
 have HO2:Hid (Oth2 A P w w2):=(Oth2.of_below HB1.out).trans o2.widen
 have H2:=hid h2
 clear h2 o2
 go_wp2_with fail
 refine (index_str _ _ _ kS (piece y) _ HK2.out).mono ?_
 rintro e w2' ⟨rfl,hw2⟩
 have hw2:=hw2.symm
 subst hw2
 rw [HKD.out]
 have v2:w2.cell? ⟨P,o,none⟩=some v0:=(cell_in HP2.out o).trans hv
 have z2:=frozen_in HP2.out o
 have HP3:=hid (put_at (A:=A) (o:=o) (.int .i64 KD) HP2.out)
 have H3:Hid (As A (w2.setCell ⟨P,o,none⟩ (.int .i64 KD)) nm a2 c2 R code):=H2.out.same (Below.heap_setCell _ _ _ _ (by show A≠P;omega)) ((Below.refl A w2).setCell (by show A≤P;omega) _)
 have HO3:Hid (Oth2 A P w (w2.setCell ⟨P,o,none⟩ (.int .i64 KD))):=HO2.out.trans (Oth2.setP _ _ _ _ _)
 have dk:decide ((1:Int)≤KD)=false:=decide_eq_false (by omega)
 clear hk
 go_wp2_with (go_at_call 73;refine (fail_impl A nm a2 c2 R code 4 _ H3.out).mono ?_;rintro e w4 ⟨rfl,h4,o4⟩)
 go_ret
 exact ⟨rfl,h4.bad (HO3.out.trans o4.widen)⟩
set_option maxHeartbeats 1600000 in
theorem kind_impl_good (A P o:Nat) (nm:Value) (a:Option Addr) (c:Nat) (y:Wd) (R:List Wd) (code:Int) (xs:Array Value) (t:TypeId) (v0:Value) (w:World) (hP:w.heap[P]? = some (.cells xs t (0,0))) (hv:xs[o]? = some v0) (hAP:A<P) (hk:¬ nameAt kS 5 (piece y)<1) (h:As A w nm a c (y::R) code) :
  Calls Tryz.prog 41 #[.pointer (some ⟨A,0,none⟩),.pointer (some ⟨P,o,none⟩)] w fun e w'=>e=.returned (.bool true)∧(∃ a' c',As A w' nm a' c' R code)∧w'.heap[P]? = some (.cells (xs.setIfInBounds o (.int .i64 (nameAt kS 5 (piece y)))) t (0,0))∧Oth2 A P w w' := by
 have H:=hid h
 have HP:=hid hP
 have hlt:=h.lt
 have hPl:=(Array.getElem?_eq_some_iff.1 hP).1
 clear h hP
 obtain ⟨KD,hKD⟩:∃ q,nameAt kS 5 (piece y)=q:=⟨_,rfl⟩
 have HKD:=hid hKD
 rw [hKD] at hk ⊢
 clear hKD
 go_enter Tryz.func41,Tryz.ntmps41
 go_wp2_with fail
 refine (kindWords_impl _).mono ?_
 rintro e w1 ⟨N,rfl,hNw,hk,hb1⟩
 have H1:=hid (H.out.same (hb1.block _ hlt) (hb1.mono (by omega)))
 have HK:=hid hk
 have HB1:=hid hb1
 clear hk hb1
 go_wp2_with fail
 refine (next_some A nm a c y R code _ H1.out).mono ?_
 rintro e w2 ⟨rfl,⟨a2,c2,h2⟩,o2⟩
 have HP2:Hid (w2.heap[P]? = some (.cells xs t (0,0))):=by
  show _=_
  rw [o2.block P (by have:=HB1.out.size;omega) (by omega) (by omega),HB1.out.block P hPl]
  exact HP.out
 have HK2:Hid (StrRow w2 (some ⟨N,0,none⟩) 5 kS):=⟨HK.out.most,HK.out.size,fun i hi=>by
  obtain ⟨b,off,e,hc⟩:=HK.out.cell i hi
  refine ⟨b,off,e,?_⟩
  have hn:b≠A:=by
   simp only [Option.some.injEq,Addr.mk.injEq,and_true] at e
   omega
  rw [World.cell?_of_block (w:=w1) (a:=⟨b,off+i,none⟩) (o2.block b (World.block_lt_of_cell? _ _ hc) hn hn)]
  exact hc⟩
 have HO2:Hid (Oth2 A P w w2):=(Oth2.of_below HB1.out).trans o2.widen
 have H2:=hid h2
 clear h2 o2
 go_wp2_with fail
 refine (index_str _ _ _ kS (piece y) _ HK2.out).mono ?_
 rintro e w2' ⟨rfl,hw2⟩
 have hw2:=hw2.symm
 subst hw2
 rw [HKD.out]
 have v2:w2.cell? ⟨P,o,none⟩=some v0:=(cell_in HP2.out o).trans hv
 have z2:=frozen_in HP2.out o
 have HP3:=hid (put_at (A:=A) (o:=o) (.int .i64 KD) HP2.out)
 have H3:Hid (As A (w2.setCell ⟨P,o,none⟩ (.int .i64 KD)) nm a2 c2 R code):=H2.out.same (Below.heap_setCell _ _ _ _ (by show A≠P;omega)) ((Below.refl A w2).setCell (by show A≤P;omega) _)
 have HO3:Hid (Oth2 A P w (w2.setCell ⟨P,o,none⟩ (.int .i64 KD))):=HO2.out.trans (Oth2.setP _ _ _ _ _)
 have dk:decide ((1:Int)≤KD)=true:=decide_eq_true (by omega)
 clear hk
 go_wp2
 go_ret
 exact ⟨rfl,⟨_,_,H3.out⟩,HP3.out,HO3.out⟩
set_option maxHeartbeats 1600000 in
theorem kind_empty (A P o:Nat) (nm:Value) (a:Option Addr) (c:Nat) (code:Int) (xs:Array Value) (t:TypeId) (v0:Value) (w:World) (hP:w.heap[P]? = some (.cells xs t (0,0))) (hv:xs[o]? = some v0) (hAP:A<P) (h:As A w nm a c [] code) :
  Calls Tryz.prog 41 #[.pointer (some ⟨A,0,none⟩),.pointer (some ⟨P,o,none⟩)] w fun e w'=>e=.returned (.bool false)∧Bad A P 4 w w' := by
 have H:=hid h
 have HP:=hid hP
 have hlt:=h.lt
 have hPl:=(Array.getElem?_eq_some_iff.1 hP).1
 clear h hP
 have HKD:=hid kind_none
 go_enter Tryz.func41,Tryz.ntmps41
 go_wp2_with fail
 refine (kindWords_impl _).mono ?_
 rintro e w1 ⟨N,rfl,hNw,hk,hb1⟩
 have H1:=hid (H.out.same (hb1.block _ hlt) (hb1.mono (by omega)))
 have HK:=hid hk
 have HB1:=hid hb1
 clear hk hb1
 go_wp2_with fail
 refine (next_none A nm a c code _ H1.out).mono ?_
 rintro e w2 ⟨rfl,hw9⟩
 have hw9:=hw9.symm
 subst hw9
 have HP2:Hid (w1.heap[P]? = some (.cells xs t (0,0))):=by
  show _=_
  rw [HB1.out.block P hPl]
  exact HP.out
 have HO2:Hid (Oth2 A P w w1):=Oth2.of_below HB1.out
 go_wp2_with fail
 refine (index_str _ _ _ kS ⟨#[]⟩ _ HK.out).mono ?_
 rintro e w2' ⟨rfl,hw2⟩
 have hw2:=hw2.symm
 subst hw2
 rw [HKD.out]
 have v2:w1.cell? ⟨P,o,none⟩=some v0:=(cell_in HP2.out o).trans hv
 have z2:=frozen_in HP2.out o
 have HP3:=hid (put_at (A:=A) (o:=o) (.int .i64 0) HP2.out)
 have H3:Hid (As A (w1.setCell ⟨P,o,none⟩ (.int .i64 0)) nm a c [] code):=H1.out.same (Below.heap_setCell _ _ _ _ (by show A≠P;omega)) ((Below.refl A w1).setCell (by show A≤P;omega) _)
 have HO3:Hid (Oth2 A P w (w1.setCell ⟨P,o,none⟩ (.int .i64 0))):=HO2.out.trans (Oth2.setP _ _ _ _ _)
 go_wp2_with (go_at_call 73;refine (fail_impl A nm a c [] code 4 _ H3.out).mono ?_;rintro e w4 ⟨rfl,h4,o4⟩)
 go_ret
 exact ⟨rfl,h4.bad (HO3.out.trans o4.widen)⟩
set_option maxHeartbeats 1600000 in
theorem router_none (A P o:Nat) (nm:Value) (a:Option Addr) (c:Nat) (code:Int) (w:World) (h:As A w nm a c [] code) :
  Calls Tryz.prog 42 #[.pointer (some ⟨A,0,none⟩),.pointer (some ⟨P,o,none⟩)] w fun e w'=>e=.returned (.bool false)∧Bad A P 4 w w' := by
 obtain ⟨k0,k1,k2,f1,f2⟩:=h.cells
 have e0:([]:List Wd).length=0:=rfl
 rw [e0] at k1
 have H:=hid h
 have hlt:=h.lt
 clear h e0
 go_enter Tryz.func42,Tryz.ntmps42
 go_wp2_with (go_at_call 73;refine (fail_impl A nm a c [] code 4 _ H.out).mono ?_;rintro e w4 ⟨rfl,h4,o4⟩)
 go_ret
 exact ⟨rfl,h4.bad o4.widen⟩
set_option maxHeartbeats 1600000 in
theorem router_take_bad (A P o:Nat) (na:Option Addr) (nl nc:Nat) (s:Ss) (a:Option Addr) (c:Nat) (y:Wd) (R:List Wd) (code:Int) (xs:Array Value) (t:TypeId) (v0:Value) (w:World) (hP:w.heap[P]? = some (.cells xs t (0,0))) (hv:xs[o]? = some v0) (hAP:A<P) (hN:∀ w',Below A w w'→StrRow w' na nl s) (hk:nameAt s nl (piece y)<0) (h:As A w (.slice na nl nc) a c (y::R) code) :
  Calls Tryz.prog 42 #[.pointer (some ⟨A,0,none⟩),.pointer (some ⟨P,o,none⟩)] w fun e w'=>e=.returned (.bool false)∧Bad A P 9 w w' := by
 obtain ⟨k0,k1,k2,f1,f2⟩:=h.cells
 have e0:(y::R).length=R.length+1:=rfl
 rw [e0] at k1
 have hz:((R.length:Int)+1 == 0)=false:=beq_eq_false_iff_ne.2 (by omega)
 have H:=hid h
 have HP:=hid hP
 have HN:=hid hN
 have hlt:=h.lt
 have hPl:=(Array.getElem?_eq_some_iff.1 hP).1
 clear h hP hN e0
 obtain ⟨KD,hKD⟩:∃ q,nameAt s nl (piece y)=q:=⟨_,rfl⟩
 have HKD:=hid hKD
 rw [hKD] at hk
 clear hKD
 go_enter Tryz.func42,Tryz.ntmps42
 go_wp2_with fail
 go_region_with (first
  | (go_at_call 74;have was9:=one9;refine (index_str _ _ _ s (piece y) _ HN2.out).mono ?_;rintro e w3 ⟨rfl,hw3⟩;have hw3:=hw3.symm;subst hw3;rw [HKD.out])
  | (go_at_call 72;refine (next_some A _ a c y R code _ (H.out.same (w' := w.drew) rfl (Below.refl A w).drew)).mono ?_;rintro e w2 ⟨rfl,⟨a2,c2,h2⟩,o2⟩;have one9:True:=trivial;have HP2:Hid (w2.heap[P]? = some (.cells xs t (0,0))):=hid ((o2.block P (show P<w.heap.size from hPl) (by omega) (by omega)).trans HP.out);have HN2:Hid (StrRow w2 na nl s):=hid (HN.out w2 ((Below.refl A w).drew.trans (o2.below (show A≤w.heap.size by omega) (Nat.le_refl _) (Nat.le_refl _))));have v2:w2.cell? ⟨P,o,none⟩=some v0:=(cell_in HP2.out o).trans hv;have z2:=frozen_in HP2.out o;obtain ⟨k0',-,-,-,-⟩:=h2.cells;have HO2:Hid (Oth2 A P w w2):=hid ((Oth2.refl A P w).drew.trans o2.widen);have H2:=hid h2;clear h2 o2))
 all_goals
  have HP3:=hid (put_at (A:=A) (o:=o) (.int .i64 KD) HP2.out)
  have H3:Hid (As A (w2.setCell ⟨P,o,none⟩ (.int .i64 KD)) (.slice na nl nc) a2 c2 R code):=H2.out.same (Below.heap_setCell _ _ _ _ (by show A≠P;omega)) ((Below.refl A w2).setCell (by show A≤P;omega) _)
  have HO3:Hid (Oth2 A P w (w2.setCell ⟨P,o,none⟩ (.int .i64 KD))):=HO2.out.trans (Oth2.setP _ _ _ _ _)
  have dk:decide ((0:Int)≤KD)=false:=decide_eq_false (by omega)
  clear hk
  go_wp2_with (go_at_call 73;refine (fail_impl A _ a2 c2 R code 9 _ H3.out).mono ?_;rintro e w4 ⟨rfl,h4,o4⟩)
  go_ret
  exact ⟨rfl,h4.bad (HO3.out.trans o4.widen)⟩
set_option maxHeartbeats 1600000 in
theorem router_take_good (A P o:Nat) (na:Option Addr) (nl nc:Nat) (s:Ss) (a:Option Addr) (c:Nat) (y:Wd) (R:List Wd) (code:Int) (xs:Array Value) (t:TypeId) (v0:Value) (w:World) (hP:w.heap[P]? = some (.cells xs t (0,0))) (hv:xs[o]? = some v0) (hAP:A<P) (hN:∀ w',Below A w w'→StrRow w' na nl s) (hk:¬ nameAt s nl (piece y)<0) (h:As A w (.slice na nl nc) a c (y::R) code) :
  Calls Tryz.prog 42 #[.pointer (some ⟨A,0,none⟩),.pointer (some ⟨P,o,none⟩)] w fun e w'=>e=.returned (.bool true)∧(∃ a' c',As A w' (.slice na nl nc) a' c' R code)∧w'.heap[P]? = some (.cells (xs.setIfInBounds o (.int .i64 (nameAt s nl (piece y)))) t (0,0))∧Oth2 A P w w' := by
 obtain ⟨k0,k1,k2,f1,f2⟩:=h.cells
 have e0:(y::R).length=R.length+1:=rfl
 rw [e0] at k1
 have hz:((R.length:Int)+1 == 0)=false:=beq_eq_false_iff_ne.2 (by omega)
 have H:=hid h
 have HP:=hid hP
 have HN:=hid hN
 have hlt:=h.lt
 have hPl:=(Array.getElem?_eq_some_iff.1 hP).1
 clear h hP hN e0
 obtain ⟨KD,hKD⟩:∃ q,nameAt s nl (piece y)=q:=⟨_,rfl⟩
 have HKD:=hid hKD
 rw [hKD] at hk ⊢
 clear hKD
 go_enter Tryz.func42,Tryz.ntmps42
 go_wp2_with fail
 go_region_with (first
  | (go_at_call 74;have was9:=one9;refine (index_str _ _ _ s (piece y) _ HN2.out).mono ?_;rintro e w3 ⟨rfl,hw3⟩;have hw3:=hw3.symm;subst hw3;rw [HKD.out])
  | (go_at_call 72;refine (next_some A _ a c y R code _ (H.out.same (w' := w.drew) rfl (Below.refl A w).drew)).mono ?_;rintro e w2 ⟨rfl,⟨a2,c2,h2⟩,o2⟩;have one9:True:=trivial;have HP2:Hid (w2.heap[P]? = some (.cells xs t (0,0))):=hid ((o2.block P (show P<w.heap.size from hPl) (by omega) (by omega)).trans HP.out);have HN2:Hid (StrRow w2 na nl s):=hid (HN.out w2 ((Below.refl A w).drew.trans (o2.below (show A≤w.heap.size by omega) (Nat.le_refl _) (Nat.le_refl _))));have v2:w2.cell? ⟨P,o,none⟩=some v0:=(cell_in HP2.out o).trans hv;have z2:=frozen_in HP2.out o;obtain ⟨k0',-,-,-,-⟩:=h2.cells;have HO2:Hid (Oth2 A P w w2):=hid ((Oth2.refl A P w).drew.trans o2.widen);have H2:=hid h2;clear h2 o2))
 all_goals
  have HP3:=hid (put_at (A:=A) (o:=o) (.int .i64 KD) HP2.out)
  have H3:Hid (As A (w2.setCell ⟨P,o,none⟩ (.int .i64 KD)) (.slice na nl nc) a2 c2 R code):=H2.out.same (Below.heap_setCell _ _ _ _ (by show A≠P;omega)) ((Below.refl A w2).setCell (by show A≤P;omega) _)
  have HO3:Hid (Oth2 A P w (w2.setCell ⟨P,o,none⟩ (.int .i64 KD))):=HO2.out.trans (Oth2.setP _ _ _ _ _)
  have dk:decide ((0:Int)≤KD)=true:=decide_eq_true (by omega)
  clear hk
  go_wp2
  go_ret
  exact ⟨rfl,⟨_,_,H3.out⟩,HP3.out,HO3.out⟩
set_option maxHeartbeats 1600000 in
theorem part_none (A P o:Nat) (nm:Value) (a:Option Addr) (c:Nat) (code top:Int) (D:ByteArray) (w:World) (h:As A w nm a c [] code) :
  Calls Tryz.prog 43 #[.pointer (some ⟨A,0,none⟩),.string D,.int .i64 top,.pointer (some ⟨P,o,none⟩)] w fun e w'=>e=.returned (.bool true)∧Below w.heap.size w w' := by
 obtain ⟨k0,k1,k2,f1,f2⟩:=h.cells
 have e0:([]:List Wd).length=0:=rfl
 rw [e0] at k1
 clear h e0
 go_enter Tryz.func43,Tryz.ntmps43
 go_wp2
 go_ret
 exact ⟨rfl,Below.refl _ _⟩
set_option maxHeartbeats 1600000 in
theorem part_other (A P o:Nat) (nm:Value) (a:Option Addr) (c:Nat) (x:Wd) (R:List Wd) (code top:Int) (D:ByteArray) (w:World) (hx:((piece x).toList == D.toList)=false) (h:As A w nm a c (x::R) code) :
  Calls Tryz.prog 43 #[.pointer (some ⟨A,0,none⟩),.string D,.int .i64 top,.pointer (some ⟨P,o,none⟩)] w fun e w'=>e=.returned (.bool true)∧Below w.heap.size w w' := by
 obtain ⟨k0,k1,k2,f1,f2⟩:=h.cells
 obtain ⟨g,off,rfl,hg,hc⟩:=h.row.head
 have e0:(x::R).length=R.length+1:=rfl
 rw [e0] at k1
 have hz:((R.length:Int)+1 == 0)=false:=beq_eq_false_iff_ne.2 (by omega)
 have i0:(0:Int)<(R.length:Int)+1:=by omega
 clear h e0
 go_enter Tryz.func43,Tryz.ntmps43
 go_wp2
 go_ret
 exact ⟨rfl,Below.refl _ _⟩
theorem num_none : isNum ⟨#[]⟩=false := by decide
set_option maxHeartbeats 1600000 in
theorem part_one (A P o:Nat) (nm:Value) (a:Option Addr) (c:Nat) (x:Wd) (code top:Int) (D:ByteArray) (w:World) (hx:((piece x).toList == D.toList)=true) (h:As A w nm a c ([x]) code) :
  Calls Tryz.prog 43 #[.pointer (some ⟨A,0,none⟩),.string D,.int .i64 top,.pointer (some ⟨P,o,none⟩)] w fun e w'=>e=.returned (.bool false)∧Bad A P 4 w w' := by
 obtain ⟨k0,k1,k2,f1,f2⟩:=h.cells
 obtain ⟨g,off,rfl,hg,hc⟩:=h.row.head
 have e0:([x]:List Wd).length=1:=rfl
 rw [e0] at k1
 have H:=hid h
 have hlt:=h.lt
 clear h
 go_enter Tryz.func43,Tryz.ntmps43
 go_wp2_with fail
 refine (next_some A nm _ c x ([]) code _ H.out).mono ?_
 rintro e w1 ⟨rfl,⟨a1,c1,h1⟩,o1⟩
 have H1:=hid h1
 have HO1:=hid o1
 have hl1:=h1.lt
 clear h1 o1
 go_wp2_with fail
 refine (next_none A nm a1 c1 code _ H1.out).mono ?_
 rintro e w2 ⟨rfl,hw2⟩
 have hw2:=hw2.symm
 subst hw2
 go_wp2_with fail
 refine (number_impl ⟨#[]⟩ _).mono ?_
 rintro e w3 ⟨rfl,hw3⟩
 have hw3:=hw3.symm
 subst hw3
 rw [num_none]
 go_wp2_with (go_at_call 73;refine (fail_impl A nm a1 c1 [] code 4 _ H1.out).mono ?_;rintro e w4 ⟨rfl,h4,o4⟩)
 go_ret
 exact ⟨rfl,h4.bad (HO1.out.trans o4).widen⟩
set_option maxHeartbeats 1600000 in
theorem part_word (A P o:Nat) (nm:Value) (a:Option Addr) (c:Nat) (x y:Wd) (R:List Wd) (code top:Int) (D:ByteArray) (w:World) (hx:((piece x).toList == D.toList)=true) (hn:isNum (piece y)=false) (h:As A w nm a c (x::y::R) code) :
  Calls Tryz.prog 43 #[.pointer (some ⟨A,0,none⟩),.string D,.int .i64 top,.pointer (some ⟨P,o,none⟩)] w fun e w'=>e=.returned (.bool false)∧Bad A P 4 w w' := by
 obtain ⟨k0,k1,k2,f1,f2⟩:=h.cells
 obtain ⟨g,off,rfl,hg,hc⟩:=h.row.head
 have e0:(x::y::R).length=R.length+2:=rfl
 rw [e0] at k1
 have hz:((R.length:Int)+2 == 0)=false:=beq_eq_false_iff_ne.2 (by omega)
 have i0:(0:Int)<(R.length:Int)+2:=by omega
 have HN:=hid hn
 clear hn
 have H:=hid h
 have hlt:=h.lt
 clear h
 go_enter Tryz.func43,Tryz.ntmps43
 go_wp2_with fail
 refine (next_some A nm _ c x (y::R) code _ H.out).mono ?_
 rintro e w1 ⟨rfl,⟨a1,c1,h1⟩,o1⟩
 have H1:=hid h1
 have HO1:=hid o1
 have hl1:=h1.lt
 clear h1 o1
 go_wp2_with fail
 refine (next_some A nm a1 c1 y R code _ H1.out).mono ?_
 rintro e w2 ⟨rfl,⟨a2,c2,h2⟩,o2⟩
 have H2:=hid h2
 have HO2:=hid (HO1.out.trans o2)
 have hl2:=h2.lt
 clear h2 o2
 go_wp2_with fail
 refine (number_impl (piece y) _).mono ?_
 rintro e w3 ⟨rfl,hw3⟩
 have hw3:=hw3.symm
 subst hw3
 rw [HN.out]
 go_wp2_with (go_at_call 73;refine (fail_impl A nm a2 c2 R code 4 _ H2.out).mono ?_;rintro e w4 ⟨rfl,h4,o4⟩)
 go_ret
 exact ⟨rfl,h4.bad (HO2.out.trans o4).widen⟩
set_option maxHeartbeats 1600000 in
theorem part_out (A P o:Nat) (nm:Value) (a:Option Addr) (c:Nat) (x y:Wd) (R:List Wd) (code top:Int) (D:ByteArray) (w:World) (hx:((piece x).toList == D.toList)=true) (hn:isNum (piece y)=true) (hb:inB (numS (piece y)) 0 top=false) (h:As A w nm a c (x::y::R) code) :
  Calls Tryz.prog 43 #[.pointer (some ⟨A,0,none⟩),.string D,.int .i64 top,.pointer (some ⟨P,o,none⟩)] w fun e w'=>e=.returned (.bool false)∧Bad A P 5 w w' := by
 obtain ⟨k0,k1,k2,f1,f2⟩:=h.cells
 obtain ⟨g,off,rfl,hg,hc⟩:=h.row.head
 have e0:(x::y::R).length=R.length+2:=rfl
 rw [e0] at k1
 have hz:((R.length:Int)+2 == 0)=false:=beq_eq_false_iff_ne.2 (by omega)
 have i0:(0:Int)<(R.length:Int)+2:=by omega
 have HN:=hid hn
 have HB:=hid hb
 clear hn hb
 have H:=hid h
 have hlt:=h.lt
 clear h
 go_enter Tryz.func43,Tryz.ntmps43
 go_wp2_with fail
 refine (next_some A nm _ c x (y::R) code _ H.out).mono ?_
 rintro e w1 ⟨rfl,⟨a1,c1,h1⟩,o1⟩
 have H1:=hid h1
 have HO1:=hid o1
 have hl1:=h1.lt
 clear h1 o1
 go_wp2_with fail
 refine (next_some A nm a1 c1 y R code _ H1.out).mono ?_
 rintro e w2 ⟨rfl,⟨a2,c2,h2⟩,o2⟩
 have H2:=hid h2
 have HO2:=hid (HO1.out.trans o2)
 have hl2:=h2.lt
 clear h2 o2
 go_wp2_with fail
 refine (number_impl (piece y) _).mono ?_
 rintro e w3 ⟨rfl,hw3⟩
 have hw3:=hw3.symm
 subst hw3
 rw [HN.out]
 obtain ⟨NU,hNU⟩:∃ q,numS (piece y)=q:=⟨_,rfl⟩
 rw [hNU] at HB ⊢
 clear hNU
 go_wp2_with fail
 refine (within_impl NU 0 top _).mono ?_
 rintro e w4 ⟨rfl,hw4⟩
 have hw4:=hw4.symm
 subst hw4
 rw [HB.out]
 go_wp2_with (go_at_call 73;refine (fail_impl A nm a2 c2 R code 5 _ H2.out).mono ?_;rintro e w4 ⟨rfl,h4,o4⟩)
 go_ret
 exact ⟨rfl,h4.bad (HO2.out.trans o4).widen⟩
set_option maxHeartbeats 1600000 in
theorem part_good (A P o:Nat) (nm:Value) (a:Option Addr) (c:Nat) (x y:Wd) (R:List Wd) (code top:Int) (D:ByteArray) (xs:Array Value) (t:TypeId) (v0:Value) (w:World) (hx:((piece x).toList == D.toList)=true) (hn:isNum (piece y)=true) (hb:inB (numS (piece y)) 0 top=true) (hP:w.heap[P]? = some (.cells xs t (0,0))) (hv:xs[o]? = some v0) (hAP:A<P) (h:As A w nm a c (x::y::R) code) :
  Calls Tryz.prog 43 #[.pointer (some ⟨A,0,none⟩),.string D,.int .i64 top,.pointer (some ⟨P,o,none⟩)] w fun e w'=>e=.returned (.bool true)∧(∃ a' c',As A w' nm a' c' R code)∧w'.heap[P]? = some (.cells (xs.setIfInBounds o (.int .i64 (numS (piece y)))) t (0,0))∧Oth2 A P w w' := by
 obtain ⟨k0,k1,k2,f1,f2⟩:=h.cells
 obtain ⟨g,off,rfl,hg,hc⟩:=h.row.head
 have e0:(x::y::R).length=R.length+2:=rfl
 rw [e0] at k1
 have hz:((R.length:Int)+2 == 0)=false:=beq_eq_false_iff_ne.2 (by omega)
 have i0:(0:Int)<(R.length:Int)+2:=by omega
 have HN:=hid hn
 have HB:=hid hb
 have HP:=hid hP
 have hPl:=(Array.getElem?_eq_some_iff.1 hP).1
 clear hn hb hP
 obtain ⟨NU,hNU⟩:∃ q,numS (piece y)=q:=⟨_,rfl⟩
 have HNU:=hid hNU
 rw [hNU] at HB ⊢
 clear hNU
 have H:=hid h
 have hlt:=h.lt
 clear h
 go_enter Tryz.func43,Tryz.ntmps43
 go_wp2_with fail
 refine (next_some A nm _ c x (y::R) code _ H.out).mono ?_
 rintro e w1 ⟨rfl,⟨a1,c1,h1⟩,o1⟩
 have H1:=hid h1
 have HO1:=hid o1
 have hl1:=h1.lt
 clear h1 o1
 go_wp2_with fail
 refine (next_some A nm a1 c1 y R code _ H1.out).mono ?_
 rintro e w2 ⟨rfl,⟨a2,c2,h2⟩,o2⟩
 have H2:=hid h2
 have HO2:=hid (HO1.out.trans o2)
 have hl2:=h2.lt
 clear h2 o2
 go_wp2_with fail
 refine (number_impl (piece y) _).mono ?_
 rintro e w3 ⟨rfl,hw3⟩
 have hw3:=hw3.symm
 subst hw3
 rw [HN.out]
 rw [HNU.out]
 go_wp2_with fail
 refine (within_impl NU 0 top _).mono ?_
 rintro e w4 ⟨rfl,hw4⟩
 have hw4:=hw4.symm
 subst hw4
 rw [HB.out]
 have HP2:Hid (w2.heap[P]? = some (.cells xs t (0,0))):=hid ((HO2.out.block P hPl (by omega) (by omega)).trans HP.out)
 have v2:w2.cell? ⟨P,o,none⟩=some v0:=(cell_in HP2.out o).trans hv
 have z2:=frozen_in HP2.out o
 have HP3:=hid (put_at (A:=A) (o:=o) (.int .i64 NU) HP2.out)
 have H3:Hid (As A (w2.setCell ⟨P,o,none⟩ (.int .i64 NU)) nm a2 c2 R code):=H2.out.same (Below.heap_setCell _ _ _ _ (by show A≠P;omega)) ((Below.refl A w2).setCell (by show A≤P;omega) _)
 have HO3:Hid (Oth2 A P w (w2.setCell ⟨P,o,none⟩ (.int .i64 NU))):=HO2.out.widen.trans (Oth2.setP _ _ _ _ _)
 go_wp2
 go_ret
 exact ⟨rfl,⟨_,_,H3.out⟩,HP3.out,HO3.out⟩
end Go.Proofs.YthompjbplddkgaaGreatDoor.askTake
