import Derived.Test.YthompjbplddkgaaGreatDoorAskDraw
import Derived.Deep.RegionHeld3
import Derived.Shelf.Strings.Builder1
import Derived.Shelf.Strings.OnBuilder
import Derived.Shelf.LaysM
import Derived.Shelf.Strconv.Itoa3
import Derived.Lib.LaidTab
import Derived.Lib.ItoaNum
set_option linter.unusedVariables false
namespace Go.Proofs.YthompjbplddkgaaGreatDoor.askOf
open Go.RowKit Go.Deep Go base copy netSem netSpec source intsOwn askDraw drawnLin
set_option maxHeartbeats 1600000 in
set_option maxRecDepth 8000 in
theorem askOf_spec (a:Option Addr) (len cap bb off:Nat) (p:Nat→Option Addr) (l c:Nat→Nat) (w:World) (h:Bytes w a len) (hlen:len≤1048576) (hp:p 0=some ⟨bb,off,none⟩) (hr:∀ i,i<l 0→∃ x:ByteArray,w.cell? ⟨bb,off+i,none⟩=some (.string x)∧x.size≤40) (h1:1≤l 0) (h4:l 0≤200) :
  Calls Tryz.prog 5 #[.slice a len cap,netV p l c] w fun e' w'=>(∃ t:ByteArray,e' = .returned (.string t)∧t.size≤6000)∧Below w.heap.size w w' := by
 have HS:Hid (∀ W:World,Below w.heap.size w W→Calls Tryz.prog 12 #[.slice a len cap] W fun e w'=>∃ b,e=.returned (.pointer (some ⟨b,0,none⟩))∧b=W.heap.size∧b<w'.heap.size∧Src w' b a len cap 0∧Below W.heap.size W w'):=hid (fun W hb=>source_spec a len cap W (fun i hi=>by obtain ⟨bb,off,e,x,hx,hc⟩:=h i hi;exact ⟨bb,off,e,x,hx,keep hb hc⟩) hlen)
 have HE:Hid (∀ (W:World) (b:Nat),Src W b a len cap 0→b<W.heap.size→w.heap.size≤b→Below w.heap.size w W→Calls Tryz.prog 14 #[.pointer (some ⟨b,0,none⟩),netV p l c] W fun e' w'=>(∃ t:ByteArray,e' = .returned (.string t)∧t.size≤6000)∧W.grownBy w' (some b)):=hid (fun W b hs hb hwb hB=>by
  obtain ⟨x,hx,_⟩:=hr 0 (by omega)
  have hlt:=World.block_lt_of_cell? _ _ hx
  simp only at hlt
  exact ask_src b a len cap bb off p l c W hs hb (by omega) hp (fun i hi=>by obtain ⟨x,hx,hz⟩:=hr i hi;exact ⟨x,keep hB hx,hz⟩) h1 h4)
 clear h hr hp
 obtain ⟨W1,hW1⟩:∃ W1,(w.alloc (.cells #[.slice (p 0) (l 0) (c 0),.slice (p 1) (l 1) (c 1),.slice (p 2) (l 2) (c 2),.slice (p 3) (l 3) (c 3),.slice (p 4) (l 4) (c 4),.slice (p 5) (l 5) (c 5)] 29))=W1:=⟨_,rfl⟩
 have HBx:Hid (Below w.heap.size w W1):=hid (by rw [← hW1];exact Bl)
 have HSz:Hid (W1.heap.size=w.heap.size+1):=hid (by rw [← hW1];simp)
 have HKc:Hid (∀ w8:World,w8.heap[w.heap.size]? = W1.heap[w.heap.size]?→(w8.cell? ⟨w.heap.size,0,none⟩=some (.slice (p 0) (l 0) (c 0))∧w8.cell? ⟨w.heap.size,1,none⟩=some (.slice (p 1) (l 1) (c 1))∧w8.cell? ⟨w.heap.size,2,none⟩=some (.slice (p 2) (l 2) (c 2))∧w8.cell? ⟨w.heap.size,3,none⟩=some (.slice (p 3) (l 3) (c 3))∧w8.cell? ⟨w.heap.size,4,none⟩=some (.slice (p 4) (l 4) (c 4))∧w8.cell? ⟨w.heap.size,5,none⟩=some (.slice (p 5) (l 5) (c 5)))):=hid (fun w8 hb=>by
  have h:∀ o,w8.cell? ⟨w.heap.size,o,none⟩=W1.cell? ⟨w.heap.size,o,none⟩:=fun o=>World.cell?_of_block hb
  rw [h,h,h,h,h,h,← hW1]
  exact ⟨by simp [go_sem],by simp [go_sem],by simp [go_sem],by simp [go_sem],by simp [go_sem],by simp [go_sem]⟩)
 have HW1:=hid hW1
 clear hW1
 unfold netV at HE ⊢
 go_enter Tryz.func5,Tryz.ntmps5
 go_wp2_with fail
 rw [HW1.out]
 obtain ⟨q0,q1,q2,q3,q4,q5⟩:=HKc.out W1 rfl
 go_region_with (first
   | (go_at_call 12;refine (HS.out _ HBx.out.drew).mono ?_;rintro e' w2 ⟨b,rfl,hbe,hbl,hsrc,hb1⟩;have HBe:=hid hbe;clear hbe;have hk1:w2.heap[w.heap.size]? = W1.heap[w.heap.size]?:=hb1.block _ (by have:=HSz.out;show _<W1.heap.size;omega);obtain ⟨x0,x1,x2,x3,x4,x5⟩:=HKc.out w2 hk1)
   | (go_at_call 14;refine (HE.out _ b hsrc hbl (by have:=HBe.out;have:=HSz.out;have e9:W1.drew.heap.size=W1.heap.size:=rfl;omega) (HBx.out.drew.trans (hb1.mono (by have:=HSz.out;have e9:W1.drew.heap.size=W1.heap.size:=rfl;omega)))).mono ?_;rintro e' w3 ⟨⟨t,rfl,ht⟩,hg⟩))
 all_goals
  have hb1':Below W1.heap.size W1 w2:=((Below.refl _ W1).drew).trans hb1
  have hB1:Below w.heap.size w w2:=HBx.out.trans (hb1'.mono HBx.out.size)
  have HT:=hid ht
  have HB2:Hid (Below w.heap.size w w3):=hid (hB1.grown hg hB1.size (fun k hk=>by injection hk with hk;have:=HBe.out;have:=HSz.out;have e9:W1.drew.heap.size=W1.heap.size:=rfl;omega))
  clear ht hg hb1 hb1' hsrc hk1 hB1
  go_wp2
  go_ret
  exact ⟨⟨t,rfl,HT.out⟩,HB2.out⟩
end Go.Proofs.YthompjbplddkgaaGreatDoor.askOf
/-
 DERIVED: THE SHELF's CONTRACTS AT THIS DUMP,IN PLAIN WORDS (tools/lay-plain.mjs out of 'YthompjbplddkgaaGreatDoorShelfLayN.lean',which tools/lay-shelf.mjs wrote): THE SAME DECLARATIONS UNDER THE SAME NAMES: 'import','namespace','open','def','theorem' AND NOTHING ELSE: no command of the shelf's: FOR A HAND-IN. Each laying: the table of numbers ('.._ren') and one theorem,a field a fact of the dump's own or the kernel's comparison;each contract: ONE APPLICATION.
-/
namespace Go.Proofs
open Go.Shelf
def Tryz.laysM171_ren : Go.Shelf.Ren := ⟨fun|171=>24|243=>54|246=>86|283=>104|284=>105|285=>106|286=>107|129=>122|317=>121|318=>123|319=>124|320=>125|337=>132|338=>133|n=>n,fun|3=>3|9=>9|2=>2|4=>4|171=>144|0=>0|53=>145|37=>22|5=>5|173=>148|212=>164|51=>165|20=>20|213=>166|46=>112|232=>176|233=>177|n=>n,fun|17=>0|18=>4|19=>5|n=>n⟩
theorem Tryz.laysM171 : Go.Proofs.LaysM.n171 Tryz.prog Tryz.laysM171_ren := {
 mixed:=by kernel_rfl
 f129:=Tryz.func122.trans (congrArg some (by kernel_rfl))
 f171:=Tryz.func24.trans (congrArg some (by kernel_rfl))
 f243:=Tryz.func54.trans (congrArg some (by kernel_rfl))
 f246:=Tryz.func86.trans (congrArg some (by kernel_rfl))
 f283:=Tryz.func104.trans (congrArg some (by kernel_rfl))
 f284:=Tryz.func105.trans (congrArg some (by kernel_rfl))
 f285:=Tryz.func106.trans (congrArg some (by kernel_rfl))
 f286:=Tryz.func107.trans (congrArg some (by kernel_rfl))
 f317:=Tryz.func121.trans (congrArg some (by kernel_rfl))
 f318:=Tryz.func123.trans (congrArg some (by kernel_rfl))
 f319:=Tryz.func124.trans (congrArg some (by kernel_rfl))
 f320:=Tryz.func125.trans (congrArg some (by kernel_rfl))
 f337:=Tryz.func132.trans (congrArg some (by kernel_rfl))
 f338:=Tryz.func133.trans (congrArg some (by kernel_rfl))
 t0:=Tryz.underlying0
 a0:=Tryz.isAgg0
 z0:=Tryz.sizeOf0
 v0:=Tryz.zeroValue0
 t2:=Tryz.underlying2
 a2:=Tryz.isAgg2
 z2:=Tryz.sizeOf2
 v2:=Tryz.zeroValue2
 t3:=Tryz.underlying3
 a3:=Tryz.isAgg3
 z3:=Tryz.sizeOf3
 v3:=Tryz.zeroValue3
 t4:=Tryz.underlying4
 a4:=Tryz.isAgg4
 z4:=Tryz.sizeOf4
 v4:=Tryz.zeroValue4
 t5:=Tryz.underlying5
 a5:=Tryz.isAgg5
 z5:=Tryz.sizeOf5
 v5:=Tryz.zeroValue5
 t9:=Tryz.underlying9
 a9:=Tryz.isAgg9
 z9:=Tryz.sizeOf9
 v9:=Tryz.zeroValue9
 t20:=Tryz.underlying20
 a20:=Tryz.isAgg20
 z20:=Tryz.sizeOf20
 v20:=Tryz.zeroValue20
 t37:=Tryz.underlying22
 a37:=Tryz.isAgg22
 z37:=Tryz.sizeOf22
 v37:=Tryz.zeroValue22
 t46:=Tryz.underlying112
 a46:=Tryz.isAgg112
 z46:=Tryz.sizeOf112
 v46:=Tryz.zeroValue112
 t51:=Tryz.underlying165
 a51:=Tryz.isAgg165
 z51:=Tryz.sizeOf165
 v51:=Tryz.zeroValue165
 t53:=Tryz.underlying145
 a53:=Tryz.isAgg145
 z53:=Tryz.sizeOf145
 v53:=Tryz.zeroValue145
 t171:=Tryz.underlying144
 a171:=Tryz.isAgg144
 z171:=Tryz.sizeOf144
 v171:=Tryz.zeroValue144
 t173:=Tryz.underlying148
 a173:=Tryz.isAgg148
 z173:=Tryz.sizeOf148
 v173:=Tryz.zeroValue148
 t212:=Tryz.underlying164
 a212:=Tryz.isAgg164
 z212:=Tryz.sizeOf164
 v212:=Tryz.zeroValue164
 t213:=Tryz.underlying166
 a213:=Tryz.isAgg166
 z213:=Tryz.sizeOf166
 t232:=Tryz.underlying176
 a232:=Tryz.isAgg176
 z232:=Tryz.sizeOf176
 v232:=Tryz.zeroValue176
 t233:=Tryz.underlying177
 a233:=Tryz.isAgg177
 z233:=Tryz.sizeOf177
 v233:=Tryz.zeroValue177
 g17:=by kernel_rfl
 g18:=by kernel_rfl
 g19:=by kernel_rfl
 i0:=by kernel_rfl
 i2:=by kernel_rfl
 i3:=by kernel_rfl
 i4:=by kernel_rfl
 i5:=by kernel_rfl
 i9:=by kernel_rfl
 i20:=by kernel_rfl
 i37:=by kernel_rfl
 i46:=by kernel_rfl
 i51:=by kernel_rfl
 i53:=by kernel_rfl
 i171:=by kernel_rfl
 i173:=by kernel_rfl
 i212:=by kernel_rfl
 i232:=by kernel_rfl
 i233:=by kernel_rfl
 m17:=by kernel_rfl
 m18:=by kernel_rfl
 m19:=by kernel_rfl }
def Tryz.lays156_ren : Go.Shelf.Ren := ⟨fun|156=>53|165=>83|166=>84|169=>85|240=>102|241=>103|276=>119|277=>120|n=>n,fun|31=>23|9=>9|3=>3|4=>4|0=>0|20=>20|72=>125|76=>129|70=>123|37=>22|75=>128|127=>143|164=>160|5=>5|80=>110|n=>n,fun|n=>n⟩
theorem Tryz.lays156 : Go.Proofs.Lays.n156 Tryz.prog Tryz.lays156_ren := {
 mixed:=by kernel_rfl
 f156:=Tryz.func53.trans (congrArg some (by kernel_rfl))
 f165:=Tryz.func83.trans (congrArg some (by kernel_rfl))
 f166:=Tryz.func84.trans (congrArg some (by kernel_rfl))
 f169:=Tryz.func85.trans (congrArg some (by kernel_rfl))
 f240:=Tryz.func102.trans (congrArg some (by kernel_rfl))
 f241:=Tryz.func103.trans (congrArg some (by kernel_rfl))
 f276:=Tryz.func119.trans (congrArg some (by kernel_rfl))
 f277:=Tryz.func120.trans (congrArg some (by kernel_rfl))
 t0:=Tryz.underlying0
 a0:=Tryz.isAgg0
 z0:=Tryz.sizeOf0
 v0:=Tryz.zeroValue0
 t3:=Tryz.underlying3
 a3:=Tryz.isAgg3
 z3:=Tryz.sizeOf3
 v3:=Tryz.zeroValue3
 t4:=Tryz.underlying4
 a4:=Tryz.isAgg4
 z4:=Tryz.sizeOf4
 v4:=Tryz.zeroValue4
 t9:=Tryz.underlying9
 a9:=Tryz.isAgg9
 z9:=Tryz.sizeOf9
 v9:=Tryz.zeroValue9
 t20:=Tryz.underlying20
 a20:=Tryz.isAgg20
 z20:=Tryz.sizeOf20
 v20:=Tryz.zeroValue20
 t31:=Tryz.underlying23
 a31:=Tryz.isAgg23
 z31:=Tryz.sizeOf23
 v31:=Tryz.zeroValue23
 t37:=Tryz.underlying22
 a37:=Tryz.isAgg22
 z37:=Tryz.sizeOf22
 v37:=Tryz.zeroValue22
 t70:=Tryz.underlying123
 a70:=Tryz.isAgg123
 z70:=Tryz.sizeOf123
 v70:=Tryz.zeroValue123
 t72:=Tryz.underlying125
 a72:=Tryz.isAgg125
 z72:=Tryz.sizeOf125
 v72:=Tryz.zeroValue125
 t75:=Tryz.underlying128
 a75:=Tryz.isAgg128
 z75:=Tryz.sizeOf128
 v75:=Tryz.zeroValue128
 t76:=Tryz.underlying129
 a76:=Tryz.isAgg129
 z76:=Tryz.sizeOf129
 v76:=Tryz.zeroValue129
 t127:=Tryz.underlying143
 a127:=Tryz.isAgg143
 z127:=Tryz.sizeOf143
 v127:=Tryz.zeroValue143
 t164:=Tryz.underlying160
 a164:=Tryz.isAgg160
 z164:=Tryz.sizeOf160
 v164:=Tryz.zeroValue160 }
theorem Tryz.Builder_Extra_156 : Builder.Extra Tryz.prog Tryz.lays156_ren := {
 sizeBuilder:=by kernel_rfl
 liesBuilder:=by kernel_rfl
 t5:=Tryz.underlying5
 a5:=Tryz.isAgg5
 z5:=Tryz.sizeOf5
 v5:=Tryz.zeroValue5
 infoByte:=by kernel_rfl
 cellsByte:=by kernel_rfl
 sizeByte:=by kernel_rfl
 neB5:=by decide }
end Go.Proofs
namespace Go.Proofs
open Go.Shelf
end Go.Proofs
namespace Go.Proofs.YthompjbplddkgaaGreatDoor.netLines
open Go.RowKit Go.Deep Go.Sort base
theorem dec_small {u:Nat} (h:u<10):Lib.decDigits u=[UInt8.ofNat (48+u)]:=by rw [Lib.decDigits,dif_pos h]
theorem dec_more {u:Nat} (h:¬ u<10):Lib.decDigits u=Lib.decDigits (u / 10) ++ [UInt8.ofNat (48+u % 10)]:=by rw [Lib.decDigits,dif_neg h]
theorem dec_len : ∀ u : Nat,(Lib.decDigits u).length≤u+1:=by
 intro u
 induction u using Nat.strongRecOn with
 | _ u ih =>
  by_cases h:u<10
  · rw [dec_small h]
    simp
  · rw [dec_more h,List.length_append]
    have:=ih (u / 10) (by omega)
    simp
    omega
def TabW (w : World) : Prop := Lib.TabIs Tryz.prog w "internal/strconv.uint64pow10" .u64 Lib.pow10Tab
theorem TabW.below {w w1:World} (h:TabW w) (hb:Below w.heap.size w w1):TabW w1:=by
 unfold TabW Lib.TabIs at *
 unfold World.var? at *
 cases hg : Tryz.prog.globalNamed "internal/strconv.uint64pow10" with
 | none =>
  rw [hg] at h
  cases h
 | some g =>
  rw [hg] at h
  simp only [Option.bind_some] at h ⊢
  have hlt:g<w.heap.size:=by
   rcases Nat.lt_or_ge g w.heap.size with h'|h'
   · exact h'
   · rw [Array.getElem?_eq_none h'] at h
     cases h
  rw [hb.block g hlt]
  exact h
theorem below_grow (w:World) (k:Nat) (os:Array Obj):Below w.heap.size w (grow (w.drewN k) os) :=
 ⟨rfl,rfl,rfl,by simp [grow],fun j hj=>by
  show (w.heap ++ os)[j]? = _
  rw [Array.getElem?_append,if_pos hj]⟩
theorem own_pass {B n:Nat} {w w1:World} {v:Value} {t:TypeId} {s:Nat} {xs:List Value} (h:w.ownsRow B t s v n xs) (hb:Below w.heap.size w w1):w1.ownsRow B t s v n xs:=by
 obtain ⟨h1,h2⟩:=h
 refine ⟨h1,?_⟩
 rcases h2 with h2|⟨g,cap,cur,e,hg,hh,hn,hm,hs,ht⟩
 · exact .inl h2
 · exact .inr ⟨g,cap,cur,e,hg,by rw [hb.block g (Array.getElem?_eq_some_iff.1 hh).1];exact hh,hn,hm,hs,ht⟩
theorem itoa_len (z:Int) (h0 : -1000≤z) (h1:z≤1000):(Lib.itoa z).length≤1002:=by
 unfold Lib.itoa
 split
 · have:=dec_len z.natAbs
   simp
   omega
 · have:=dec_len z.toNat
   omega
theorem itoa_impl (z:Int) (w:World) (h0 : -1000000000≤z) (h1:z≤1000000000) (ht:TabW w) :
  Calls Tryz.prog 24 #[.int .i64 z] w fun e w'=>e=.returned (.string ⟨(Lib.itoa z).toArray⟩)∧Below w.heap.size w w' := by
 have h:=Any.strconv_Itoa Tryz.laysM171 z (by omega) (by omega) w ht
 change Calls Tryz.prog 24 _ _ _ at h
 refine h.mono ?_
 rintro e w' ⟨rfl,k,os,rfl⟩
 exact ⟨rfl,below_grow w k os⟩
theorem join_len (ws:List (List UInt8)) {m:Nat} (h:∀ x∈ws,x.length≤m):(Lib.join ws [32]).length≤ws.length*(m+1):=by
 unfold Lib.join
 induction ws with
 | nil=>simp
 | cons x xs ih =>
  cases xs with
  | nil =>
   have:=h x (by simp)
   simp
   omega
  | cons y ys =>
   have h1:=ih (fun z hz=>h z (by simp [hz]))
   have h2:=h x (by simp)
   rw [List.intercalate_cons_cons,List.length_append,List.length_append]
   have e:(x::y::ys).length*(m+1)=(y::ys).length*(m+1)+(m+1):=by rw [List.length_cons (a:=x),Nat.succ_mul]
   have e1:[(32:UInt8)].length=1:=rfl
   rw [e,e1]
   omega
set_option maxHeartbeats 400000 in
theorem lineOf_impl (bk o c:Nat) (xs:List ByteArray) (w:World) (hcells:∀ (j:Nat) x,xs[j]? = some x→w.cell? ⟨bk,o+j,none⟩=some (.string x)) (hbk:bk<w.heap.size) (hcap:xs.length≤c) (hn:xs.length≤20) (hx:∀ x∈xs,x.size≤1100) :
  Calls Tryz.prog 23 #[.slice (some ⟨bk,o,none⟩) xs.length c] w fun e w'=>e=.returned (.string ((⟨(Lib.join (xs.map (·.data.toList)) [32]).toArray⟩:ByteArray) ++ ⟨#[10]⟩))∧Below w.heap.size w w' := by
 have hl:(Lib.join (xs.map (·.data.toList)) [32]).length≤22020:=by
  have h1:=join_len (xs.map (·.data.toList)) (m:=1100) (fun y hy=>by
   obtain ⟨x,hx',rfl⟩:=List.mem_map.1 hy
   have:=hx x hx'
   rw [Array.length_toList];exact this)
  rw [List.length_map] at h1
  have h2:=Nat.mul_le_mul_right 1101 hn
  omega
 have HJ:Hid (∀ w':World,Below w.heap.size w w'→Calls Tryz.prog 53 #[.slice (some ⟨bk,o,none⟩) xs.length c,.string ⟨#[32]⟩] w' fun e w''=>e=.returned (.string ⟨(Lib.join (xs.map (·.data.toList)) [32]).toArray⟩)∧Below w'.heap.size w' w''):=fun w' hb=>by
  have hc:=Any.strings_Join Tryz.lays156 Tryz.Builder_Extra_156 bk o c xs ⟨#[32]⟩ w' (fun j x hj=>keep hb (hcells j x hj)) (Nat.lt_of_lt_of_le hbk hb.size) (by omega) hcap (by show (Lib.join _ [32]).length≤_;omega)
  change Calls Tryz.prog 53 _ _ _ at hc
  exact hc
 obtain ⟨t,ht⟩:∃ t,Lib.join (xs.map (·.data.toList)) [32]=t:=⟨_,rfl⟩
 rw [ht] at HJ hl ⊢
 generalize xs.length=n at *
 clear hcells ht hx
 have hls:¬ (9223372036854775807<t.length+1):=by omega
 go_enter Tryz.func23,Tryz.ntmps23
 go_wp2_with fail
 refine (HJ.out _ (Below.refl _ _)).mono ?_
 rintro e w1 ⟨rfl,hb1⟩
 have HB1:=hid hb1
 clear hb1
 go_wp2
 go_ret
 exact ⟨rfl,HB1.out⟩
end Go.Proofs.YthompjbplddkgaaGreatDoor.netLines
