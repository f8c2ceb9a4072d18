import Derived.Test.YthompjbplddkgaaGreatDoorAskTake
set_option linter.unusedVariables false
namespace Go.Proofs.YthompjbplddkgaaGreatDoor.askPart
open Go.RowKit Go.Deep Go base names netSem netImpl numbers askWords askSem askTake
def tk (D : Wd) (top old : Int) : List Wd→Except Int (Int × List Wd)
 | []=>.ok (old,[])
 | [x]=>if x=D then .error 4 else .ok (old,[x])
 | x::y::r=>if x=D then (if isNum (piece y) then (if inB (numS (piece y)) 0 top then .ok (numS (piece y),r) else .error 5) else .error 4) else .ok (old,x::y::r)
theorem tk_one (D:Wd) (top old:Int) (x:Wd):tk D top old [x]=if x=D then .error 4 else .ok (old,[x]):=rfl
theorem tk_two (D:Wd) (top old:Int) (x y:Wd) (r:List Wd):tk D top old (x::y::r)=if x=D then (if isNum (piece y) then (if inB (numS (piece y)) 0 top then .ok (numS (piece y),r) else .error 5) else .error 4) else .ok (old,x::y::r):=rfl
def fin0T (a : askSem.Ask) : Except Int (Int × List Wd)→askSem.Ask
 | .error n=>bad n
 | .ok (v,R)=>fin1 { a with port:=v } R
def fin1T (a : askSem.Ask) : Except Int (Int × List Wd)→askSem.Ask
 | .error n=>bad n
 | .ok (v,R)=>fin2 { a with k:=v } R
theorem fin0_tk (a:askSem.Ask) (R:List Wd):fin0 a R=fin0T a (tk wPort 15 a.port R):=by
 rcases R with _|⟨x,_|⟨y,r⟩⟩
 · rfl
 · rw [tk_one]
   by_cases h:x=wPort
   · rw [if_pos h];rfl
   · rw [if_neg h];rfl
 · show (if x=wPort then _ else _)=_
   rw [tk_two]
   by_cases h:x=wPort
   · rw [if_pos h,if_pos h]
     by_cases h1:isNum (piece y)=true
     · rw [if_pos h1,if_pos h1]
       by_cases h2:inB (numS (piece y)) 0 15=true
       · rw [if_pos h2,if_pos h2];rfl
       · rw [if_neg h2,if_neg h2];rfl
     · rw [if_neg h1,if_neg h1];rfl
   · rw [if_neg h,if_neg h];rfl
theorem fin1_tk (a:askSem.Ask) (R:List Wd):fin1 a R=fin1T a (tk wFail 2 a.k R):=by
 rcases R with _|⟨x,_|⟨y,r⟩⟩
 · rfl
 · rw [tk_one]
   by_cases h:x=wFail
   · rw [if_pos h];rfl
   · rw [if_neg h];rfl
 · show (if x=wFail then _ else _)=_
   rw [tk_two]
   by_cases h:x=wFail
   · rw [if_pos h,if_pos h]
     by_cases h1:isNum (piece y)=true
     · rw [if_pos h1,if_pos h1]
       by_cases h2:inB (numS (piece y)) 0 2=true
       · rw [if_pos h2,if_pos h2];rfl
       · rw [if_neg h2,if_neg h2];rfl
     · rw [if_neg h1,if_neg h1];rfl
   · rw [if_neg h,if_neg h];rfl
theorem set_old {xs:Array Value} {o:Nat} {v:Value} (h:xs[o]? = some v):xs.setIfInBounds o v=xs:=by
 obtain ⟨hl,e⟩:=Array.getElem?_eq_some_iff.1 h
 rw [Array.setIfInBounds_def,dif_pos hl,← e]
 exact Array.set_getElem_self hl
def Took (A P o : Nat) (nm : Value) (code : Int) (xs : Array Value) (t : TypeId) (w : World) (e : Ending) (w' : World) : Except Int (Int × List Wd)→Prop
 | .error n=>e=.returned (.bool false)∧Bad A P n w w'
 | .ok (v,R)=>e=.returned (.bool true)∧(∃ a' c',As A w' nm a' c' R code)∧w'.heap[P]? = some (.cells (xs.setIfInBounds o (.int .i64 v)) t (0,0))∧Oth2 A P w w'
theorem part_impl (A P o:Nat) (nm:Value) (a:Option Addr) (c:Nat) (R:List Wd) (code top old:Int) (D:ByteArray) (DW:Wd) (xs:Array Value) (t:TypeId) (w:World) (hD:D.toList=DW) (hP:w.heap[P]? = some (.cells xs t (0,0))) (hv:xs[o]? = some (.int .i64 old)) (hAP:A<P) (h:As A w nm a c R code) :
  Calls Tryz.prog 43 #[.pointer (some ⟨A,0,none⟩),.string D,.int .i64 top,.pointer (some ⟨P,o,none⟩)] w fun e w'=>Took A P o nm code xs t w e w' (tk DW top old R):=by
 have hPl:=(Array.getElem?_eq_some_iff.1 hP).1
 have hlt:=h.lt
 have stay:∀ w',Below w.heap.size w w'→(∃ a' c',As A w' nm a' c' R code)∧w'.heap[P]? = some (.cells (xs.setIfInBounds o (.int .i64 old)) t (0,0))∧Oth2 A P w w' := fun w' hb =>
  ⟨⟨_,_,h.same (hb.block A hlt) (hb.mono (by omega))⟩,by rw [set_old hv,hb.block P hPl];exact hP,Oth2.of_below hb⟩
 rcases R with _|⟨x,_|⟨y,r⟩⟩
 · refine (part_none A P o nm a c code top D w h).mono ?_
   rintro e w' ⟨rfl,hb⟩
   exact ⟨rfl,stay w' hb⟩
 · by_cases hx:x=DW
   · have e1:tk DW top old [x]=.error 4:=by rw [tk_one];exact if_pos hx
     rw [e1]
     exact part_one A P o nm a c x code top D w (by rw [hD,piece_ne];exact decide_eq_true hx) h
   · have e1:tk DW top old [x]=.ok (old,[x]):=by rw [tk_one];exact if_neg hx
     rw [e1]
     refine (part_other A P o nm a c x [] code top D w (by rw [hD,piece_ne];exact decide_eq_false hx) h).mono ?_
     rintro e w' ⟨rfl,hb⟩
     exact ⟨rfl,stay w' hb⟩
 · by_cases hx:x=DW
   · have hq:((piece x).toList == D.toList)=true:=by rw [hD,piece_ne];exact decide_eq_true hx
     cases hn:isNum (piece y) with
     | false =>
      have e1:tk DW top old (x::y::r)=.error 4:=by rw [tk_two];rw [if_pos hx,hn];rfl
      rw [e1]
      exact part_word A P o nm a c x y r code top D w hq hn h
     | true =>
      cases hb:inB (numS (piece y)) 0 top with
      | false =>
       have e1:tk DW top old (x::y::r)=.error 5:=by rw [tk_two];rw [if_pos hx,hn,hb];rfl
       rw [e1]
       exact part_out A P o nm a c x y r code top D w hq hn hb h
      | true =>
       have e1:tk DW top old (x::y::r)=.ok (numS (piece y),r):=by rw [tk_two];rw [if_pos hx,hn,hb];rfl
       rw [e1]
       exact part_good A P o nm a c x y r code top D xs t _ w hq hn hb hP hv hAP h
   · have e1:tk DW top old (x::y::r)=.ok (old,x::y::r):=by rw [tk_two];exact if_neg hx
     rw [e1]
     refine (part_other A P o nm a c x (y::r) code top D w (by rw [hD,piece_ne];exact decide_eq_false hx) h).mono ?_
     rintro e w' ⟨rfl,hb⟩
     exact ⟨rfl,stay w' hb⟩
end Go.Proofs.YthompjbplddkgaaGreatDoor.askPart
