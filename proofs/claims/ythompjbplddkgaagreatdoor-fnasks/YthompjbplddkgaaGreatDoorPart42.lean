import Derived.Test.YthompjbplddkgaaGreatDoorPart41
import Derived.Maps.AppendAt
import Derived.OwnWalk
import Derived.WalkSpells
set_option linter.unusedVariables false
namespace Go.Proofs.YthompjbplddkgaaGreatDoor.netBytes
open Go.RowKit Go.Deep base names netSem netLines
def nm (s : Ss) (z : Int) : List UInt8 := (s z.toNat).data.toList
theorem nm_nat (s:Ss) (a:Nat):nm s (a:Int)=(s a).data.toList:=rfl
def routerL (s : Ss) (i : Nat) : List UInt8 := [114,111,117,116,101,114,32] ++ nm s i ++ [10]
def linkL (s : Ss) (g : R) (i : Nat) : List UInt8 := [108,105,110,107,32] ++ nm s (g i 0) ++ [32] ++ nm s (g i 1) ++ [32,99,111,115,116,32] ++ Lib.itoa (g i 2) ++ [10]
structure Good (l : Nat→Nat) (s : Ss) (g : R) (o e : List Int) (x f : R) : Prop where
 l0:l 0≤4
 l1:l 1≤6
 l2:l 2≤4
 l3:l 3≤2
 l4:l 4≤12
 l5:l 5≤6
 name:∀ i,i<l 0→(s i).size≤40
 link:∀ i,i<l 1→∃ a b n:Nat,a<l 0∧b<l 0∧n≤100∧g i 0=a∧g i 1=b∧g i 2=n
 orig:∀ i,i<l 2→∃ a:Nat,a<l 0∧zAt o i=a
 extn:∀ i,i<l 3→∃ a:Nat,a<l 0∧zAt e i=a
 impo:∀ i,i<l 4→∃ a b h d n:Nat,a<l 0∧b<l 0∧h≤2∧1≤d∧d≤4∧n≤1000∧x i 0=a∧x i 1=b∧x i 2=h∧x i 3=d∧x i 4=n
 filt:∀ i,i<l 5→∃ a b n m:Nat,a<l 0∧b<l 0∧n≤15∧m≤15∧f i 0=a∧f i 1=b∧f i 2=n∧f i 3=m
theorem in_nat {z:Int} {r:Nat} (h:inB z 0 ((r:Int) - 1)=true):∃ a:Nat,a<r∧z=a:=by
 have:=of_decide_eq_true h
 exact ⟨z.toNat,by omega,by omega⟩
theorem in_of {z a b:Int} (h:inB z a b=true):a≤z∧z≤b:=of_decide_eq_true h
theorem rising_in {z:List Int} {n r:Nat} (h:risingB z n r=true):∀ i,i<n→∃ a:Nat,a<r∧zAt z i=a:=fun i hi=>by
 have h1:=allN_iff.1 h i hi
 simp only [risesB,Bool.and_eq_true] at h1
 exact in_nat h1.1
theorem rising_ge {z:List Int} {n r:Nat} (h:risingB z n r=true):∀ i,i<n→(i:Int)≤zAt z i
 | 0,hi=>by
  obtain ⟨a,_,e⟩:=rising_in h 0 hi
  omega
 | i+1,hi=>by
  have h0:=rising_ge h i (by omega)
  have h1:=allN_iff.1 h (i+1) hi
  simp only [risesB,Bool.and_eq_true,Bool.or_eq_true,decide_eq_true_eq] at h1
  have h2:=h1.2
  rcases h2 with h2|h2
  · omega
  · simp only [Nat.add_sub_cancel] at h2
    omega
theorem rising_len {z:List Int} {n r:Nat} (h:risingB z n r=true):n≤r:=by
 rcases Nat.eq_zero_or_pos n with h0|h0
 · omega
 · have h1:=rising_ge h (n - 1) (by omega)
   obtain ⟨a,ha,e⟩:=rising_in h (n - 1) (by omega)
   omega
theorem link_ends {g:R} {n r:Nat} {a b:Int} (hl:∀ i,i<n→inB (g i 0) 0 ((r:Int) - 1)=true∧inB (g i 1) 0 ((r:Int) - 1)=true) (h:0≤linkAt g n a b):(∃ k:Nat,k<r∧a=k)∧(∃ k:Nat,k<r∧b=k):=by
 obtain ⟨i,hi,hp⟩:=firstAt_spec.1 h
 obtain ⟨h1,h2⟩:=hl i hi
 have hp' := of_decide_eq_true hp
 rcases hp' with ⟨rfl,rfl⟩|⟨rfl,rfl⟩
 · exact ⟨in_nat h1,in_nat h2⟩
 · exact ⟨in_nat h2,in_nat h1⟩
theorem good {l:Nat→Nat} {s:Ss} {g x f:R} {o e:List Int} (h:netB l s g o e x f=true):Good l s g o e x f:=by
 simp only [netB,Bool.and_eq_true,decide_eq_true_eq] at h
 obtain ⟨⟨⟨⟨⟨⟨h1,h2⟩,h3⟩,h4⟩,h5⟩,h6⟩,h7⟩:=h
 simp only [routersB,Bool.and_eq_true] at h1
 simp only [linksB,Bool.and_eq_true,decide_eq_true_eq] at h2
 simp only [importsB,Bool.and_eq_true,decide_eq_true_eq] at h6
 simp only [filtersB,Bool.and_eq_true,decide_eq_true_eq] at h7
 have r0:=in_of h1.1
 have hlk:∀ i,i<l 1→(inB (g i 0) 0 ((l 0:Int) - 1)=true∧inB (g i 1) 0 ((l 0:Int) - 1)=true)∧inB (g i 2) 1 100=true:=fun i hi=>by
  have:=allN_iff.1 h2.2 i hi
  simp only [linkB,Bool.and_eq_true] at this
  exact ⟨this.1.1.1,this.1.2⟩
 have k2:=rising_len h3
 have k3:=rising_len h4
 refine ⟨by omega,h2.1,by omega,h5,h6.1,h7.1,?_,?_,rising_in h3,rising_in h4,?_,?_⟩
 · intro i hi
   have:=allN_iff.1 h1.2 i hi
   simp only [routerB,Bool.and_eq_true] at this
   have h8:=this.1
   simp only [nameB,Bool.and_eq_true,decide_eq_true_eq] at h8
   exact h8.1.2
 · intro i hi
   obtain ⟨⟨ha,hb⟩,hc⟩:=hlk i hi
   obtain ⟨a,ha1,ha2⟩:=in_nat ha
   obtain ⟨b,hb1,hb2⟩:=in_nat hb
   have:=in_of hc
   exact ⟨a,b,(g i 2).toNat,ha1,hb1,by omega,ha2,hb2,by omega⟩
 · intro i hi
   have:=allN_iff.1 h6.2 i hi
   simp only [importB,deedB,Bool.and_eq_true,decide_eq_true_eq] at this
   obtain ⟨hk,⟨hw,hd⟩,hn⟩:=this
   obtain ⟨⟨a,ha1,ha2⟩,⟨b,hb1,hb2⟩⟩:=link_ends (fun i hi=>(hlk i hi).1) hk
   have q1:=in_of hw
   have q2:=in_of hd
   have q3:=in_of hn
   have q4:(if x i 3=2 then (1000:Int) else 0)≤1000:=by split <;> omega
   exact ⟨a,b,(x i 2).toNat,(x i 3).toNat,(x i 4).toNat,ha1,hb1,by omega,by omega,by omega,by omega,ha2,hb2,by omega,by omega,by omega⟩
 · intro i hi
   have:=allN_iff.1 h7.2 i hi
   simp only [filterB,portsB,Bool.and_eq_true,decide_eq_true_eq] at this
   obtain ⟨hk,hw,hn⟩:=this
   obtain ⟨⟨a,ha1,ha2⟩,⟨b,hb1,hb2⟩⟩:=link_ends (fun i hi=>(hlk i hi).1) hk
   have q3:=in_of hn
   exact ⟨a,b,(f i 2).toNat,(f i 3).toNat,ha1,hb1,by omega,by omega,ha2,hb2,by omega,by omega⟩
variable {l : Nat→Nat} {s : Ss} {g x f : R} {o e : List Int}
theorem Good.nm (h:Good l s g o e x f) {a:Nat} (ha:a<l 0):(netBytes.nm s (a:Int)).length≤40:=by
 rw [nm_nat,Array.length_toList];exact h.name a ha
theorem num_len {n:Nat} (h:n≤1000):(Lib.itoa (n:Int)).length≤1002:=itoa_len _ (by omega) (by omega)
theorem Good.router (h:Good l s g o e x f):∀ i,i<l 0→(routerL s i).length≤3000:=fun i hi=>by
 have:=h.nm hi
 simp only [routerL,List.length_append,List.length_cons,List.length_nil];omega
theorem Good.links (h:Good l s g o e x f):∀ i,i<l 1→(linkL s g i).length≤3000:=fun i hi=>by
 obtain ⟨a,b,n,ha,hb,hn,e1,e2,e3⟩:=h.link i hi
 have h1:=h.nm ha
 have h2:=h.nm hb
 have h3:=num_len (n:=n) (by omega)
 simp only [linkL,e1,e2,e3,List.length_append,List.length_cons,List.length_nil];omega
end Go.Proofs.YthompjbplddkgaaGreatDoor.netBytes
namespace Go.Proofs.YthompjbplddkgaaGreatDoor.prodB
open Go
def bAt (z : List Bool) (i : Nat) : Bool := z[i]?.getD false
open Go base netSem
end Go.Proofs.YthompjbplddkgaaGreatDoor.prodB
namespace Go.Proofs.YthompjbplddkgaaGreatDoor.sayText
open Go base netSem netLines netBytes prodB
theorem dec_few : ∀ (k u:Nat),u<10 ^ (k+1)→(Lib.decDigits u).length≤k+1
 | 0,u,h=>by rw [dec_small (by simpa using h)];simp
 | k+1,u,h=>by
  by_cases h1:u<10
  · rw [dec_small h1];simp
  · rw [dec_more h1,List.length_append]
    have:=dec_few k (u / 10) (by rw [Nat.pow_succ] at h;omega)
    simp
    omega
def numB (z : Int) : ByteArray := ⟨(Lib.itoa z).toArray⟩
theorem numB_size {z:Int} (h0:0≤z) (h1:z≤1000000000):(numB z).size≤10:=by
 show (Lib.itoa z).toArray.size≤10
 rw [List.size_toArray]
 unfold Lib.itoa
 rw [if_neg (by omega)]
 have h9:(10:Nat) ^ (9+1)=10000000000:=by decide
 exact dec_few 9 _ (by rw [h9];omega)
def J (ws : List ByteArray) : ByteArray := ⟨(Lib.join (ws.map (·.data.toList)) [32]).toArray⟩
theorem join_snoc : ∀ (ws:List (List UInt8)) (x:List UInt8),ws≠[]→Lib.join (ws ++ [x]) [32]=Lib.join ws [32] ++ (32::x)
 | [],x,h=>absurd rfl h
 | [a],x,_=>by simp [Lib.join,List.intercalate_cons_cons]
 | a::b::ws,x,_=>by
  have ih:=join_snoc (b::ws) x (by simp)
  unfold Lib.join at ih ⊢
  rw [show a::b::ws ++ [x]=a::b::(ws ++ [x]) from rfl,List.intercalate_cons_cons,List.intercalate_cons_cons,show b::(ws ++ [x])=b::ws ++ [x] from rfl,ih]
  simp
theorem J_snoc {ws:List ByteArray} (x:ByteArray) (h:ws≠[]):J (ws ++ [x])=J ws ++ (⟨#[32]⟩ ++ x):=by
 unfold J
 apply ByteArray.ext
 rw [List.map_append,show [x].map (·.data.toList)=[x.data.toList] from rfl,join_snoc _ _ (by simpa using h)]
 simp
theorem J_size {ws:List ByteArray} (hx:∀ x∈ws,x.size≤1100) (hn:ws.length≤20):(J ws).size≤22020:=by
 show (Lib.join _ [32]).toArray.size≤_
 rw [List.size_toArray]
 have h1:=join_len (ws.map (·.data.toList)) (m:=1100) (fun y hy=>by
  obtain ⟨x,hx',rfl⟩:=List.mem_map.1 hy
  have:=hx x hx'
  rw [Array.length_toList];exact this)
 rw [List.length_map] at h1
 have h2:=Nat.mul_le_mul_right 1101 hn
 omega
def viaW (s : Ss) (v : Int) : ByteArray := if v = -3 then ⟨#[45]⟩ else if v = -2 then ⟨#[115,101,108,102]⟩ else if v = -1 then ⟨#[111,117,116]⟩ else s v.toNat
def linkW (s : Ss) (g : R) (i : Nat) : ByteArray := s (g i 0).toNat ++ ⟨#[45]⟩ ++ s (g i 1).toNat
def fromW (s : Ss) (ex E : List Int) (i : Nat) : ByteArray := s (zAt ex i).toNat ++ ⟨#[61]⟩ ++ numB (zAt E i)
def overW (s : Ss) (V : List Int) (i : Nat) : ByteArray := s i ++ ⟨#[62]⟩ ++ viaW s (zAt V i)
def W1 (n pt : Int) : List ByteArray := [⟨#[118,105,111,108,97,116,101,100]⟩,numB n,⟨#[112,111,114,116]⟩,numB pt,⟨#[100,111,119,110]⟩]
def W2 (s : Ss) (g : R) (D : List Bool) (n pt : Int) : Nat→List ByteArray
 | 0=>W1 n pt
 | k+1=>W2 s g D n pt k ++ if bAt D k then [linkW s g k] else []
def W3 (s : Ss) (ex E : List Int) (ws : List ByteArray) : Nat→List ByteArray
 | 0=>ws ++ [⟨#[102,114,111,109]⟩]
 | k+1=>W3 s ex E ws k ++ [fromW s ex E k]
def W4 (s : Ss) (V : List Int) (ws : List ByteArray) : Nat→List ByteArray
 | 0=>ws ++ [⟨#[118,105,97]⟩]
 | k+1=>W4 s V ws k ++ [overW s V k]
def Few (ws : List ByteArray) (n : Nat) : Prop := ws≠[]∧ws.length≤n∧∀ x∈ws,x.size≤1100
theorem Few.mono {ws:List ByteArray} {n m:Nat} (h:Few ws n) (hm:n≤m):Few ws m:=⟨h.1,Nat.le_trans h.2.1 hm,h.2.2⟩
theorem Few.snoc {ws:List ByteArray} {n:Nat} {x:ByteArray} (h:Few ws n) (hx:x.size≤1100):Few (ws ++ [x]) (n+1):=by
 refine ⟨by simp,by rw [List.length_append];have:=h.2.1;simp;omega,fun y hy=>?_⟩
 rcases List.mem_append.1 hy with hy|hy
 · exact h.2.2 y hy
 · rw [List.mem_singleton] at hy;subst hy;exact hx
theorem Few.size {ws:List ByteArray} {n:Nat} (h:Few ws n) (hn:n≤20):(J ws).size≤22020:=J_size h.2.2 (Nat.le_trans h.2.1 hn)
theorem few1 {n pt:Int} (h0:0≤n) (h1:n≤1000000000) (h2:0≤pt) (h3:pt≤1000000000):Few (W1 n pt) 5:=by
 have e1:=numB_size h0 h1
 have e2:=numB_size h2 h3
 refine ⟨by simp [W1],by simp [W1],fun x hx=>?_⟩
 simp only [W1,List.mem_cons,List.not_mem_nil,or_false] at hx
 rcases hx with rfl|rfl|rfl|rfl|rfl
 · decide
 · omega
 · decide
 · omega
 · decide
variable {l : Nat→Nat} {s : Ss} {g x f : R} {o ex : List Int}
theorem viaW_size (G:netBytes.Good l s g o ex x f) {v:Int} (h0 : -3≤v) (h1:v<l 0):(viaW s v).size≤40:=by
 unfold viaW
 split
 · decide
 · split
   · decide
   · split
     · decide
     · exact G.name _ (by omega)
theorem linkW_size (G:netBytes.Good l s g o ex x f) {i:Nat} (h:i<l 1):(linkW s g i).size≤1100:=by
 obtain ⟨a,b,n,ha,hb,_,e1,e2,_⟩:=G.link i h
 unfold linkW
 rw [e1,e2]
 simp only [ByteArray.size_append,Int.toNat_natCast]
 have h1:=G.name a ha
 have h2:=G.name b hb
 have h3:(⟨#[45]⟩:ByteArray).size=1:=rfl
 omega
theorem fromW_size (G:netBytes.Good l s g o ex x f) {E:List Int} {i:Nat} (h:i<l 3) (hE:∀ i,0≤zAt E i∧zAt E i≤2):(fromW s ex E i).size≤1100:=by
 obtain ⟨a,ha,e1⟩:=G.extn i h
 unfold fromW
 rw [e1]
 simp only [ByteArray.size_append,Int.toNat_natCast]
 have h1:=G.name a ha
 have h2:=numB_size (hE i).1 (by have:=(hE i).2;omega)
 have h3:(⟨#[61]⟩:ByteArray).size=1:=rfl
 omega
theorem overW_size (G:netBytes.Good l s g o ex x f) {V:List Int} {i:Nat} (h:i<l 0) (hV:∀ i,-3≤zAt V i∧zAt V i<l 0):(overW s V i).size≤1100:=by
 unfold overW
 simp only [ByteArray.size_append]
 have h1:=G.name i h
 have h2:=viaW_size G (hV i).1 (hV i).2
 have h3:(⟨#[62]⟩:ByteArray).size=1:=rfl
 omega
theorem few2 (G:netBytes.Good l s g o ex x f) {n pt:Int} {D:List Bool} (h:Few (W1 n pt) 5):∀ k,k≤l 1→Few (W2 s g D n pt k) (5+k)
 | 0,_=>h
 | k+1,hk=>by
  have ih:=few2 G (D:=D) h k (by omega)
  unfold W2
  cases bAt D k with
  | false=>simpa using ih.mono (by omega)
  | true=>exact ih.snoc (linkW_size G (by omega))
theorem few3 (G:netBytes.Good l s g o ex x f) {E:List Int} {ws:List ByteArray} {m:Nat} (h:Few ws m) (hE:∀ i,0≤zAt E i∧zAt E i≤2):∀ k,k≤l 3→Few (W3 s ex E ws k) (m+1+k)
 | 0,_=>h.snoc (by decide)
 | k+1,hk=>(few3 G h hE k (by omega)).snoc (fromW_size G (by omega) hE)
theorem few4 (G:netBytes.Good l s g o ex x f) {V:List Int} {ws:List ByteArray} {m:Nat} (h:Few ws m) (hV:∀ i,-3≤zAt V i∧zAt V i<l 0):∀ k,k≤l 0→Few (W4 s V ws k) (m+1+k)
 | 0,_=>h.snoc (by decide)
 | k+1,hk=>(few4 G h hV k (by omega)).snoc (overW_size G (by omega) hV)
def sayW (l : Nat→Nat) (s : Ss) (g : R) (ex : List Int) (n : Int) (D : List Bool) (E V : List Int) (pt : Int) : List ByteArray := W4 s V (W3 s ex E (W2 s g D n pt (l 1)) (l 3)) (l 0)
theorem few_say (G:netBytes.Good l s g o ex x f) {n pt:Int} {D:List Bool} {E V:List Int} (h0:0≤n) (h1:n≤1000000000) (h2:0≤pt) (h3:pt≤1000000000) (hE:∀ i,0≤zAt E i∧zAt E i≤2) (hV:∀ i,-3≤zAt V i∧zAt V i<l 0):Few (sayW l s g ex n D E V pt) 19 :=
 (few4 G (few3 G (few2 G (few1 h0 h1 h2 h3) (l 1) (Nat.le_refl _)) hE (l 3) (Nat.le_refl _)) hV (l 0) (Nat.le_refl _)).mono (by have:=G.l0;have:=G.l1;have:=G.l3;omega)
def holdW (n : Int) : List ByteArray := [⟨#[104,111,108,100,115]⟩,numB n]
def sayB (l : Nat→Nat) (s : Ss) (g : R) (ex : List Int) (hv : Bool) (n : Int) (D : List Bool) (E V : List Int) (pt : Int) : ByteArray := J (if hv then holdW n else sayW l s g ex n D E V pt) ++ ⟨#[10]⟩
end Go.Proofs.YthompjbplddkgaaGreatDoor.sayText
namespace Go.Proofs.YthompjbplddkgaaGreatDoor.netDeed
open Go.RowKit Go.Deep Go base netSem netLines netBytes heldStore drawn
theorem info_string : (Tryz.prog.info? 9).map (fun i=>(i.zero,i.size,i.bytes))=some (some (.string ⟨#[]⟩),1,16):=by kernel_rfl
theorem cell_one (w:World) (x:Value) (t:TypeId):∀ (j:Nat) (u:Value),[x][j]? = some u→(w.alloc (.cells #[x] t)).cell? ((⟨w.heap.size,0,none⟩:Addr).add j)=some u:=by
 intro j u h
 match j,h with
 | 0,h=>cases h;simp [Addr.add,go_sem]
 | _+1,h=>simp at h
abbrev OwnS (B : Nat) (w : World) (v : Value) (xs : List ByteArray) : Prop := w.ownsRow B 9 1 v xs.length (xs.map Value.string)
theorem own_mono {B B' n:Nat} {w:World} {v:Value} {t:TypeId} {s:Nat} {xs:List Value} (h:w.ownsRow B t s v n xs) (hb:B'≤B):w.ownsRow B' t s v n xs:=by
 obtain ⟨h1,h2⟩:=h
 refine ⟨h1,?_⟩
 rcases h2 with h2|⟨g,cap,cur,e,hg,hh,hn,hm,hs,ht⟩
 · exact .inl h2
 · exact .inr ⟨g,cap,cur,e,Nat.le_trans hb hg,hh,hn,hm,hs,ht⟩
end Go.Proofs.YthompjbplddkgaaGreatDoor.netDeed
