import Derived.Test.YthompjbplddkgaaGreatDoorRows
import Derived.WalkKit
import Derived.Below
import Derived.Deep.OwnRows
import Derived.Deep.QuietTactic
import Derived.BigQuiet
import Derived.Deep.RegionWith
import Derived.Shelf.Small.Wraps
import Derived.Shelf.Small.Strs
import Derived.Shelf.Strings.Split
import Derived.Test.YthompjbplddkgaaGreatDoorProg
namespace Go.Proofs.YthompjbplddkgaaGreatDoor
theorem Bl {n:Nat} {v w:World} (h:Go.RowKit.Below n v w:=by repeat (first|exact Go.RowKit.Below.refl _ _|assumption|refine Go.RowKit.Below.drew ?_|refine Go.RowKit.Below.alloc ?_ (by first|exact Nat.le_refl _|omega|(simp;done)|(simp;omega)) _|refine Go.RowKit.Below.setCell ?_ (by first|exact Nat.le_refl _|omega|(simp;done)|(simp;omega)) _)):Go.RowKit.Below n v w:=h
end Go.Proofs.YthompjbplddkgaaGreatDoor
namespace Go.Proofs.YthompjbplddkgaaGreatDoor.base
open Go.RowKit Go.Deep
theorem ret_bool {a b:Bool} (h:a=b):Ending.returned (.bool a)=.returned (.bool b):=by rw [h]
theorem ret_int {k:IntKind} {a b:Int} (h:a=b):Ending.returned (.int k a)=.returned (.int k b):=by rw [h]
theorem hid {p:Prop} (h:p):Hid p:=h
theorem below_drewN (w:World) (n:Nat):Below w.heap.size w (w.drewN n):=⟨rfl,rfl,rfl,Nat.le_refl _,fun _ _=>rfl⟩
theorem bcell {W w1:World} (hb:Below W.heap.size W w1):(∀ b o,b<W.heap.size→w1.cell? ⟨b,o,none⟩=W.cell? ⟨b,o,none⟩)∧(∀ b o,b<W.heap.size→w1.frozen? ⟨b,o,none⟩=W.frozen? ⟨b,o,none⟩) :=
 ⟨fun b o h=>hb.cell (p:=⟨b,o,none⟩) h,fun b o h=>hb.frozen (p:=⟨b,o,none⟩) h⟩
theorem keep {W w1:World} (hb:Below W.heap.size W w1) {b o:Nat} {v:Value} (h:W.cell? ⟨b,o,none⟩=some v):w1.cell? ⟨b,o,none⟩=some v:=by
 rw [hb.cell (p:=⟨b,o,none⟩) (World.block_lt_of_cell? _ _ h)];exact h
structure IntRow (w : World) (a : Option Addr) (len : Nat) (zs : List Int) : Prop where
 length:zs.length=len
 most:len≤maxLen
 cell:∀ i,i<len→∃ b off,a=some ⟨b,off,none⟩∧w.cell? ⟨b,off+i,none⟩=some (.int .i64 (zs[i]?.getD 0))
theorem IntRow.below {W w1:World} {a:Option Addr} {len:Nat} {zs:List Int} (h:IntRow W a len zs) (hb:Below W.heap.size W w1):IntRow w1 a len zs :=
 ⟨h.length,h.most,fun i hi=>by
  obtain ⟨b,off,e,hc⟩:=h.cell i hi
  exact ⟨b,off,e,keep hb hc⟩⟩
theorem IntRow.drewN {W:World} {a:Option Addr} {len:Nat} {zs:List Int} (h:IntRow W a len zs) (n:Nat):IntRow (W.drewN n) a len zs:=h.below (below_drewN _ _)
structure IntRows (w : World) (a : Option Addr) (len : Nat) (zss : List (List Int)) : Prop where
 length:zss.length=len
 most:len≤maxLen
 cell:∀ i,i<len→∃ b off,a=some ⟨b,off,none⟩∧∃ a' l' c',w.cell? ⟨b,off+i,none⟩=some (.slice a' l' c')∧IntRow w a' l' (zss[i]?.getD [])
theorem IntRows.below {W w1:World} {a:Option Addr} {len:Nat} {zss:List (List Int)} (h:IntRows W a len zss) (hb:Below W.heap.size W w1):IntRows w1 a len zss :=
 ⟨h.length,h.most,fun i hi=>by
  obtain ⟨b,off,e,a',l',c',hc,hr⟩:=h.cell i hi
  exact ⟨b,off,e,a',l',c',keep hb hc,hr.below hb⟩⟩
structure BoolRow (w : World) (a : Option Addr) (len : Nat) (zs : List Bool) : Prop where
 length:zs.length=len
 most:len≤maxLen
 cell:∀ i,i<len→∃ b off,a=some ⟨b,off,none⟩∧w.cell? ⟨b,off+i,none⟩=some (.bool (zs[i]?.getD false))
theorem BoolRow.below {W w1:World} {a:Option Addr} {len:Nat} {zs:List Bool} (h:BoolRow W a len zs) (hb:Below W.heap.size W w1):BoolRow w1 a len zs :=
 ⟨h.length,h.most,fun i hi=>by
  obtain ⟨b,off,e,hc⟩:=h.cell i hi
  exact ⟨b,off,e,keep hb hc⟩⟩
end Go.Proofs.YthompjbplddkgaaGreatDoor.base
/-
 DERIVED: THE SHELF's CONTRACTS AT THIS DUMP,IN PLAIN WORDS (tools/lay-plain.mjs out of 'YthompjbplddkgaaGreatDoorShelfLayR.lean',which tools/lay-shelf.mjs wrote): THE SAME DECLARATIONS UNDER THE SAME NAMES: 'import','namespace','open','def','theorem' AND NOTHING ELSE: no command of the shelf's: FOR A HAND-IN. Each laying: the table of numbers ('.._ren') and one theorem,a field a fact of the dump's own or the kernel's comparison;each contract: ONE APPLICATION.
-/
namespace Go.Proofs
open Go.Shelf
def Tryz.lays103_ren : Go.Shelf.Ren := ⟨fun|103=>93|210=>114|206=>131|n=>n,fun|9=>9|4=>4|24=>135|3=>3|n=>n,fun|n=>n⟩
theorem Tryz.lays103 : Go.Proofs.Lays.n103 Tryz.prog Tryz.lays103_ren := {
 mixed:=by kernel_rfl
 f103:=Tryz.func93.trans (congrArg some (by kernel_rfl))
 f206:=Tryz.func131.trans (congrArg some (by kernel_rfl))
 f210:=Tryz.func114.trans (congrArg some (by kernel_rfl))
 t3:=Tryz.underlying3
 a3:=Tryz.isAgg3
 z3:=Tryz.sizeOf3
 v3:=Tryz.zeroValue3
 t4:=Tryz.underlying4
 a4:=Tryz.isAgg4
 z4:=Tryz.sizeOf4
 v4:=Tryz.zeroValue4
 t9:=Tryz.underlying9
 a9:=Tryz.isAgg9
 z9:=Tryz.sizeOf9
 v9:=Tryz.zeroValue9
 t24:=Tryz.underlying135
 a24:=Tryz.isAgg135
 z24:=Tryz.sizeOf135
 v24:=Tryz.zeroValue135 }
def Tryz.lays146_ren : Go.Shelf.Ren := ⟨fun|146=>39|221=>71|268=>90|138=>91|143=>92|195=>110|197=>111|218=>112|219=>113|260=>126|217=>127|225=>128|224=>129|267=>130|266=>134|314=>135|n=>n,fun|9=>9|31=>23|3=>3|4=>4|0=>0|105=>153|21=>21|5=>5|46=>112|119=>170|139=>173|138=>172|146=>174|51=>165|n=>n,fun|1=>1|3=>2|4=>3|n=>n⟩
theorem Tryz.lays146 : Go.Proofs.Lays.n146 Tryz.prog Tryz.lays146_ren := {
 mixed:=by kernel_rfl
 f138:=Tryz.func91.trans (congrArg some (by kernel_rfl))
 f143:=Tryz.func92.trans (congrArg some (by kernel_rfl))
 f146:=Tryz.func39.trans (congrArg some (by kernel_rfl))
 f195:=Tryz.func110.trans (congrArg some (by kernel_rfl))
 f197:=Tryz.func111.trans (congrArg some (by kernel_rfl))
 f217:=Tryz.func127.trans (congrArg some (by kernel_rfl))
 f218:=Tryz.func112.trans (congrArg some (by kernel_rfl))
 f219:=Tryz.func113.trans (congrArg some (by kernel_rfl))
 f221:=Tryz.func71.trans (congrArg some (by kernel_rfl))
 f224:=Tryz.func129.trans (congrArg some (by kernel_rfl))
 f225:=Tryz.func128.trans (congrArg some (by kernel_rfl))
 f260:=Tryz.func126.trans (congrArg some (by kernel_rfl))
 f266:=Tryz.func134.trans (congrArg some (by kernel_rfl))
 f267:=Tryz.func130.trans (congrArg some (by kernel_rfl))
 f268:=Tryz.func90.trans (congrArg some (by kernel_rfl))
 f314:=Tryz.func135.trans (congrArg some (by kernel_rfl))
 t0:=Tryz.underlying0
 a0:=Tryz.isAgg0
 z0:=Tryz.sizeOf0
 v0:=Tryz.zeroValue0
 t3:=Tryz.underlying3
 a3:=Tryz.isAgg3
 z3:=Tryz.sizeOf3
 v3:=Tryz.zeroValue3
 t4:=Tryz.underlying4
 a4:=Tryz.isAgg4
 z4:=Tryz.sizeOf4
 v4:=Tryz.zeroValue4
 t5:=Tryz.underlying5
 a5:=Tryz.isAgg5
 z5:=Tryz.sizeOf5
 v5:=Tryz.zeroValue5
 t9:=Tryz.underlying9
 a9:=Tryz.isAgg9
 z9:=Tryz.sizeOf9
 v9:=Tryz.zeroValue9
 t21:=Tryz.underlying21
 a21:=Tryz.isAgg21
 z21:=Tryz.sizeOf21
 v21:=Tryz.zeroValue21
 t31:=Tryz.underlying23
 a31:=Tryz.isAgg23
 z31:=Tryz.sizeOf23
 v31:=Tryz.zeroValue23
 t46:=Tryz.underlying112
 a46:=Tryz.isAgg112
 z46:=Tryz.sizeOf112
 v46:=Tryz.zeroValue112
 t51:=Tryz.underlying165
 a51:=Tryz.isAgg165
 z51:=Tryz.sizeOf165
 v51:=Tryz.zeroValue165
 t105:=Tryz.underlying153
 a105:=Tryz.isAgg153
 z105:=Tryz.sizeOf153
 v105:=Tryz.zeroValue153
 t119:=Tryz.underlying170
 a119:=Tryz.isAgg170
 z119:=Tryz.sizeOf170
 t138:=Tryz.underlying172
 a138:=Tryz.isAgg172
 z138:=Tryz.sizeOf172
 v138:=Tryz.zeroValue172
 t139:=Tryz.underlying173
 a139:=Tryz.isAgg173
 z139:=Tryz.sizeOf173
 v139:=Tryz.zeroValue173
 t146:=Tryz.underlying174
 a146:=Tryz.isAgg174
 z146:=Tryz.sizeOf174
 v146:=Tryz.zeroValue174
 g1:=by kernel_rfl
 g3:=by kernel_rfl
 g4:=by kernel_rfl }
end Go.Proofs
