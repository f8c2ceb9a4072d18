import Derived.Test.YtcfnohiboknfoaaGreatPart31
import Derived.BigRegion
import Derived.Deep.RegionWith
set_option linter.unusedVariables false
namespace Go.Proofs.YtcfnohiboknfoaaGreat.picksSeq
open Go.RowKit Go.Deep Go.Shelf Go base copy netSem intsOwn prodSem rangeAt pick
theorem RInt.below {B:Nat} {A A':World} (h:Below A.heap.size A A'):RInt B A A' := ⟨h.os,h.tape,h.output,h.size,fun q hq _=>h.block q hq⟩
theorem picks_impl (a:Option Addr) (len cap:Nat) (w:World) :
  Calls Tryz.prog 125 #[.slice a len cap] w fun e w'=>e=.returned (.func (.func 149) #[] #[.pointer (some ⟨w.heap.size,0,none⟩)])∧w' = w.alloc (.cells #[.slice a len cap] 135):=by
 go_enter Tryz.func125,Tryz.ntmps125
 go_wp2
 go_ret
 exact ⟨rfl,rfl⟩
end Go.Proofs.YtcfnohiboknfoaaGreat.picksSeq
