/- Short names of laws of the library. No conditions. -/
import Derived.Test.YtjmlfacbcfbhdaaGreatDoorRows
import Derived.WalkKit
import Derived.ProofKit
import Derived.Below
namespace Go.Proofs.YtjmlfacbcfbhdaaGreatDoor
open Go.ChangeShapes Go.WideShapes Go.ChangeAt Go.RowKit
theorem pLq:type_of% (And.intro @Act.put.eq_1 (And.intro @Act.put.eq_2 (And.intro (@List.setIfInBounds_toArray Value) (And.intro (@List.set_cons_zero Value) (@List.set_cons_succ Value))))):=And.intro @Act.put.eq_1 (And.intro @Act.put.eq_2 (And.intro (@List.setIfInBounds_toArray Value) (And.intro (@List.set_cons_zero Value) (@List.set_cons_succ Value))))
theorem crw:type_of% @cell_of_row:=@cell_of_row
theorem han:type_of% @heap_alloc_new:=@heap_alloc_new
theorem fzr:type_of% @frozen_of_row:=@frozen_of_row
theorem aes:type_of% @Array.getElem?_eq_some_iff:=@Array.getElem?_eq_some_iff
theorem bpr:type_of% @bodyPost_ret:=@bodyPost_ret
theorem nlr:type_of% @Nat.le_refl:=@Nat.le_refl
theorem nzl:type_of% @Nat.zero_le:=@Nat.zero_le
theorem lla:type_of% @List.length_append:=@List.length_append
theorem nll:type_of% @Nat.lt_of_lt_of_le:=@Nat.lt_of_lt_of_le
theorem lgg:type_of% @List.getElem?_eq_getElem:=@List.getElem?_eq_getElem
theorem lgn:type_of% @List.getElem?_eq_none:=@List.getElem?_eq_none
theorem lma:type_of% @List.mem_append:=@List.mem_append
theorem bhs:type_of% @Below.heap_setCell:=@Below.heap_setCell
theorem wcb:type_of% @World.cell?_of_block:=@World.cell?_of_block
theorem bha:type_of% @Below.heap_alloc:=@Below.heap_alloc
theorem brf:type_of% @Below.refl:=@Below.refl
theorem lgd:type_of% @List.getD_eq_getElem?_getD:=@List.getD_eq_getElem?_getD
theorem dqf:type_of% @decide_eq_false:=@decide_eq_false
theorem dqt:type_of% @decide_eq_true:=@decide_eq_true
theorem agn:type_of% @Array.getElem?_eq_none:=@Array.getElem?_eq_none
theorem lan:type_of% @List.append_nil:=@List.append_nil
theorem wbl:type_of% @World.block_lt_of_cell?:=@World.block_lt_of_cell?
end Go.Proofs.YtjmlfacbcfbhdaaGreatDoor
