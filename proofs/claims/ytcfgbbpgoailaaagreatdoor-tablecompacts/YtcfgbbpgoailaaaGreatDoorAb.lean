import Derived.WalkKit
import Derived.Laws.CopyOwn
import Derived.Test.YtcfgbbpgoailaaaGreatDoorProg
import Derived.Deep.LoopGhost
import Derived.Deep.RegionHeld
set_option maxHeartbeats 0
set_option maxRecDepth 100000
theorem Go.RowKit.Hid.o{p:Prop}(h:Go.RowKit.Hid p):p:=h
theorem Go.Aside.o{p:Prop}(h:Go.Aside p):p:=h
theorem Go.Shut.o{p:Prop}(h:Go.Shut p):p:=h
namespace Go.Proofs.YtcfgbbpgoailaaaGreatDoor
open Go.RowKit Go.Proofs
abbrev Zi(x:Int):Value:=.int .i64 x
abbrev Zb(w W:World):Prop:=Below w.heap.size w W
abbrev Zc(f:Nat)(a:Array Value)(w:World)(Q:Ending->World->Prop):Prop:=Calls Tryz.prog f a w Q
abbrev Tb:=ByteArray
abbrev To:=Option Addr
abbrev Td:=DataW Unit
abbrev Tw:=World
abbrev Tv:=Value
abbrev Zs:=@Value.slice
abbrev Zt:=@Value.string
abbrev Zk:=@Obj.cells
abbrev Zr:=@Ending.returned
abbrev Zp:=@Value.pointer
abbrev Zo:=@Value.bool
abbrev Zg:=@Value.agg
abbrev Zu:=@Value.tuple
abbrev Zf:=@Value.iface
abbrev Zn:=@Value.nilIface
theorem Zy{a b c d:Prop}(h:a)(i:b)(j:c)(k:d):Hid (a/\b/\c/\d):=⟨h,i,j,k⟩
theorem Zal{w:World}{o:Obj}:Below w.heap.size w (w.alloc o):=(Below.refl _ _).alloc (Nat.le_refl _) _
abbrev Ya:=@Nat.lt_of_lt_of_le
abbrev Yb:=@List.getElem?_eq_none
abbrev Yc:=@Nat.lt_or_ge
abbrev Yd:=@List.take_of_length_le
abbrev Ye:=@List.mem_cons_self
abbrev Yf:=@List.take_length
abbrev Yg:=@List.mem_cons_of_mem
abbrev Yh:=@World.cell?_alloc_lt
abbrev Yi:=@List.getElem_mem
abbrev Yj:=@List.getElem?_set_self
abbrev Yk:=@List.getElem_of_mem
abbrev Yl:=@List.mem_of_mem_take
abbrev Ym:=@List.getElem?_take_of_lt
abbrev Yn:=@Nat.not_lt_zero
abbrev Yo:=@Nat.mul_le_mul_right
abbrev Yp:=@List.getElem?_set_ne
abbrev Yq:=@List.drop_eq_getElem_cons
abbrev Yr:=@List.mem_or_eq_of_mem_set
abbrev Ys:=@List.take_succ_eq_append_getElem
abbrev Yt:=@World.frozen?_alloc_old
abbrev Yu:=@Nat.eq_zero_or_pos
abbrev Yv:=@Option.some.inj
abbrev Yw:=@List.map_congr_left
abbrev Yx:=@List.pairwise_iff_getElem
abbrev Yy:=@List.take_append_of_le_length
abbrev Yz:=@List.mem_of_mem_eraseIdx
abbrev YA:=@List.eq_of_mem_replicate
abbrev YB:=@List.eq_nil_of_length_eq_zero
abbrev YC:=@List.lt_irrefl
abbrev YD:=@List.set_append_right
abbrev YE:=@List.length_singleton
abbrev YF:=@Nat.le_of_lt
abbrev YG:=@Nat.lt_irrefl
abbrev YH:=@List.eraseIdx_eq_take_drop_succ
abbrev YI:=@List.replicate_succ
abbrev YJ:=@List.getElem_set
abbrev YK:=@List.drop_eq_nil_of_le
abbrev YL:=@List.eraseIdx_sublist
abbrev YM:=@List.nodup_append
abbrev YN:=@List.take_add_one
abbrev YO:=@World.cell?_setCell_other
abbrev YP:=@List.filterMap_cons
abbrev YQ:=@Nat.lt_or_gt_of_ne
abbrev YR:=@World.ownsRow_made
abbrev YS:=@Nat.mul_le_mul
abbrev YT:=@List.take_append_drop
abbrev YU:=@Nat.mod_eq_of_lt
abbrev YV:=@List.exists_cons_of_length_pos
abbrev YW:=@Nat.min_eq_left
abbrev YX:=@Nat.two_pow_pos
abbrev YY:=@List.mem_map_of_mem
abbrev YZ:=@Nat.succ_mul
abbrev Y0:=@Nat.sub_self
abbrev Y1:=@List.take_take
abbrev Y2:=@List.map_singleton
abbrev Y3:=@List.all_eq_false
abbrev Y4:=@Nat.pow_add
abbrev Y5:=@Nat.lt_of_succ_lt
abbrev Y6:=@Nat.mul_comm
abbrev Y7:=@Int.le_trans
abbrev Y8:=@heap_alloc_new
abbrev Y9:=@if_neg
abbrev Yaa:=@if_pos
abbrev Yab:=@frozen_of_row
abbrev Yac:=@List.length_eq_zero_iff
abbrev Yad:=@And.intro
end Go.Proofs.YtcfgbbpgoailaaaGreatDoor
