import Derived.WalkKit
import Derived.Laws.CopyOwn
import Derived.Maps.Own
import Derived.Test.YthpcepcghakimaaGreatDoorProg
import Derived.Deep.LoopGhost
import Derived.Deep.RegionHeld
set_option maxHeartbeats 40000000
set_option maxRecDepth 100000
theorem Go.RowKit.Hid.o{p:Prop}(h:Go.RowKit.Hid p):p:=h
theorem Go.Aside.o{p:Prop}(h:Go.Aside p):p:=h
theorem Go.Shut.o{p:Prop}(h:Go.Shut p):p:=h
namespace Go.Proofs.YthpcepcghakimaaGreatDoor
open Go.RowKit Go.Proofs
abbrev Zd(b o:Nat):Addr:=⟨b,o,none⟩
abbrev Zi(x:Int):Value:=.int .i64 x
abbrev Zb(w W:World):Prop:=Below w.heap.size w W
abbrev Zc(f:Nat)(a:Array Value)(w:World)(Q:Ending->World->Prop):Prop:=Calls Tryz.prog f a w Q
abbrev Tb:=ByteArray
abbrev To:=Option Addr
abbrev Td:=DataW Unit
abbrev Tw:=World
abbrev Tv:=Value
abbrev Zs:=@Value.slice
abbrev Zt:=@Value.string
abbrev Zk:=@Obj.cells
abbrev Zr:=@Ending.returned
abbrev Zp:=@Value.pointer
abbrev Zo:=@Value.bool
abbrev Zg:=@Value.agg
abbrev Zu:=@Value.tuple
abbrev Zf:=@Value.iface
abbrev Zn:=@Value.nilIface
theorem Zy{a b c d:Prop}(h:a)(i:b)(j:c)(k:d):Hid (a/\b/\c/\d):=⟨h,i,j,k⟩
theorem Zal{w:World}{o:Obj}:Below w.heap.size w (w.alloc o):=(Below.refl _ _).alloc (Nat.le_refl _) _
abbrev Ya:=@Nat.lt_of_lt_of_le
abbrev Yb:=@List.getElem?_eq_none
abbrev Yc:=@Nat.lt_or_ge
abbrev Yd:=@List.take_of_length_le
abbrev Ye:=@List.take_length
abbrev Yf:=@List.mem_cons_of_mem
abbrev Yg:=@List.getElem_mem
abbrev Yh:=@List.getElem?_take_of_lt
abbrev Yi:=@List.getElem?_set_self
abbrev Yj:=@List.getElem_of_mem
abbrev Yk:=@List.mem_of_mem_take
abbrev Yl:=@World.cell?_alloc_lt
abbrev Ym:=@List.drop_eq_getElem_cons
abbrev Yn:=@Nat.mul_le_mul_right
abbrev Yo:=@List.getElem?_set_ne
abbrev Yp:=@Nat.not_lt_zero
abbrev Yq:=@Option.some.inj
abbrev Yr:=@List.take_succ_eq_append_getElem
abbrev Ys:=@List.mem_or_eq_of_mem_set
abbrev Yt:=@Nat.eq_zero_or_pos
abbrev Yu:=@List.length_filter_le
abbrev Yv:=@List.pairwise_iff_getElem
abbrev Yw:=@List.map_congr_left
abbrev Yx:=@List.take_append_of_le_length
abbrev Yy:=@List.eq_of_mem_replicate
abbrev Yz:=@List.eq_nil_of_length_eq_zero
abbrev YA:=@List.lt_irrefl
abbrev YB:=@List.filter_cons_of_neg
abbrev YC:=@List.set_append_right
abbrev YD:=@List.length_singleton
abbrev YE:=@List.take_add_one
abbrev YF:=@List.mem_of_mem_eraseIdx
abbrev YG:=@List.eraseIdx_eq_take_drop_succ
abbrev YH:=@List.replicate_succ
abbrev YI:=@List.getElem_set
abbrev YJ:=@World.frozen?_alloc_old
abbrev YK:=@List.drop_eq_nil_of_le
abbrev YL:=@List.eraseIdx_sublist
abbrev YM:=@List.take_append_drop
abbrev YN:=@List.nodup_append
abbrev YO:=@World.cell?_setCell_other
abbrev YP:=@List.filterMap_cons
abbrev YQ:=@Nat.lt_or_gt_of_ne
abbrev YR:=@World.ownsRow_made
abbrev YS:=@Nat.mul_le_mul
abbrev YT:=@Nat.le_of_lt
abbrev YU:=@Nat.sub_self
abbrev YV:=@List.foldl_append
abbrev YW:=@List.length_mergeSort
abbrev YX:=@Nat.mod_eq_of_lt
abbrev YY:=@List.exists_cons_of_length_pos
abbrev YZ:=@Nat.lt_irrefl
abbrev Y0:=@World.cell?_of_block
abbrev Y1:=@Nat.min_eq_left
abbrev Y2:=@Bool.eq_iff_iff
abbrev Y3:=@Nat.two_pow_pos
abbrev Y4:=@List.mem_map_of_mem
abbrev Y5:=@Nat.succ_mul
abbrev Y6:=@List.take_take
abbrev Y7:=@World.ownsMap_made
abbrev Y8:=@List.map_singleton
abbrev Y9:=@Nat.pow_add
abbrev Yaa:=@Nat.lt_of_succ_lt
abbrev Yab:=@Nat.mul_comm
abbrev Yac:=@Int.le_trans
abbrev Yad:=@heap_alloc_new
abbrev A1:=@if_neg
abbrev A2:=@if_pos
abbrev Yag:=@frozen_of_row
abbrev Yah:=@List.length_eq_zero_iff
end Go.Proofs.YthpcepcghakimaaGreatDoor
