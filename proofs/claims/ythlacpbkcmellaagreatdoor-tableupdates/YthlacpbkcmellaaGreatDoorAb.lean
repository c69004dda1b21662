import Derived.WalkKit
import Derived.Laws.CopyOwn
import Derived.Test.YthlacpbkcmellaaGreatDoorProg
import Derived.Deep.LoopGhost
import Derived.Deep.RegionHeld
set_option maxHeartbeats 40000000
set_option maxRecDepth 100000
theorem Go.RowKit.Hid.o{p:Prop}(h:Go.RowKit.Hid p):p:=h
theorem Go.Aside.o{p:Prop}(h:Go.Aside p):p:=h
theorem Go.Shut.o{p:Prop}(h:Go.Shut p):p:=h
namespace Go.Proofs.YthlacpbkcmellaaGreatDoor
open Go.RowKit Go.Proofs
abbrev Zd(b o:Nat):Addr:=⟨b,o,none⟩
abbrev Zi(x:Int):Value:=.int .i64 x
abbrev Zb(w W:World):Prop:=Below w.heap.size w W
abbrev Zc(f:Nat)(a:Array Value)(w:World)(Q:Ending->World->Prop):Prop:=Calls Tryz.prog f a w Q
abbrev Tb:=ByteArray
abbrev To:=Option Addr
abbrev Td:=DataW Unit
abbrev Tw:=World
abbrev Tv:=Value
abbrev Zs:=@Value.slice
abbrev Zt:=@Value.string
abbrev Zk:=@Obj.cells
abbrev Zr:=@Ending.returned
abbrev Zp:=@Value.pointer
abbrev Zo:=@Value.bool
abbrev Zg:=@Value.agg
abbrev Zu:=@Value.tuple
abbrev Zf:=@Value.iface
abbrev Zn:=@Value.nilIface
theorem Zy{a b c d:Prop}(h:a)(i:b)(j:c)(k:d):Hid (a/\b/\c/\d):=⟨h,i,j,k⟩
theorem Zal{w:World}{o:Obj}:Below w.heap.size w (w.alloc o):=(Below.refl _ _).alloc (Nat.le_refl _) _
abbrev Ya:=@Nat.lt_of_lt_of_le
abbrev Yb:=@List.getElem?_eq_none
abbrev Yc:=@Nat.lt_or_ge
abbrev Yd:=@List.take_of_length_le
abbrev Ye:=@List.take_length
abbrev Yf:=@List.mem_cons_self
abbrev Yg:=@List.mem_cons_of_mem
abbrev Yh:=@List.getElem_mem
abbrev Yi:=@List.getElem?_set_self
abbrev Yj:=@List.getElem_of_mem
abbrev Yk:=@List.drop_eq_getElem_cons
abbrev Yl:=@List.mem_of_mem_take
abbrev Ym:=@List.getElem?_take_of_lt
abbrev Yn:=@Nat.mul_le_mul_right
abbrev Yo:=@World.cell?_alloc_lt
abbrev Yp:=@List.getElem?_set_ne
abbrev Yq:=@Nat.not_lt_zero
abbrev Yr:=@List.pairwise_iff_getElem
abbrev Ys:=@List.take_succ_eq_append_getElem
abbrev Yt:=@List.map_congr_left
abbrev Yu:=@Option.some.inj
abbrev Yv:=@List.mem_or_eq_of_mem_set
abbrev Yw:=@Nat.eq_zero_or_pos
abbrev Yx:=@List.drop_eq_nil_of_le
abbrev Yy:=@World.cell?_setCell_other
abbrev Yz:=@List.take_append_of_le_length
abbrev YA:=@List.eq_nil_of_length_eq_zero
abbrev YB:=@List.eq_of_mem_replicate
abbrev YC:=@List.lt_irrefl
abbrev YD:=@List.set_append_right
abbrev YE:=@List.length_singleton
abbrev YF:=@List.take_add_one
abbrev YG:=@List.mem_of_mem_eraseIdx
abbrev YH:=@List.eraseIdx_eq_take_drop_succ
abbrev YI:=@List.mergeSort_perm
abbrev YJ:=@List.replicate_succ
abbrev YK:=@List.filterMap_cons
abbrev YL:=@List.getElem_set
abbrev YM:=@World.frozen?_alloc_old
abbrev YN:=@List.length_mapIdx
abbrev YO:=@List.eraseIdx_sublist
abbrev YP:=@List.getElem?_mapIdx
abbrev YQ:=@List.filter_eq_self
abbrev YR:=@Nat.lt_or_gt_of_ne
abbrev YS:=@World.ownsRow_made
abbrev YT:=@List.pairwise_mergeSort
abbrev YU:=@List.nodup_append
abbrev YV:=@Nat.mul_le_mul
abbrev YW:=@List.filter_eq_nil_iff
abbrev YX:=@List.take_append_drop
abbrev YY:=@Nat.mod_eq_of_lt
abbrev YZ:=@List.exists_cons_of_length_pos
abbrev Y0:=@Nat.lt_irrefl
abbrev Y1:=@Nat.min_eq_left
abbrev Y2:=@Bool.eq_iff_iff
abbrev Y3:=@Nat.two_pow_pos
abbrev Y4:=@List.mem_map_of_mem
abbrev Y5:=@Nat.succ_mul
abbrev Y6:=@Nat.sub_self
abbrev Y7:=@List.take_take
abbrev Y8:=@List.map_singleton
abbrev Y9:=@Nat.pow_add
abbrev Yaa:=@Nat.lt_trichotomy
abbrev Yab:=@Nat.lt_of_succ_lt
abbrev Yac:=@Nat.mul_comm
abbrev Yad:=@Int.le_trans
abbrev Yae:=@heap_alloc_new
abbrev Yaf:=@if_neg
abbrev Yag:=@if_pos
abbrev Yah:=@frozen_of_row
abbrev Yai:=@List.length_eq_zero_iff
end Go.Proofs.YthlacpbkcmellaaGreatDoor
