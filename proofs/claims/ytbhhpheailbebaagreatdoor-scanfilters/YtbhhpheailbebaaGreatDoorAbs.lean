import Derived.WalkKit
import Derived.Laws.CopyOwn
import Derived.Test.YtbhhpheailbebaaGreatDoorProg
import Derived.Deep.LoopGhost
import Derived.Deep.RegionHeld
set_option maxHeartbeats 40000000
set_option maxRecDepth 100000
theorem Go.RowKit.Hid.o{p:Prop}(h:Go.RowKit.Hid p):p:=h
theorem Go.Aside.o{p:Prop}(h:Go.Aside p):p:=h
theorem Go.Shut.o{p:Prop}(h:Go.Shut p):p:=h
namespace Go.Proofs.YtbhhpheailbebaaGreatDoor
open Go.RowKit Go.Proofs
abbrev Zi(x:Int):Value:=.int .i64 x
abbrev Zb(w W:World):Prop:=Below w.heap.size w W
abbrev Zc(f:Nat)(a:Array Value)(w:World)(Q:Ending->World->Prop):Prop:=Calls Tryz.prog f a w Q
abbrev Tb:=ByteArray
abbrev To:=Option Addr
abbrev Td:=DataW Unit
abbrev Tw:=World
abbrev Tv:=Value
abbrev Zs:=@Value.slice
abbrev Zt:=@Value.string
abbrev Zk:=@Obj.cells
abbrev Zr:=@Ending.returned
abbrev Zp:=@Value.pointer
abbrev Zo:=@Value.bool
abbrev Zg:=@Value.agg
abbrev Zu:=@Value.tuple
abbrev Zf:=@Value.iface
abbrev Zn:=@Value.nilIface
theorem Zy{a b c d:Prop}(h:a)(i:b)(j:c)(k:d):Hid (a/\b/\c/\d):=⟨h,i,j,k⟩
theorem Zal{w:World}{o:Obj}:Below w.heap.size w (w.alloc o):=(Below.refl _ _).alloc (Nat.le_refl _) _
abbrev Ya:=@Nat.lt_of_lt_of_le
abbrev Yb:=@List.getElem?_eq_none
abbrev Yc:=@Nat.lt_or_ge
abbrev Yd:=@List.take_of_length_le
abbrev Ye:=@List.take_length
abbrev Yf:=@List.mem_cons_self
abbrev Yg:=@List.mem_cons_of_mem
abbrev Yh:=@List.getElem_mem
abbrev Yi:=@List.getElem?_set_self
abbrev Yj:=@List.getElem_of_mem
abbrev Yk:=@List.mem_of_mem_take
abbrev Yl:=@List.getElem?_take_of_lt
abbrev Ym:=@Nat.not_lt_zero
abbrev Yn:=@Nat.mul_le_mul_right
abbrev Yo:=@World.cell?_alloc_lt
abbrev Yp:=@List.getElem?_set_ne
abbrev Yq:=@List.drop_eq_getElem_cons
abbrev Yr:=@List.take_succ_eq_append_getElem
abbrev Ys:=@Nat.eq_zero_or_pos
abbrev Yt:=@List.mem_or_eq_of_mem_set
abbrev Yu:=@Option.some.inj
abbrev Yv:=@List.pairwise_iff_getElem
abbrev Yw:=@List.map_congr_left
abbrev Yx:=@List.take_append_of_le_length
abbrev Yy:=@List.eq_of_mem_replicate
abbrev Yz:=@List.eq_nil_of_length_eq_zero
abbrev YA:=@List.lt_irrefl
abbrev YB:=@List.set_append_right
abbrev YC:=@List.length_singleton
abbrev YD:=@Nat.le_of_lt
abbrev YE:=@List.mem_of_mem_eraseIdx
abbrev YF:=@Nat.lt_irrefl
abbrev YG:=@List.eraseIdx_eq_take_drop_succ
abbrev YH:=@List.replicate_succ
abbrev YI:=@List.getElem_set
abbrev YJ:=@World.frozen?_alloc_old
abbrev YK:=@List.drop_eq_nil_of_le
abbrev YL:=@List.eraseIdx_sublist
abbrev YM:=@List.take_append_drop
abbrev YN:=@List.length_filter_le
abbrev YO:=@List.take_add_one
abbrev YP:=@World.cell?_setCell_other
abbrev YQ:=@List.filterMap_cons
abbrev YR:=@Nat.lt_or_gt_of_ne
abbrev YS:=@World.ownsRow_made
abbrev YT:=@List.nodup_append
abbrev YU:=@Nat.mul_le_mul
abbrev YV:=@Nat.sub_self
abbrev YW:=@Nat.mod_eq_of_lt
abbrev YX:=@List.exists_cons_of_length_pos
abbrev YY:=@Nat.min_eq_left
abbrev YZ:=@Nat.two_pow_pos
abbrev Y0:=@List.mem_map_of_mem
abbrev Y1:=@Nat.succ_mul
abbrev Y2:=@List.take_take
abbrev Y3:=@List.map_singleton
abbrev Y4:=@List.all_eq_false
abbrev Y5:=@Nat.pow_add
abbrev Y6:=@Nat.lt_of_succ_lt
abbrev Y7:=@Nat.mul_comm
abbrev Y8:=@Int.le_trans
end Go.Proofs.YtbhhpheailbebaaGreatDoor
