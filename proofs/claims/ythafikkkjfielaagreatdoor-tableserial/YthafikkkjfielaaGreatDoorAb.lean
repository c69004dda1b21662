import Derived.WalkKit
import Derived.Laws.CopyOwn
import Derived.Maps.Own
import Derived.Test.YthafikkkjfielaaGreatDoorProg
import Derived.Deep.LoopGhost
import Derived.Deep.RegionHeld
set_option maxHeartbeats 40000000
set_option maxRecDepth 100000
theorem Go.RowKit.Hid.o{p:Prop}(h:Go.RowKit.Hid p):p:=h
theorem Go.Aside.o{p:Prop}(h:Go.Aside p):p:=h
theorem Go.Shut.o{p:Prop}(h:Go.Shut p):p:=h
namespace Go.Proofs.YthafikkkjfielaaGreatDoor
open Go.RowKit Go.Proofs
abbrev Zd(b o:Nat):Addr:=⟨b,o,none⟩
abbrev Zi(x:Int):Value:=.int .i64 x
abbrev Zb(w W:World):Prop:=Below w.heap.size w W
abbrev Zc(f:Nat)(a:Array Value)(w:World)(Q:Ending->World->Prop):Prop:=Calls Tryz.prog f a w Q
abbrev Tb:=ByteArray
abbrev To:=Option Addr
abbrev Td:=DataW Unit
abbrev Tw:=World
abbrev Tv:=Value
abbrev Zs:=@Value.slice
abbrev Zt:=@Value.string
abbrev Zk:=@Obj.cells
abbrev Zr:=@Ending.returned
abbrev Zp:=@Value.pointer
abbrev Zo:=@Value.bool
abbrev Zg:=@Value.agg
abbrev Zu:=@Value.tuple
abbrev Zf:=@Value.iface
abbrev Zn:=@Value.nilIface
theorem Zy{a b c d:Prop}(h:a)(i:b)(j:c)(k:d):Hid (a/\b/\c/\d):=⟨h,i,j,k⟩
theorem Zal{w:World}{o:Obj}:Below w.heap.size w (w.alloc o):=(Below.refl _ _).alloc (Nat.le_refl _) _
abbrev Ya:=@Nat.lt_of_lt_of_le
abbrev Yb:=@List.getElem?_eq_none
abbrev Yc:=@Nat.lt_or_ge
abbrev Yd:=@List.mem_cons_of_mem
abbrev Ye:=@List.mem_cons_self
abbrev Yf:=@List.take_of_length_le
abbrev Yg:=@List.take_length
abbrev Yh:=@List.getElem_mem
abbrev Yi:=@List.getElem?_take_of_lt
abbrev Yj:=@List.getElem?_set_self
abbrev Yk:=@List.getElem_of_mem
abbrev Yl:=@List.drop_eq_getElem_cons
abbrev Ym:=@List.mem_of_mem_take
abbrev Yn:=@List.map_congr_left
abbrev Yo:=@Nat.mul_le_mul_right
abbrev Yp:=@World.cell?_alloc_lt
abbrev Yq:=@List.getElem?_set_ne
abbrev Yr:=@Nat.not_lt_zero
abbrev Ys:=@List.take_succ_eq_append_getElem
abbrev Yt:=@Option.some.inj
abbrev Yu:=@List.mem_or_eq_of_mem_set
abbrev Yv:=@List.pairwise_iff_getElem
abbrev Yw:=@List.drop_eq_nil_of_le
abbrev Yx:=@Nat.eq_zero_or_pos
abbrev Yy:=@List.take_append_of_le_length
abbrev Yz:=@List.eq_nil_of_length_eq_zero
abbrev YA:=@List.set_append_right
abbrev YB:=@List.mem_of_mem_eraseIdx
abbrev YC:=@List.eq_of_mem_replicate
abbrev YD:=@List.lt_irrefl
abbrev YE:=@List.length_singleton
abbrev YF:=@World.cell?_setCell_other
abbrev YG:=@List.take_add_one
abbrev YH:=@Nat.le_succ_of_le
abbrev YI:=@List.eraseIdx_eq_take_drop_succ
abbrev YJ:=@List.replicate_succ
abbrev YK:=@List.getElem_set
abbrev YL:=@World.frozen?_alloc_old
abbrev YM:=@World.ownsRow_made
abbrev YN:=@List.eraseIdx_sublist
abbrev YO:=@Nat.sub_self
abbrev YP:=@List.filterMap_cons
abbrev YQ:=@Nat.lt_or_gt_of_ne
abbrev YR:=@List.nodup_append
abbrev YS:=@Nat.mul_le_mul
abbrev YT:=@List.mem_append_right
abbrev YU:=@List.take_append_drop
abbrev YV:=@Nat.mod_eq_of_lt
abbrev YW:=@List.exists_cons_of_length_pos
abbrev YX:=@Nat.lt_irrefl
abbrev YY:=@Nat.min_eq_left
abbrev YZ:=@Bool.eq_iff_iff
abbrev Y0:=@Nat.two_pow_pos
abbrev Y1:=@List.mergeSort_perm
abbrev Y2:=@List.mem_map_of_mem
abbrev Y3:=@Nat.succ_mul
abbrev Y4:=@List.take_take
abbrev Y5:=@List.map_singleton
abbrev Y6:=@Nat.lt_trichotomy
abbrev Y7:=@Nat.pow_add
abbrev Y8:=@Nat.lt_of_succ_lt
abbrev Y9:=@List.ext_getElem
abbrev Yaa:=@Nat.mul_comm
abbrev Yab:=@Int.le_trans
abbrev Yac:=@heap_alloc_new
abbrev Yad:=@if_neg
abbrev Yae:=@if_pos
abbrev Yaf:=@frozen_of_row
abbrev Yag:=@List.length_eq_zero_iff
end Go.Proofs.YthafikkkjfielaaGreatDoor
