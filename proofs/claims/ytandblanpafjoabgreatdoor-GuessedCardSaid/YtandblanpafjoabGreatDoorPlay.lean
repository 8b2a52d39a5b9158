import Derived.Test.YtandblanpafjoabGreatDoorNext
import Derived.Test.YtandblanpafjoabGreatDoorTold
namespace Go.Proofs.YtandblanpafjoabGreatDoor
open Go.RowKit Go.Extern.Stop Go.Stop Go.Extern

theorem fo8 : fo 8 = 4620693217682128896 := by decide +kernel
theorem put_from (a b r i : Nat) (S : Int) (g k x y h t s : Nat) (ha : a = fo (x : Int)) (hb : b = fo (y : Int)) (hr : r = tre h t) (hi : i = tim h t) (hS : S = (s : Int)) (m : List Int) (w : World) (hm : m.length = 288) (hk : k < 4) (hx : x < 16) (hy : y < 16) (hh : h < 4) (ht : t < 4) (hs : s < 65536) (hblk : Blk w g (nums .u8 m) 106) :
    Calls Tryz.prog 70 #[.pointer (some ⟨g, 0, none⟩), .int .i64 (k : Int), .agg #[.complex .f64 a b, .complex .f64 r i, .int .u16 S]] w
      fun e w' => e = .returned (.tuple #[]) ∧ Blk w' g (nums .u8 (putL m k x y (newHead h t) s)) 106 ∧ w.grownBy w' (some g) := by
  subst ha hb hr hi hS; exact put_any g k x y h t s m w hm hk hx hy hh ht hs hblk

/-- The memory at the beginning. -/
def startTo : Nat → List Int
  | 0 => Z288
  | k + 1 => putL (startTo k) k (4 * k + 2) 8 0 0
theorem startTo_len : ∀ k, (startTo k).length = 288
  | 0 => Z288_len
  | k + 1 => by rw [startTo, putL_len]; exact startTo_len k

set_option maxRecDepth 100000 in
set_option maxHeartbeats 1000000 in
theorem start_any (n : Nat) (w : World) (hn : n ≤ 4) :
    Calls Tryz.prog 45 #[.int .i64 (n : Int)] w fun e w' => e = .returned (.agg (nums .u8 (startTo n))) ∧ Below w.heap.size w w' := by
  have hz := Tryz.zeroMem
  go_enter Tryz.func45, Tryz.ntmps45
  go_wp2_with fail
  go_loopw [6] (fun i wr => ∃ k : Nat, k ≤ n ∧ i = .int .i64 k ∧ Below w.heap.size w wr ∧ Blk wr w.heap.size (nums .u8 Z288) 106 ∧ Blk wr (w.heap.size + 1) (nums .u8 (startTo k)) 106) (fun i _ => n - (intOf i).toNat)
  case atStart => exact ⟨0, by omega, rfl, ((Below.refl _ _).alloc (Nat.le_refl _) _).alloc (by simp) _, heap_alloc2_old _ _ _, heap_alloc2_new _ _ _⟩
  case round =>
    obtain ⟨k, hk, rfl, hb, hbz, hbm⟩ := hrel
    have HBM := hide hbm
    have HBZ := hide hbz
    clear hbm hbz
    by_cases hlt : k < n
    · have hlt' : (k : Int) < (n : Int) := by omega
      go_wp2_with fail
      refine (put_from _ _ _ _ _ (w.heap.size + 1) k (4 * k + 2) 8 0 0 0 (by show floatOfInt _ _ = floatOfInt _ _; congr 1) fo8.symm rfl rfl rfl (startTo k) wr (startTo_len k) (by omega) (by omega) (by omega) (by omega) (by omega) (by omega) (unhide HBM)).mono ?_
      rintro e w2 ⟨rfl, hb2, hg2⟩
      go_wp2_with fail
      go_roundw
      case rel => exact ⟨k + 1, by omega, by go_num, hb.trans (below_grown hg2 hb.size (by omega)), (unhide HBZ).grown hg2 (by omega), hb2⟩
      case measure => simp [intOf]; omega
    · have hkn : k = n := by omega
      subst hkn
      go_wp2_with (first | (refine wpList_load_blk rfl 106 _ rfl (w.heap.size + 1) rfl 106 (nums .u8 (startTo k)) _ (unhide HBM) Tryz.underlying106 rfl (Tryz.sizeMem _ (startTo_len k)) ?_) | (refine wpList_store_blk rfl 106 _ _ rfl w.heap.size 106 (nums .u8 Z288) (nums .u8 (startTo k)) rfl rfl (unhide HBZ) (Tryz.sizeMem _ (startTo_len k)) (by rw [nums_size, nums_size, startTo_len, Z288_len]) (nums_one _ _) ?_))
      refine bodyPost_ret (v := .agg (nums .u8 (startTo k))) ?_ rfl ⟨rfl, ?_⟩
      · exact results_cell_row Tryz.results45 _ _ w.heap.size 106 _ (0, 0) _ rfl ((unhide HBZ).setRow _) Tryz.underlying106 rfl (Tryz.sizeMem _ (startTo_len k))
      · exact below_setRow hb (Nat.le_refl _) _

section
variable {P : Program}
/-- append within the room that there is. -/
theorem wpList_append_room {ops : Array Oper} {rest : List Oper} {o : Oper} {a : Act} {w : World} {Q : Exit → Act → World → Prop} (hgd : o.guard = none) (s x : Operand) (t : TypeId)
    (ho : o.op = .call { callee := .builtin .append, args := #[s, x], argTypes := #[t, t] }) (e : TypeId) (ht : P.underlying t = some (.slice e)) (hs : (P.info? e).map (·.size) = some 1)
    (g n cap : Nat) (hsv : a.eval s = .slice (some ⟨g, 0, none⟩) n cap) (ad : Addr) (m c : Nat) (hx : a.eval x = .slice (some ad) m c) (k : IntKind) (cur news : List Int)
    (hg : Blk w g (nums k cur) e) (hcur : cur.length = cap) (hl : news.length = m) (hnews : ∀ j u, (news.map (Value.int k))[j]? = some u → w.cell? (ad.add j) = some u) (hroom : n + m ≤ cap)
    (h : wpList P ops Q rest (a.put o.dst (.slice (some ⟨g, 0, none⟩) (n + m) cap)) (w.setRow g (nums k (cur.take n ++ news ++ cur.drop (n + m))))) : wpList P ops Q (o :: rest) a w :=
  wpList_plain hgd fun _ hK => by
    cases hq : P.info? e with
    | none => simp [hq] at hs
    | some i =>
      have hm : i.size = 1 := by simpa [hq] using hs
      have hr := run_append_room (P := P) w t o.type e i ht hq g n cap (nums k cur) hg ad m c (news.map (.int k)) (by rw [hm]; simp [hl]) hnews (nums_ones _ _) hroom (by rw [hm, nums_size, List.length_map]; omega)
      have e1 : ((nums k cur).toList.take (n * i.size) ++ news.map (Value.int k) ++ (nums k cur).toList.drop (n * i.size + (news.map (Value.int k)).length)).toArray = nums k (cur.take n ++ news ++ cur.drop (n + m)) := by
        rw [hm, List.length_map, hl]
        simp [nums, List.map_take, List.map_drop]
      rw [e1] at hr
      unfold Oper.wp execOp
      simp only [ho, resolve, invoke, builtin, Sem.run_bind, Sem.run_pure, Result.andThen_ok, List.map_toArray, List.map_cons, List.map_nil, hsv, hx, hr]
      exact hK _ _ h
end
theorem make288 (w : World) : (Instr.makeSlice 35 (.int .i64 0) (.int .i64 288)).run Tryz.prog w = .ok (.slice (some ⟨w.heap.size, 0, none⟩) 0 288) (w.alloc (.cells (nums .u8 Z288) 5)) := by kernel_rfl

set_option maxRecDepth 100000 in
set_option maxHeartbeats 1000000 in
theorem bytes_any (m : List Int) (w : World) (hm : m.length = 288) :
    Calls Tryz.prog 47 #[.agg (nums .u8 m)] w fun e w' => ∃ g, e = .returned (.slice (some ⟨g, 0, none⟩) 288 288) ∧ w.heap.size ≤ g ∧ Blk w' g (nums .u8 m) 5 ∧ Below w.heap.size w w' := by
  have hmk := make288
  go_enter Tryz.func47, Tryz.ntmps47
  go_wp2_with (refine wpList_load_row rfl 106 _ rfl w.heap.size rfl 106 (nums .u8 m) (0, 0) _ (heap_alloc2_old _ _ _) Tryz.underlying106 rfl (Tryz.sizeMem _ hm) ?_)
  go_loopw [3, 8] (fun v i wr => ∃ k : Nat, k ≤ 18 ∧ i = .int .i64 k ∧ v = .slice (some ⟨w.heap.size + 1, 0, none⟩) (16 * k) 288 ∧ Below w.heap.size w wr ∧ Blk wr (w.heap.size + 1) (nums .u8 (memTo m k)) 5) (fun _ i _ => 18 - (intOf i).toNat)
  case atStart => exact ⟨0, by omega, rfl, rfl, ((Below.refl _ _).alloc (Nat.le_refl _) _).alloc (by simp) _, by rw [memTo_zero]; exact heap_alloc2_new _ _ _⟩
  case round =>
    obtain ⟨k, hk, rfl, rfl, hb, hbm⟩ := hrel
    have HBM := hide hbm
    have hlb := hbm.lt
    clear hbm
    by_cases hlt : k < 18
    · have hlt' : (k : Int) < 18 := by omega
      have hpl := pageL_len m k hm hlt
      have hix : ∀ w, (Instr.index 106 (.agg (nums .u8 m)) (.int .i64 (k : Int))).run Tryz.prog w = .ok (.agg (nums .u8 (pageL m k))) w := fun w => by
        rw [run_index_part w 106 104 18 16 _ _ k Tryz.underlying106 Tryz.underlying104 rfl (by kernel_rfl) hlt, nums_extract, show k * 16 + 16 - k * 16 = 16 by omega, Nat.mul_comm k 16]; rfl
      have HI2 : Hid ((Tryz.prog.info? 104).map (·.size) = some (nums .u8 (pageL m k)).size) := by rw [nums_size, hpl]; exact hide (by kernel_rfl)
      have HS2 : Hid ((nums .u8 (List.replicate 16 0)).size = (nums .u8 (pageL m k)).size) := by rw [nums_size, nums_size, hpl]; exact hide rfl
      have HM : Hid ((memTo m k).take (16 * k) ++ pageL m k ++ (memTo m k).drop (16 * k + 16) = memTo m (k + 1)) := hide (memTo_succ m k hm hlt)
      go_wp2_with (first
        | (refine wpList_store_new rfl 104 _ _ rfl (nums .u8 (List.replicate 16 0)) (nums .u8 (pageL m k)) rfl rfl (unhide HI2) (unhide HS2) (nums_one _ _) ?_)
        | (at_builtin; refine wpList_append_room rfl _ _ 35 rfl 5 Tryz.underlying35 sizeU8 (w.heap.size + 1) (16 * k) 288 rfl ⟨wr.heap.size, 0, none⟩ 16 16 rfl .u8 (memTo m k) (pageL m k) ((unhide HBM).alloc _) (memTo_len m k hm hk) hpl (cells_new _ _ _ _ _ rfl) (by omega) ?_; rw [unhide HM]))
      go_roundw
      case rel => exact ⟨k + 1, by omega, by go_num, by rw [Nat.mul_succ], below_setRow (hb.alloc hb.size _) (by omega) _, ((unhide HBM).alloc _).setRow _⟩
      case measure => simp [intOf]; omega
    · have hkn : k = 18 := by omega
      subst hkn
      go_wp2
      go_ret
      exact ⟨w.heap.size + 1, rfl, by omega, by have := unhide HBM; rw [memTo_all m hm] at this; exact this, hb⟩
end Go.Proofs.YtandblanpafjoabGreatDoor
