/- Layer 1: bytes that are escaped: plain and appendEscaped. -/
import Derived.Test.YtoapfldmkpobmaaGreatDoorB
import Derived.Deep.DeepCutAuto
import Derived.Maps.AppendAt
import Derived.Deep.RegionLaw
import Derived.Lib.BufferRead
namespace Go.Proofs.YtoapfldmkpobmaaGreatDoor
open Go.RowKit
def plainB (c : UInt8) : Bool := decide (32 ≤ (c.toNat : Int)) && decide ((c.toNat : Int) ≤ 126) && ((c.toNat : Int) != 34) && ((c.toNat : Int) != 92)
def escV : List UInt8 := [34, 92, 10, 13, 9]
def escC : List UInt8 := [34, 92, 110, 114, 116]
def hexC : List UInt8 := [48, 49, 50, 51, 52, 53, 54, 55, 56, 57, 97, 98, 99, 100, 101, 102]
def hexAt (k : Nat) : UInt8 := hexC.getD k 0
def escL (c : UInt8) : List UInt8 :=
  if plainB c then [c] else if c = 34 then [92, 34] else if c = 92 then [92, 92] else if c = 10 then [92, 110] else if c = 13 then [92, 114] else if c = 9 then [92, 116] else
    [92, 120, hexAt (c.toNat / 16), hexAt (c.toNat % 16)]
def u8v (c : UInt8) : Value := .int .u8 c.toNat
theorem u8v_one (l : List UInt8) : ∀ v ∈ l.map u8v, v.oneCell' = true := by
  intro v hv; obtain ⟨c, _, rfl⟩ := List.mem_map.1 hv; rfl

theorem plain_any (c : UInt8) (w : World) :
    Calls Tryz.prog 61 #[.int .u8 c.toNat] w fun e w' => e = .returned (.bool (plainB c)) ∧ w = w' := by
  go_enter Tryz.func61, Tryz.ntmps61
  go_wp2
  all_goals (go_ret; exact ⟨ret_bool (by unfold plainB; rw [Bool.eq_iff_iff]; simp; try omega), rfl⟩)

/-- What an append of bytes to a row of the call's own leaves. -/
def AppPost (B n : Nat) (xs : List UInt8) (w : World) (e : Ending) (w' : World) : Prop :=
  ∃ v, e = .returned v ∧ w'.ownsRow B 5 1 v n (xs.map u8v) ∧ Below B w w'
theorem info_u8 : (Tryz.prog.info? 5).map (fun i => (i.zero, i.size, i.bytes)) = some (some (.int .u8 0), 1, 1) := by kernel_rfl

theorem new_cells (w : World) (l : List UInt8) (j : Nat) (u : Value) (h : (l.map u8v)[j]? = some u) :
    (w.alloc (.cells (l.map u8v).toArray 5)).cell? ((⟨w.heap.size, 0, none⟩ : Addr).add j) = some u := by
  have e : ((⟨w.heap.size, 0, none⟩ : Addr).add j) = ⟨w.heap.size, j, none⟩ := by
    unfold Addr.add; split
    · rename_i h; rw [h]
    · simp
  rw [e, World.cell?_alloc_at _ _ _ _ rfl]
  simpa using h
theorem new_cells_at (w : World) (b : Nat) (hb : b = w.heap.size) (l : List UInt8) (j : Nat) (u : Value) (h : (l.map u8v)[j]? = some u) :
    (w.alloc (.cells (l.map u8v).toArray 5)).cell? ((⟨b, 0, none⟩ : Addr).add j) = some u := by
  subst hb; exact new_cells w l j u h
theorem app_post {B n m : Nat} {v v' : Value} {xs ys : List UInt8} {w w' : World} {o : Obj} (hown : w.ownsRow B 5 1 v n (xs.map u8v)) (hB : B ≤ w.heap.size)
    (h1 : w'.ownsRow B 5 1 v' (n + m) (xs.map u8v ++ ys.map u8v)) (h2 : (w.alloc o).grownBy w' v.ownBlock) : AppPost B (n + m) (xs ++ ys) w (.returned v') w' := by
  refine ⟨v', rfl, by rw [List.map_append]; exact h1, ?_⟩
  refine ((Below.refl B w).alloc hB o).grown h2 (by simp; omega) ?_
  intro k hk
  rcases hown.2 with ⟨rfl, _⟩ | ⟨g, cap, cur, rfl, hg, _⟩
  · cases hk
  · simp [Value.ownBlock] at hk; omega
theorem app_post_drew {B n m : Nat} {v v' : Value} {xs ys : List UInt8} {w w' : World} {o : Obj} (hown : w.ownsRow B 5 1 v n (xs.map u8v)) (hB : B ≤ w.heap.size)
    (h1 : w'.ownsRow B 5 1 v' (n + m) (xs.map u8v ++ ys.map u8v)) (h2 : (w.alloc o).drew.grownBy w' v.ownBlock) : AppPost B (n + m) (xs ++ ys) w.drew (.returned v') w' :=
  app_post (w := w.drew) (o := o) hown hB h1 ⟨h2.os, h2.tape, h2.output, h2.size, h2.block⟩
theorem AppPost.trans {B n : Nat} {xs : List UInt8} {w w1 w' : World} {e : Ending} (hb : Below B w w1) (h : AppPost B n xs w1 e w') : AppPost B n xs w e w' := by
  obtain ⟨v, a, b, c⟩ := h
  exact ⟨v, a, b, hb.trans c⟩
theorem app_plain (B n : Nat) (v : Value) (xs : List UInt8) (c : UInt8) (w : World) (hp : plainB c = true) (hown : w.ownsRow B 5 1 v n (xs.map u8v)) (hB : B ≤ w.heap.size) (hn : n ≤ 1000000000000) :
    Calls Tryz.prog 76 #[v, .int .u8 c.toNat] w (AppPost B (n + (escL c).length) (xs ++ escL c) w) := by
  obtain ⟨i0, hi, hz0, hz1, hz2⟩ := info_parts info_u8
  rw [show escL c = [c] by unfold escL; rw [if_pos hp]]
  go_enter Tryz.func76, Tryz.ntmps76
  go_wp2_with (first | (go_at_call 61; refine (plain_any _ _).mono ?_; rintro e w' ⟨rfl, rfl⟩) |
    (at_builtin; refine wpList_append_own _ rfl _ _ 66 rfl _ 5 i0 (.int .u8 0) 1 1 Tryz.underlying66 hi hz0 hz1 hz2 rfl (by decide) _ n _ rfl (hown.alloc _) ⟨w.heap.size, 0, none⟩ ([c]).length ([c]).length (([c]).map u8v) rfl rfl (new_cells w [c]) (u8v_one _) ?c3 ?c4 ?c5 ?_)
    )
  case c3 => simp [maxLen]; omega
  case c4 => simp; omega
  case c5 => simp; omega
  intro v' w' hown' hgrow _
  go_wp2
  go_ret
  exact app_post hown hB hown' hgrow

/-- The table of escapes as a value. -/
def escCells : Array Value := #[.int .u8 34, .int .u8 34, .int .u8 92, .int .u8 92, .int .u8 10, .int .u8 110, .int .u8 13, .int .u8 114, .int .u8 9, .int .u8 116]
def ev (k : Nat) : UInt8 := escV.getD k 0
def ec (k : Nat) : UInt8 := escC.getD k 0
theorem ix0 (w : World) : (Instr.index 98 (.agg escCells) (.int .i64 0)).run Tryz.prog w = .ok (.agg #[.int .u8 34, .int .u8 34]) w := by kernel_rfl
theorem ix1 (w : World) : (Instr.index 98 (.agg escCells) (.int .i64 1)).run Tryz.prog w = .ok (.agg #[.int .u8 92, .int .u8 92]) w := by kernel_rfl
theorem ix2 (w : World) : (Instr.index 98 (.agg escCells) (.int .i64 2)).run Tryz.prog w = .ok (.agg #[.int .u8 10, .int .u8 110]) w := by kernel_rfl
theorem ix3 (w : World) : (Instr.index 98 (.agg escCells) (.int .i64 3)).run Tryz.prog w = .ok (.agg #[.int .u8 13, .int .u8 114]) w := by kernel_rfl
theorem ix4 (w : World) : (Instr.index 98 (.agg escCells) (.int .i64 4)).run Tryz.prog w = .ok (.agg #[.int .u8 9, .int .u8 116]) w := by kernel_rfl
theorem run_escIx (k : Nat) (h : k < 5) (w : World) : (Instr.index 98 (.agg escCells) (.int .i64 (k : Int))).run Tryz.prog w = .ok (.agg #[.int .u8 (ev k).toNat, .int .u8 (ec k).toNat]) w := by
  match k, h with
  | 0, _ => exact ix0 w
  | 1, _ => exact ix1 w
  | 2, _ => exact ix2 w
  | 3, _ => exact ix3 w
  | 4, _ => exact ix4 w

set_option maxHeartbeats 800000 in
set_option maxRecDepth 100000 in
theorem app_loop (B n : Nat) (v : Value) (xs : List UInt8) (c : UInt8) (w : World) (hw : LW w) (hp : plainB c = false) (m : Nat) (hm : m < 5) (hne : ∀ j, j < m → ev j ≠ c) (hit : ev m = c)
    (hown : w.ownsRow B 5 1 v n (xs.map u8v)) (hB : B ≤ w.heap.size) (hn : n ≤ 1000000000000) :
    Calls Tryz.prog 76 #[v, .int .u8 c.toNat] w (AppPost B (n + 2) (xs ++ [92, ec m]) w) := by
  obtain ⟨i0, hi, hz0, hz1, hz2⟩ := info_parts info_u8
  obtain ⟨fr, hesc⟩ := hw.esc
  have HE := Lib.hid hne
  have HT := Lib.hid hit
  clear hw hne hit
  go_enter Tryz.func76, Tryz.ntmps76
  go_wp2_with (first | (go_at_call 61; refine (plain_any _ _).mono ?_; rintro e w' ⟨rfl, rfl⟩) | refine wpList_load_row rfl 98 _ rfl 0 rfl 98 escCells fr _ hesc Tryz.underlying98 rfl (by kernel_rfl) ?_)
  clear hesc
  go_loopw [6, 14] (fun _ i wr => ∃ k : Nat, k ≤ m ∧ i = .int .i64 k ∧ wr.ownsRow B 5 1 v n (xs.map u8v) ∧ Below w.heap.size w wr) (fun _ i _ => 5 - (intOf i).toNat)
  case atStart => exact ⟨0, by omega, rfl, hown, Below.refl _ _⟩
  case round =>
    obtain ⟨k, hk, rfl, hown2, hbel⟩ := hrel
    have hix := run_escIx k (by omega)
    by_cases hkm : k = m
    · subst hkm
      have ht : ((((ev k).toNat : Int)) == (c.toNat : Int)) = true := by rw [HT.out]; simp
      go_wp2_with (first
        | (at_builtin; refine wpList_append_own _ rfl _ _ 66 rfl _ 5 i0 (.int .u8 0) 1 1 Tryz.underlying66 hi hz0 hz1 hz2 rfl (by decide) _ n _ rfl ((hown2.alloc _).alloc _) ⟨wr.heap.size + 1, 0, none⟩ ([92, ec k]).length ([92, ec k]).length (([92, ec k]).map u8v) rfl rfl (new_cells_at _ (wr.heap.size + 1) (by simp) [92, ec k]) (u8v_one _) ?c3 ?c4 ?c5 ?_)
        )
      case c3 => simp [maxLen]; omega
      case c4 => simp; omega
      case c5 => simp; have := hbel.size; omega
      intro v' w' hown' hgrow _
      go_wp2
      go_ret
      have hsz := hbel.size
      exact AppPost.trans ((hbel.mono hB).alloc (by omega) _) (app_post (ys := [92, ec k]) (m := 2) (hown2.alloc _) (by simp; omega) hown' hgrow)
    · have ht : ((((ev k).toNat : Int)) == (c.toNat : Int)) = false := by
        have := HE.out k (by omega)
        rw [beq_eq_false_iff_ne]; intro e; exact this (UInt8.toNat_inj.1 (by omega))
      go_wp2_with fail
      go_roundw
      case rel => exact ⟨k + 1, by omega, by go_num, hown2.alloc _, hbel.alloc hbel.size _⟩
      case measure => simp [intOf]; omega

theorem step_append_own {P : Program} {ops : Array Oper} {o : Oper} {a : Act} (w : World) {K : Act → World → Prop} {Q : Exit → Act → World → Prop} {E : Prop} (hgd : o.guard = none) (s x : Operand) (t : TypeId)
    (ho : o.op = .call { callee := .builtin .append, args := #[s, x], argTypes := #[t, t] })
    (base : Nat) (e : TypeId) (i : TypeInfo) (z : Value) (size bytes : Nat) (ht : P.underlying t = some (.slice e)) (hi : P.info? e = some i) (hz : i.zero = some z)
    (hsize : i.size = size) (hby : i.bytes = bytes) (hzs : z.cells.size = size) (hsz : 0 < size)
    (v : Value) (n : Nat) (xs : List Value) (hs : a.eval s = v) (hown : w.ownsRow base e size v n xs)
    (ad : Addr) (m c : Nat) (news : List Value) (hx : a.eval x = .slice (some ad) m c) (hl : news.length = m * size) (hnews : ∀ j u, news[j]? = some u → w.cell? (ad.add j) = some u) (h1 : ∀ u ∈ news, u.oneCell' = true)
    (h63 : n + m ≤ maxLen) (hbytes : (n + m) * bytes ≤ 140737488355328) (hbase : base ≤ w.heap.size)
    (h : ∀ v' w', w'.ownsRow base e size v' (n + m) (xs ++ news) → w.grownBy w' v.ownBlock → (v' = .slice none 0 0 ↔ v = .slice none 0 0 ∧ m = 0) → K (a.put o.dst v') w') :
    if Region.wanted o (yielded ops a.tmps) = true then Oper.wp P o a w K Q else E := by
  have hw : Region.wanted o (yielded ops a.tmps) = true := by simp [Region.wanted, hgd]
  rw [if_pos hw]
  exact wp_append_own w s x t ho base e i z size bytes ht hi hz hsize hby hzs hsz v n xs hs hown ad m c news hx hl hnews h1 h63 hbytes hbase h
abbrev hexS : ByteArray := ⟨#[48, 49, 50, 51, 52, 53, 54, 55, 56, 57, 97, 98, 99, 100, 101, 102]⟩
theorem hx0 (w : World) : (Instr.index 9 (.string hexS) (.int .u8 0)).run Tryz.prog w = .ok (.int .u8 (hexAt 0).toNat) w := by kernel_rfl
theorem hx1 (w : World) : (Instr.index 9 (.string hexS) (.int .u8 1)).run Tryz.prog w = .ok (.int .u8 (hexAt 1).toNat) w := by kernel_rfl
theorem hx2 (w : World) : (Instr.index 9 (.string hexS) (.int .u8 2)).run Tryz.prog w = .ok (.int .u8 (hexAt 2).toNat) w := by kernel_rfl
theorem hx3 (w : World) : (Instr.index 9 (.string hexS) (.int .u8 3)).run Tryz.prog w = .ok (.int .u8 (hexAt 3).toNat) w := by kernel_rfl
theorem hx4 (w : World) : (Instr.index 9 (.string hexS) (.int .u8 4)).run Tryz.prog w = .ok (.int .u8 (hexAt 4).toNat) w := by kernel_rfl
theorem hx5 (w : World) : (Instr.index 9 (.string hexS) (.int .u8 5)).run Tryz.prog w = .ok (.int .u8 (hexAt 5).toNat) w := by kernel_rfl
theorem hx6 (w : World) : (Instr.index 9 (.string hexS) (.int .u8 6)).run Tryz.prog w = .ok (.int .u8 (hexAt 6).toNat) w := by kernel_rfl
theorem hx7 (w : World) : (Instr.index 9 (.string hexS) (.int .u8 7)).run Tryz.prog w = .ok (.int .u8 (hexAt 7).toNat) w := by kernel_rfl
theorem hx8 (w : World) : (Instr.index 9 (.string hexS) (.int .u8 8)).run Tryz.prog w = .ok (.int .u8 (hexAt 8).toNat) w := by kernel_rfl
theorem hx9 (w : World) : (Instr.index 9 (.string hexS) (.int .u8 9)).run Tryz.prog w = .ok (.int .u8 (hexAt 9).toNat) w := by kernel_rfl
theorem hx10 (w : World) : (Instr.index 9 (.string hexS) (.int .u8 10)).run Tryz.prog w = .ok (.int .u8 (hexAt 10).toNat) w := by kernel_rfl
theorem hx11 (w : World) : (Instr.index 9 (.string hexS) (.int .u8 11)).run Tryz.prog w = .ok (.int .u8 (hexAt 11).toNat) w := by kernel_rfl
theorem hx12 (w : World) : (Instr.index 9 (.string hexS) (.int .u8 12)).run Tryz.prog w = .ok (.int .u8 (hexAt 12).toNat) w := by kernel_rfl
theorem hx13 (w : World) : (Instr.index 9 (.string hexS) (.int .u8 13)).run Tryz.prog w = .ok (.int .u8 (hexAt 13).toNat) w := by kernel_rfl
theorem hx14 (w : World) : (Instr.index 9 (.string hexS) (.int .u8 14)).run Tryz.prog w = .ok (.int .u8 (hexAt 14).toNat) w := by kernel_rfl
theorem hx15 (w : World) : (Instr.index 9 (.string hexS) (.int .u8 15)).run Tryz.prog w = .ok (.int .u8 (hexAt 15).toNat) w := by kernel_rfl
theorem hexIx (x : Int) (k : Nat) (hk : k < 16) (e : x = k) (w : World) : (Instr.index 9 (.string hexS) (.int .u8 x)).run Tryz.prog w = .ok (.int .u8 (hexAt k).toNat) w := by
  subst e
  match k, hk with
  | 0, _ => exact hx0 w
  | 1, _ => exact hx1 w
  | 2, _ => exact hx2 w
  | 3, _ => exact hx3 w
  | 4, _ => exact hx4 w
  | 5, _ => exact hx5 w
  | 6, _ => exact hx6 w
  | 7, _ => exact hx7 w
  | 8, _ => exact hx8 w
  | 9, _ => exact hx9 w
  | 10, _ => exact hx10 w
  | 11, _ => exact hx11 w
  | 12, _ => exact hx12 w
  | 13, _ => exact hx13 w
  | 14, _ => exact hx14 w
  | 15, _ => exact hx15 w
  | _ + 16, h => exact absurd h (by omega)
theorem and15 (c : UInt8) : bits BinOp.and IntKind.u8 (c.toNat : Int) 15 = ((c.toNat % 16 : Nat) : Int) := by
  show IntKind.u8.wrap ((BitVec.ofInt 8 (c.toNat : Int) &&& BitVec.ofInt 8 15).toNat : Int) = _
  have h := c.toNat_lt
  rw [BitVec.toNat_and, show (BitVec.ofInt 8 (c.toNat : Int)).toNat = c.toNat by rw [BitVec.ofInt_natCast, BitVec.toNat_ofNat]; exact Nat.mod_eq_of_lt (by simpa using h), show (BitVec.ofInt 8 15).toNat = 2 ^ 4 - 1 from rfl, Nat.and_two_pow_sub_one_eq_mod, IntKind.wrap_u8]
  omega
set_option maxHeartbeats 800000 in
set_option maxRecDepth 100000 in
theorem app_hex (B n : Nat) (v : Value) (xs : List UInt8) (c : UInt8) (w : World) (hw : LW w) (hp : plainB c = false) (hne : ∀ j, j < 5 → ev j ≠ c)
    (hown : w.ownsRow B 5 1 v n (xs.map u8v)) (hB : B ≤ w.heap.size) (hn : n ≤ 1000000000000) :
    Calls Tryz.prog 76 #[v, .int .u8 c.toNat] w (AppPost B (n + 4) (xs ++ [92, 120, hexAt (c.toNat / 16), hexAt (c.toNat % 16)]) w) := by
  obtain ⟨i0, hi, hz0, hz1, hz2⟩ := info_parts info_u8
  obtain ⟨fr, hesc⟩ := hw.esc
  have HE := Lib.hid hne
  clear hw hne
  go_enter Tryz.func76, Tryz.ntmps76
  go_wp2_with (first | (go_at_call 61; refine (plain_any _ _).mono ?_; rintro e w' ⟨rfl, rfl⟩) | refine wpList_load_row rfl 98 _ rfl 0 rfl 98 escCells fr _ hesc Tryz.underlying98 rfl (by kernel_rfl) ?_)
  clear hesc
  go_loopw [6, 14] (fun _ i wr => ∃ k : Nat, k ≤ 5 ∧ i = .int .i64 k ∧ wr.ownsRow B 5 1 v n (xs.map u8v) ∧ Below w.heap.size w wr) (fun _ i _ => 5 - (intOf i).toNat)
  case atStart => exact ⟨0, by omega, rfl, hown, Below.refl _ _⟩
  case round =>
    obtain ⟨k, hk, rfl, hown2, hbel⟩ := hrel
    by_cases hkm : k = 5
    · subst hkm
      clear hown
      have hc := c.toNat_lt
      have hx1 := fun w => hexIx ((c.toNat : Int) / 16) (c.toNat / 16) (by omega) (by omega) w
      have hx2 := fun w => hexIx (bits BinOp.and IntKind.u8 (c.toNat : Int) 15) (c.toNat % 16) (by omega) (and15 c) w
      clear hc
      go_wp2_with fail
      go_region_law (refine step_append_own _ rfl _ _ 66 rfl B 5 i0 (.int .u8 0) 1 1 Tryz.underlying66 hi hz0 hz1 hz2 rfl (by decide) _ n _ rfl ((hown2.alloc _)) ⟨wr.heap.size, 0, none⟩ 4 4 ([92, 120, hexAt (c.toNat / 16), hexAt (c.toNat % 16)].map u8v) rfl rfl (new_cells_at _ wr.heap.size (by simp) [92, 120, hexAt (c.toNat / 16), hexAt (c.toNat % 16)]) (u8v_one _) (by simp [maxLen]; omega) (by simp; omega) (by simp; have := hbel.size; omega) ?_; intro v' w' hown' hgrow _)
      all_goals go_wp2_with fail
      all_goals go_ret
      all_goals
        have hsz := hbel.size
        exact AppPost.trans (hbel.mono hB).drew (app_post_drew (ys := [92, 120, hexAt (c.toNat / 16), hexAt (c.toNat % 16)]) (m := 4) hown2 (by omega) hown' hgrow)
    · have hix := run_escIx k (by omega)
      have ht : ((((ev k).toNat : Int)) == (c.toNat : Int)) = false := by
        have := HE.out k (by omega)
        rw [beq_eq_false_iff_ne]; intro e; exact this (UInt8.toNat_inj.1 (by omega))
      go_wp2_with fail
      go_roundw
      case rel => exact ⟨k + 1, by omega, by go_num, hown2.alloc _, hbel.alloc hbel.size _⟩
      case measure => simp [intOf]; omega

theorem app_any (B n : Nat) (v : Value) (xs : List UInt8) (c : UInt8) (w : World) (hw : LW w)
    (hown : w.ownsRow B 5 1 v n (xs.map u8v)) (hB : B ≤ w.heap.size) (hn : n ≤ 1000000000000) :
    Calls Tryz.prog 76 #[v, .int .u8 c.toNat] w (AppPost B (n + (escL c).length) (xs ++ escL c) w) := by
  by_cases hp : plainB c = true
  · exact app_plain B n v xs c w hp hown hB hn
  have hp' : plainB c = false := by simpa using hp
  have hz : ∀ m, m < 5 → ev m = c → (∀ j, j < m → ev j ≠ c) → escL c = [92, ec m] → Calls Tryz.prog 76 #[v, .int .u8 c.toNat] w (AppPost B (n + (escL c).length) (xs ++ escL c) w) := by
    intro m hm he hne hl
    rw [hl]; exact app_loop B n v xs c w hw hp' m hm hne he hown hB hn
  by_cases h0 : c = 34
  · exact hz 0 (by omega) h0.symm (fun j hj => by omega) (by unfold escL; rw [if_neg hp, if_pos h0]; rfl)
  by_cases h1 : c = 92
  · exact hz 1 (by omega) h1.symm (fun j hj => by match j, hj with | 0, _ => exact Ne.symm h0) (by unfold escL; rw [if_neg hp, if_neg h0, if_pos h1]; rfl)
  by_cases h2 : c = 10
  · exact hz 2 (by omega) h2.symm (fun j hj => by match j, hj with | 0, _ => exact Ne.symm h0 | 1, _ => exact Ne.symm h1) (by unfold escL; rw [if_neg hp, if_neg h0, if_neg h1, if_pos h2]; rfl)
  by_cases h3 : c = 13
  · exact hz 3 (by omega) h3.symm (fun j hj => by match j, hj with | 0, _ => exact Ne.symm h0 | 1, _ => exact Ne.symm h1 | 2, _ => exact Ne.symm h2) (by unfold escL; rw [if_neg hp, if_neg h0, if_neg h1, if_neg h2, if_pos h3]; rfl)
  by_cases h4 : c = 9
  · exact hz 4 (by omega) h4.symm (fun j hj => by match j, hj with | 0, _ => exact Ne.symm h0 | 1, _ => exact Ne.symm h1 | 2, _ => exact Ne.symm h2 | 3, _ => exact Ne.symm h3) (by unfold escL; rw [if_neg hp, if_neg h0, if_neg h1, if_neg h2, if_neg h3, if_pos h4]; rfl)
  have e : escL c = [92, 120, hexAt (c.toNat / 16), hexAt (c.toNat % 16)] := by
    unfold escL; rw [if_neg hp, if_neg h0, if_neg h1, if_neg h2, if_neg h3, if_neg h4]
  rw [e]
  exact app_hex B n v xs c w hw hp' (fun j hj => by
    match j, hj with
    | 0, _ => exact Ne.symm h0
    | 1, _ => exact Ne.symm h1
    | 2, _ => exact Ne.symm h2
    | 3, _ => exact Ne.symm h3
    | 4, _ => exact Ne.symm h4) hown hB hn

/-- 'string(b)' of a row of the call's own. -/
theorem conv_own {B n : Nat} {v : Value} {l : List UInt8} {w : World} (h : w.ownsRow B 5 1 v n (l.map u8v)) : (convert 66 9 v).run Tryz.prog w = .ok (.string ⟨l.toArray⟩) w := by
  have hn : n = l.length := by have := h.1; simp at this; omega
  rcases h.2 with ⟨rfl, h0⟩ | ⟨g, cap, cur, rfl, _⟩
  · have : l = [] := by apply List.eq_nil_of_length_eq_zero; omega
    subst this
    exact Lib.run_convert_nil_bytes w _ _ 5 0 Tryz.underlying66 Tryz.underlying5 Tryz.underlying9
  · subst hn
    have hc := h.cells (g := g) rfl
    exact run_convert_bytes_back (P := Tryz.prog) w 66 9 5 ⟨g, 0, none⟩ cap l Tryz.underlying66 Tryz.underlying5 Tryz.underlying9 (fun j hj => hc j _ (by simp [hj]; rfl))

/-- The quoted form. -/
def escAll (l : List UInt8) : List UInt8 := (l.map escL).flatten
def quoteL (l : List UInt8) : List UInt8 := 34 :: escAll l ++ [34]
theorem escL_le (c : UInt8) : (escL c).length ≤ 4 := by
  unfold escL
  repeat' split
  all_goals simp
theorem escAll_snoc (s : ByteArray) (k : Nat) (h : k < s.size) : escAll (s.data.toList.take (k + 1)) = escAll (s.data.toList.take k) ++ escL s[k] := by
  have : s.data.toList.take (k + 1) = s.data.toList.take k ++ [s[k]] := by
    rw [List.take_succ_eq_append_getElem (by simpa using h)]; rfl
  unfold escAll; rw [this]; simp
theorem escAll_le (l : List UInt8) : (escAll l).length ≤ 4 * l.length := by
  induction l with
  | nil => simp [escAll]
  | cons c l ih => have := escL_le c; unfold escAll at *; simp at *; omega
end Go.Proofs.YtoapfldmkpobmaaGreatDoor
