/- Layer 3: isMark, isPlain, appendByte. -/
import Derived.Test.YtedbhjladpfafaaM
import Derived.Test.YtedbhjladpfafaaShelf
import Derived.Maps.AppendAt
import Derived.Deep.RegionLaw
import Derived.Lib.BufferRead
import Derived.Lib.IndexBytes
import Derived.Laws.IdiomStrings
namespace Go.Proofs.Ytedbhjladpfafaa
open Go.RowKit
/-- Has a byte a backslash before it? -/
def markB (c : Nat) : Bool := c == 91 || c == 93 || c == 92 || c == 94 || c == 45
def plainB (c : Nat) : Bool := decide (33 ≤ c) && decide (c ≤ 126)
def hexC : List UInt8 := [48, 49, 50, 51, 52, 53, 54, 55, 56, 57, 97, 98, 99, 100, 101, 102]
def hexAt (k : Nat) : UInt8 := hexC.getD k 0
/-- The text of a byte. -/
def textB (c : Nat) : List UInt8 := if markB c then [92, UInt8.ofNat c] else if plainB c then [UInt8.ofNat c] else [92, 120, hexAt (c / 16), hexAt (c % 16)]
def u8v (c : UInt8) : Value := .int .u8 c.toNat
theorem u8v_one (l : List UInt8) : ∀ v ∈ l.map u8v, v.oneCell' = true := by
  intro v hv; obtain ⟨c, _, rfl⟩ := List.mem_map.1 hv; rfl
theorem ofNat_lt {c : Nat} (h : c < 256) : (UInt8.ofNat c).toNat = c := by simp; omega
theorem mark_all : ∀ c : Fin 256, decide (0 ≤ Lib.indexByte [91, 93, 92, 94, 45] (UInt8.ofNat c.val)) = markB c.val := by decide +kernel
theorem isMark_any (c : Nat) (w : World) (hc : c < 256) : Calls Try.prog 55 #[.int .u8 (c : Int)] w fun e w' => e = .returned (.bool (markB c)) ∧ w = w' := by
  have IX := Lib.hid (fun s w => Try.strings_IndexByte s (c : Int) w)
  have M := Lib.hid (mark_all ⟨c, hc⟩)
  go_enter Try.func55, Try.ntmps55
  go_wp2_with (go_at_call 58; refine (IX.out _ _).mono ?_; rintro e w' ⟨rfl, rfl⟩)
  go_ret
  refine ⟨ret_bool ?_, rfl⟩
  rw [← M.out]
theorem isPlain_any (c : Nat) (w : World) : Calls Try.prog 56 #[.int .u8 (c : Int)] w fun e w' => e = .returned (.bool (plainB c)) ∧ w = w' := by
  go_enter Try.func56, Try.ntmps56
  go_wp2
  all_goals (go_ret; exact ⟨ret_bool (by unfold plainB; rw [Bool.eq_iff_iff]; simp; try omega), rfl⟩)
/-- Every block of cells that are no bytes is as it was. -/
def KeepT (W W' : World) : Prop := ∀ (k : Nat) (cs : Array Value) (t : TypeId) (fr : Nat × Nat), t ≠ 5 → W.heap[k]? = some (Obj.cells cs t fr) → W'.heap[k]? = some (Obj.cells cs t fr)
theorem KeepT.refl (W : World) : KeepT W W := fun _ _ _ _ _ h => h
theorem KeepT.trans {A B C : World} (h : KeepT A B) (k : KeepT B C) : KeepT A C := fun i cs t fr ht hi => k i cs t fr ht (h i cs t fr ht hi)
theorem KeepT.below {W W' : World} (h : Below W.heap.size W W') : KeepT W W' := fun k _ _ _ _ hk => (h.block k (Array.getElem?_eq_some_iff.1 hk).1).trans hk
/-- What an append of bytes to a row of the call's own leaves. -/
def AppPost (B n : Nat) (xs : List UInt8) (w : World) (e : Ending) (w' : World) : Prop :=
  ∃ v, e = .returned v ∧ w'.ownsRow B 5 1 v n (xs.map u8v) ∧ Below B w w' ∧ KeepT w w'
theorem app_keep {B n size : Nat} {v : Value} {xs : List Value} {w w' : World} {o : Obj} (hown : w.ownsRow B 5 size v n xs) (h2 : (w.alloc o).grownBy w' v.ownBlock) : KeepT w w' := by
  intro k cs t fr ht hk
  have hlt := (Array.getElem?_eq_some_iff.1 hk).1
  refine (h2.block k (by simp; omega) ?_).trans ((Below.heap_alloc w o k hlt).trans hk)
  rcases hown.2 with ⟨rfl, _⟩ | ⟨g, cap, cur, rfl, _, hgb, _⟩
  · simp [Value.ownBlock]
  · intro e'
    obtain rfl : k = g := by simpa [Value.ownBlock] using e'
    rw [hk] at hgb; cases hgb; exact ht rfl
theorem new_cells_at (w : World) (b : Nat) (hb : b = w.heap.size) (l : List UInt8) (j : Nat) (u : Value) (h : (l.map u8v)[j]? = some u) :
    (w.alloc (.cells (l.map u8v).toArray 5)).cell? ((⟨b, 0, none⟩ : Addr).add j) = some u := by
  subst hb
  have e : ((⟨w.heap.size, 0, none⟩ : Addr).add j) = ⟨w.heap.size, j, none⟩ := by unfold Addr.add; split <;> simp_all
  rw [e, World.cell?_alloc_at _ _ _ _ rfl]
  simpa using h
theorem app_post {B n m : Nat} {v v' : Value} {xs ys : List UInt8} {w w' : World} {o : Obj} (hown : w.ownsRow B 5 1 v n (xs.map u8v)) (hB : B ≤ w.heap.size)
    (h1 : w'.ownsRow B 5 1 v' (n + m) (xs.map u8v ++ ys.map u8v)) (h2 : (w.alloc o).grownBy w' v.ownBlock) : AppPost B (n + m) (xs ++ ys) w (.returned v') w' := by
  refine ⟨v', rfl, by rw [List.map_append]; exact h1, ?_, app_keep hown h2⟩
  refine ((Below.refl B w).alloc hB o).grown h2 (by simp; omega) ?_
  intro k hk
  rcases hown.2 with ⟨rfl, _⟩ | ⟨g, cap, cur, rfl, hg, _⟩
  · cases hk
  · simp [Value.ownBlock] at hk; omega
theorem app_post_drew {B n m : Nat} {v v' : Value} {xs ys : List UInt8} {w w' : World} {o : Obj} (hown : w.ownsRow B 5 1 v n (xs.map u8v)) (hB : B ≤ w.heap.size)
    (h1 : w'.ownsRow B 5 1 v' (n + m) (xs.map u8v ++ ys.map u8v)) (h2 : (w.alloc o).drew.grownBy w' v.ownBlock) : AppPost B (n + m) (xs ++ ys) w.drew (.returned v') w' :=
  app_post (w := w.drew) (o := o) hown hB h1 ⟨h2.os, h2.tape, h2.output, h2.size, h2.block⟩
theorem AppPost.trans {B n : Nat} {xs : List UInt8} {w w1 w' : World} {e : Ending} (hb : Below B w w1) (hk : KeepT w w1) (h : AppPost B n xs w1 e w') : AppPost B n xs w e w' := by
  obtain ⟨v, a, b, c, d⟩ := h
  exact ⟨v, a, b, hb.trans c, hk.trans d⟩
theorem step_append_own {P : Program} {ops : Array Oper} {o : Oper} {a : Act} (w : World) {K : Act → World → Prop} {Q : Exit → Act → World → Prop} {E : Prop} (hgd : o.guard = none) (s x : Operand) (t : TypeId)
    (ho : o.op = .call { callee := .builtin .append, args := #[s, x], argTypes := #[t, t] })
    (base : Nat) (e : TypeId) (i : TypeInfo) (z : Value) (size bytes : Nat) (ht : P.underlying t = some (.slice e)) (hi : P.info? e = some i) (hz : i.zero = some z)
    (hsize : i.size = size) (hby : i.bytes = bytes) (hzs : z.cells.size = size) (hsz : 0 < size)
    (v : Value) (n : Nat) (xs : List Value) (hs : a.eval s = v) (hown : w.ownsRow base e size v n xs)
    (ad : Addr) (m c : Nat) (news : List Value) (hx : a.eval x = .slice (some ad) m c) (hl : news.length = m * size) (hnews : ∀ j u, news[j]? = some u → w.cell? (ad.add j) = some u) (h1 : ∀ u ∈ news, u.oneCell' = true)
    (h63 : n + m ≤ maxLen) (hbytes : (n + m) * bytes ≤ 140737488355328) (hbase : base ≤ w.heap.size)
    (h : ∀ v' w', w'.ownsRow base e size v' (n + m) (xs ++ news) → w.grownBy w' v.ownBlock → (v' = .slice none 0 0 ↔ v = .slice none 0 0 ∧ m = 0) → K (a.put o.dst v') w') :
    if Region.wanted o (yielded ops a.tmps) = true then Oper.wp P o a w K Q else E := by
  have hw : Region.wanted o (yielded ops a.tmps) = true := by simp [Region.wanted, hgd]
  rw [if_pos hw]
  exact wp_append_own w s x t ho base e i z size bytes ht hi hz hsize hby hzs hsz v n xs hs hown ad m c news hx hl hnews h1 h63 hbytes hbase h
abbrev hexS : ByteArray := ⟨#[48, 49, 50, 51, 52, 53, 54, 55, 56, 57, 97, 98, 99, 100, 101, 102]⟩
theorem hx0 (w : World) : (Instr.index 9 (.string hexS) (.int .u8 0)).run Try.prog w = .ok (.int .u8 (hexAt 0).toNat) w := by kernel_rfl
theorem hx1 (w : World) : (Instr.index 9 (.string hexS) (.int .u8 1)).run Try.prog w = .ok (.int .u8 (hexAt 1).toNat) w := by kernel_rfl
theorem hx2 (w : World) : (Instr.index 9 (.string hexS) (.int .u8 2)).run Try.prog w = .ok (.int .u8 (hexAt 2).toNat) w := by kernel_rfl
theorem hx3 (w : World) : (Instr.index 9 (.string hexS) (.int .u8 3)).run Try.prog w = .ok (.int .u8 (hexAt 3).toNat) w := by kernel_rfl
theorem hx4 (w : World) : (Instr.index 9 (.string hexS) (.int .u8 4)).run Try.prog w = .ok (.int .u8 (hexAt 4).toNat) w := by kernel_rfl
theorem hx5 (w : World) : (Instr.index 9 (.string hexS) (.int .u8 5)).run Try.prog w = .ok (.int .u8 (hexAt 5).toNat) w := by kernel_rfl
theorem hx6 (w : World) : (Instr.index 9 (.string hexS) (.int .u8 6)).run Try.prog w = .ok (.int .u8 (hexAt 6).toNat) w := by kernel_rfl
theorem hx7 (w : World) : (Instr.index 9 (.string hexS) (.int .u8 7)).run Try.prog w = .ok (.int .u8 (hexAt 7).toNat) w := by kernel_rfl
theorem hx8 (w : World) : (Instr.index 9 (.string hexS) (.int .u8 8)).run Try.prog w = .ok (.int .u8 (hexAt 8).toNat) w := by kernel_rfl
theorem hx9 (w : World) : (Instr.index 9 (.string hexS) (.int .u8 9)).run Try.prog w = .ok (.int .u8 (hexAt 9).toNat) w := by kernel_rfl
theorem hx10 (w : World) : (Instr.index 9 (.string hexS) (.int .u8 10)).run Try.prog w = .ok (.int .u8 (hexAt 10).toNat) w := by kernel_rfl
theorem hx11 (w : World) : (Instr.index 9 (.string hexS) (.int .u8 11)).run Try.prog w = .ok (.int .u8 (hexAt 11).toNat) w := by kernel_rfl
theorem hx12 (w : World) : (Instr.index 9 (.string hexS) (.int .u8 12)).run Try.prog w = .ok (.int .u8 (hexAt 12).toNat) w := by kernel_rfl
theorem hx13 (w : World) : (Instr.index 9 (.string hexS) (.int .u8 13)).run Try.prog w = .ok (.int .u8 (hexAt 13).toNat) w := by kernel_rfl
theorem hx14 (w : World) : (Instr.index 9 (.string hexS) (.int .u8 14)).run Try.prog w = .ok (.int .u8 (hexAt 14).toNat) w := by kernel_rfl
theorem hx15 (w : World) : (Instr.index 9 (.string hexS) (.int .u8 15)).run Try.prog w = .ok (.int .u8 (hexAt 15).toNat) w := by kernel_rfl
theorem hexIx (x : Int) (k : Nat) (hk : k < 16) (e : x = k) (w : World) : (Instr.index 9 (.string hexS) (.int .u8 x)).run Try.prog w = .ok (.int .u8 (hexAt k).toNat) w := by
  subst e
  match k, hk with
  | 0, _ => exact hx0 w
  | 1, _ => exact hx1 w
  | 2, _ => exact hx2 w
  | 3, _ => exact hx3 w
  | 4, _ => exact hx4 w
  | 5, _ => exact hx5 w
  | 6, _ => exact hx6 w
  | 7, _ => exact hx7 w
  | 8, _ => exact hx8 w
  | 9, _ => exact hx9 w
  | 10, _ => exact hx10 w
  | 11, _ => exact hx11 w
  | 12, _ => exact hx12 w
  | 13, _ => exact hx13 w
  | 14, _ => exact hx14 w
  | 15, _ => exact hx15 w
  | _ + 16, h => exact absurd h (by omega)
theorem and15 (c : Nat) (h : c < 256) : bits BinOp.and IntKind.u8 (c : Int) 15 = ((c % 16 : Nat) : Int) := by
  have := u8_and_nat c 15 h (by decide)
  rw [show ((15 : Nat) : Int) = 15 from rfl] at this
  rw [this, show (15 : Nat) = 2 ^ 4 - 1 from rfl, Nat.and_two_pow_sub_one_eq_mod]
set_option maxHeartbeats 800000 in
set_option maxRecDepth 100000 in
theorem appB_any (B n : Nat) (v : Value) (xs : List UInt8) (c : Nat) (w : World) (hc : c < 256) (hown : w.ownsRow B 5 1 v n (xs.map u8v)) (hB : B ≤ w.heap.size) (hn : n ≤ 1000000000) :
    Calls Try.prog 53 #[v, .int .u8 (c : Int)] w (AppPost B (n + (textB c).length) (xs ++ textB c) w) := by
  obtain ⟨i0, hi, hz0, hz1, hz2⟩ := info_parts info_u8
  have hcu : ((UInt8.ofNat c).toNat : Int) = (c : Int) := by rw [ofNat_lt hc]
  have IM := fun w => isMark_any c w hc
  have IP := fun w => isPlain_any c w
  rcases hm : markB c with _ | _
  · rcases hp : plainB c with _ | _
    · have e : textB c = [92, 120, hexAt (c / 16), hexAt (c % 16)] := by unfold textB; rw [if_neg (by simp [hm]), if_neg (by simp [hp])]
      simp only [hm] at IM
      simp only [hp] at IP
      have IM := Lib.hid IM
      have IP := Lib.hid IP
      rw [e]
      have hx1 := fun w => hexIx ((c : Int) / 16) (c / 16) (by omega) (by omega) w
      have hx2 := fun w => hexIx (bits BinOp.and IntKind.u8 (c : Int) 15) (c % 16) (by omega) (and15 c hc) w
      clear hcu
      go_enter Try.func53, Try.ntmps53
      go_wp2_with (first
        | (go_at_call 55; refine (IM.out _).mono ?_; rintro e w2 ⟨rfl, rfl⟩)
        | (go_at_call 56; refine (IP.out _).mono ?_; rintro e w2 ⟨rfl, rfl⟩))
      go_region_law (refine step_append_own _ rfl _ _ 22 rfl B 5 i0 (.int .u8 0) 1 1 Try.underlying22 hi hz0 hz1 hz2 rfl (by decide) _ n _ rfl ((hown.alloc _)) ⟨w.heap.size, 0, none⟩ 4 4 ([92, 120, hexAt (c / 16), hexAt (c % 16)].map u8v) rfl rfl (new_cells_at _ w.heap.size (by simp) [92, 120, hexAt (c / 16), hexAt (c % 16)]) (u8v_one _) (by simp [maxLen]; omega) (by simp; omega) (by simp; omega) ?_; intro v' w' hown' hgrow _)
      all_goals go_wp2_with fail
      all_goals go_ret
      all_goals
        exact AppPost.trans ((Below.refl B w).drew) (fun _ _ _ _ _ h => h) (app_post_drew (ys := [92, 120, hexAt (c / 16), hexAt (c % 16)]) (m := 4) hown (by omega) hown' hgrow)
    · have e : textB c = [UInt8.ofNat c] := by unfold textB; rw [if_neg (by simp [hm]), if_pos hp]
      simp only [hm] at IM
      simp only [hp] at IP
      have IM := Lib.hid IM
      have IP := Lib.hid IP
      rw [e]
      rw [← hcu] at IM IP ⊢
      clear hcu
      go_enter Try.func53, Try.ntmps53
      go_wp2_with (first
        | (go_at_call 55; refine (IM.out _).mono ?_; rintro e w2 ⟨rfl, rfl⟩)
        | (go_at_call 56; refine (IP.out _).mono ?_; rintro e w2 ⟨rfl, rfl⟩)
        | (at_builtin; refine wpList_append_own _ rfl _ _ 22 rfl _ 5 i0 (.int .u8 0) 1 1 Try.underlying22 hi hz0 hz1 hz2 rfl (by decide) _ n _ rfl (hown.alloc _) ⟨w.heap.size, 0, none⟩ ([UInt8.ofNat c]).length ([UInt8.ofNat c]).length (([UInt8.ofNat c]).map u8v) rfl rfl (new_cells_at _ w.heap.size (by simp) [UInt8.ofNat c]) (u8v_one _) ?c3 ?c4 ?c5 ?_)
        )
      case c3 => simp [maxLen]; omega
      case c4 => simp; omega
      case c5 => simp; omega
      intro v' w' hown' hgrow _
      go_wp2
      go_ret
      exact app_post hown hB hown' hgrow
  · have e : textB c = [92, UInt8.ofNat c] := by unfold textB; rw [if_pos hm]
    simp only [hm] at IM
    have IM := Lib.hid IM
    rw [e]
    rw [← hcu] at IM ⊢
    clear hcu IP
    go_enter Try.func53, Try.ntmps53
    go_wp2_with (first
      | (go_at_call 55; refine (IM.out _).mono ?_; rintro e w2 ⟨rfl, rfl⟩)
        | (at_builtin; refine wpList_append_own _ rfl _ _ 22 rfl _ 5 i0 (.int .u8 0) 1 1 Try.underlying22 hi hz0 hz1 hz2 rfl (by decide) _ n _ rfl (hown.alloc _) ⟨w.heap.size, 0, none⟩ ([92, UInt8.ofNat c]).length ([92, UInt8.ofNat c]).length (([92, UInt8.ofNat c]).map u8v) rfl rfl (new_cells_at _ w.heap.size (by simp) [92, UInt8.ofNat c]) (u8v_one _) ?c3 ?c4 ?c5 ?_)
      )
    case c3 => simp [maxLen]; omega
    case c4 => simp; omega
    case c5 => simp; omega
    intro v' w' hown' hgrow _
    go_wp2
    go_ret
    exact app_post hown hB hown' hgrow
end Go.Proofs.Ytedbhjladpfafaa
