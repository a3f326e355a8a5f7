/- Digest of both. -/
import Derived.Test.YtihhgnjkmhdpmaaGreatDoorA
namespace Go.Proofs.YtihhgnjkmhdpmaaGreatDoor
open Go.RowKit
/-- One round of a digest. -/
def rndI (d b : Int) : Int := IntKind.u64.wrap (bits .xor .u64 d b * 1099511628211)
theorem rndI_def (d b : Int) : IntKind.u64.wrap (bits .xor .u64 d b * 1099511628211) = rndI d b := rfl
/-- The rounds of an address, and what is left of it. -/
def digR (d a : Int) : Nat → Int × Int
  | 0 => (d, a)
  | j + 1 => (rndI (digR d a j).1 ((digR d a j).2 % 256), (digR d a j).2 / 256)
theorem digR_succ (d a : Int) (j : Nat) : digR d a (j + 1) = (rndI (digR d a j).1 ((digR d a j).2 % 256), (digR d a j).2 / 256) := rfl
def digE (d : Int) (x : Ev) : Int := (digR (rndI d (x.1 % 256)) (x.2 % 4294967296) 4).1
def digL : Int → List Ev → Int
  | d, [] => d
  | d, x :: r => digL (digE d x) r
/-- What Digest returns. -/
def digP (l : List Ev) : Int := digL 14695981039346656037 l
theorem dig_step {d : Int} {l : List Ev} {k : Nat} {x : Ev} (h : l[k]? = some x) : digL d (l.drop k) = digL (digE d x) (l.drop (k + 1)) := by rw [drop_at h, digL]
theorem dig_end {d : Int} {l : List Ev} {k : Nat} (h : l.length ≤ k) : digL d (l.drop k) = d := by rw [drop_end h, digL]
attribute [irreducible] rndI
def DgPost (w : World) (r : Int) (e : Ending) (w' : World) : Prop := e = .returned (.int .u64 r) ∧ Below w.heap.size w w'
set_option maxRecDepth 100000 in
theorem digest_any (v : Value) (l : List Ev) (w : World) (hv : TR w v l) (hl : l.length ≤ 100000000) :
    Calls Tryz.prog 15 #[v] w (DgPost w (digP l)) := by
  obtain ⟨ho, p, c, rfl, _, hx⟩ := hv
  have HX := Lib.hid hx
  obtain ⟨n, hn⟩ : ∃ n, n = l.length := ⟨_, rfl⟩
  rw [← hn] at hl ⊢
  have HN := Lib.hid hn
  clear ho hx hn
  go_enter Tryz.func15, Tryz.ntmps15
  go_wp2
  go_loopw [3, 5, 6, 9, 23] (fun d _ _ i _ wr => ∃ (k : Nat) (D : Int), k ≤ n ∧ i = .int .i64 (k : Int) ∧ d = .int .u64 D ∧ Hid (digP l = digL D (l.drop k)) ∧ Below w.heap.size w wr) (fun _ _ _ i _ _ => n - (intOf i).toNat)
  case atStart => exact ⟨0, _, Nat.zero_le _, rfl, rfl, Lib.hid rfl, Below.refl _ _⟩
  case round =>
    obtain ⟨k, d, hk, rfl, rfl, hd, hb⟩ := hrel
    by_cases hlt : k < n
    · have tl : decide ((k : Int) < (n : Int)) = true := decide_eq_true (by omega)
      obtain ⟨x, hxk⟩ : ∃ x, l[k]? = some x := ⟨_, List.getElem?_eq_getElem (by rw [← HN.out]; exact hlt)⟩
      obtain ⟨b, o, rfl, hbl, c1, c2⟩ := HX.out k x hxk
      replace c1 := (hb.cell (p := ⟨b, o + k * 2, none⟩) hbl).trans c1
      replace c2 := (hb.cell (p := ⟨b, o + k * 2 + 1, none⟩) hbl).trans c2
      have E := Lib.hid (dig_step (d := d) hxk)
      have EX := Lib.hid (show digE d x = (digR (rndI d (x.1 % 256)) (x.2 % 4294967296) 4).1 from rfl)
      obtain ⟨y, z⟩ := x
      simp only at c1 c2 EX
      have R1 := rndI_def d (y % 256)
      obtain ⟨d0, hd0⟩ : ∃ d0, d0 = rndI d (y % 256) := ⟨_, rfl⟩
      rw [← hd0] at R1 EX
      clear hd0 hxk
      go_wp2
      clear R1
      go_loopw [3, 6, 23] (fun d' a i wr' => ∃ j : Nat, j ≤ 4 ∧ i = .int .i64 (j : Int) ∧ d' = .int .u64 (digR d0 (z % 4294967296) j).1 ∧ a = .int .u32 (digR d0 (z % 4294967296) j).2 ∧ Below w.heap.size w wr') (fun _ _ i _ => 4 - (intOf i).toNat)
      case atStart => exact ⟨0, by omega, rfl, rfl, rfl, hb.alloc hb.size _⟩
      case round =>
        obtain ⟨j, hj, rfl, rfl, rfl, hb2⟩ := hrel
        by_cases hj4 : j < 4
        · have tj : decide ((j : Int) < 4) = true := decide_eq_true (by omega)
          have S := Lib.hid (digR_succ d0 (z % 4294967296) j)
          generalize (digR d0 (z % 4294967296) j).1 = d2 at *
          generalize (digR d0 (z % 4294967296) j).2 = a2 at *
          have R2 := rndI_def d2 (a2 % 256)
          go_wp2
          go_roundw
          case rel => exact ⟨j + 1, by omega, by go_num, by rw [S.out], by rw [S.out], hb2⟩
          case measure => simp [intOf]; omega
        · have tj : decide ((j : Int) < 4) = false := decide_eq_false (by omega)
          obtain rfl : j = 4 := by omega
          rw [← EX.out]
          generalize (digR d0 (z % 4294967296) 4).2 = a2 at *
          go_wp2
          go_roundw
          case rel => exact ⟨k + 1, _, by omega, by go_num, rfl, Lib.hid (by rw [hd.out, E.out]), hb2⟩
          case measure => simp [intOf]; omega
    · have tl : decide ((k : Int) < (n : Int)) = false := decide_eq_false (by omega)
      have E := Lib.hid (dig_end (d := d) (l := l) (k := k) (by rw [← HN.out]; omega))
      go_wp2
      go_ret
      exact ⟨by rw [hd.out, E.out]; rfl, hb⟩
theorem digR_nn {d a : Int} (h : 0 ≤ a) : ∀ j, 0 ≤ (digR d a j).2
  | 0 => h
  | j + 1 => by rw [digR_succ]; exact Int.ediv_nonneg (digR_nn h j) (by omega)
end Go.Proofs.YtihhgnjkmhdpmaaGreatDoor
