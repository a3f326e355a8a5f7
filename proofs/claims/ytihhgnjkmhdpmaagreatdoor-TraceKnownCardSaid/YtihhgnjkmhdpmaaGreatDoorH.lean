/- Count of both: a range over the map that counts made. -/
import Derived.Test.YtihhgnjkmhdpmaaGreatDoorG
namespace Go.Proofs.YtihhgnjkmhdpmaaGreatDoor
open Go.RowKit
/-- How many steps of a trace are such, and no longer to come. -/
noncomputable def cntL (g : Ev → Bool) (left : Lit → Bool) : List Ev → Nat
  | [] => 0
  | x :: r => cntL g left r + (if g x = true ∧ left (klE x) = false then 1 else 0)
def cntG (g : Ev → Bool) : List Ev → Nat
  | [] => 0
  | x :: r => cntG g r + (if g x = true then 1 else 0)
theorem cntL_start (g : Ev → Bool) (left : Lit → Bool) : ∀ l : List Ev, (∀ x ∈ l, left (klE x) = true) → cntL g left l = 0
  | [], _ => rfl
  | x :: r, h => by
    rw [cntL, cntL_start g left r (fun y hy => h y (by simp [hy])), if_neg]
    rw [h x (by simp)]; simp
theorem cntL_end (g : Ev → Bool) (left : Lit → Bool) (h : ∀ kl, left kl = false) : ∀ l : List Ev, cntL g left l = cntG g l
  | [] => rfl
  | x :: r => by
    rw [cntL, cntG, cntL_end g left h r]
    by_cases e : g x = true
    · rw [if_pos ⟨e, h _⟩, if_pos e]
    · rw [if_neg (fun k => e k.1), if_neg e]
set_option maxRecDepth 100000 in
theorem cntL_step (g : Ev → Bool) (left : Lit → Bool) {s : Ev} (hs : okE s) (hl : left (klE s) = true) : ∀ l : List Ev, (∀ x ∈ l, okE x) →
    cntL g (fun z => left z && !z.sameKey (klE s)) l = cntL g left l + (if g s = true then occ s l else 0)
  | [], _ => by simp [cntL, occ]
  | x :: r, h => by
    rw [cntL, cntL, occ, cntL_step g left hs hl r (fun y hy => h y (by simp [hy]))]
    by_cases e : x = s
    · subst e
      rw [WideAt.sameKey_self (kl_keyP klaw (klE_eq hs)), hl]
      by_cases e2 : g x = true
      · simp [e2]; omega
      · simp [e2]
    · rw [Maps.sameKey_ne (fun k => e (klE_inj (h x (by simp)) hs k)), if_neg e]
      simp
      by_cases e2 : g x = true ∧ left (klE x) = false
      · rw [if_pos e2]; omega
      · rw [if_neg e2]; omega
theorem cntL_le (g : Ev → Bool) (left : Lit → Bool) : ∀ l : List Ev, cntL g left l ≤ l.length
  | [] => Nat.le_refl _
  | x :: r => by have := cntL_le g left r; rw [cntL]; split <;> simp <;> omega
theorem cntG_kind (kind : Int) : ∀ l : List Ev, cntG (fun x => x.1 == kind) l = cntK kind l
  | [] => rfl
  | x :: r => by rw [cntG, cntK, cntG_kind kind r]; simp
theorem invI {v : Value} {y : Dm × List MemPlace} (h : plainElem Tryz.prog 3 v = some y) : ∃ c, v = Value.int .i64 c := by
  obtain ⟨c, e, _⟩ := plainElem_int_inv Tryz.underlying3 h
  exact ⟨c, e⟩
theorem keyed : Maps.Keyed Tryz.prog 39 := Maps.Keyed.of_law klaw
/-- What the step of a range gives. -/
theorem next_what {D : Dm} {l : List Ev} {key : Value} {kl : Lit} {c : Int} {y : Dm × List MemPlace} (hc : Cnt D l) (ho : ∀ x ∈ l, okE x) (hkey : keyOf Tryz.prog 39 key = some kl) (hs : ∃ x ∈ l, klE x = kl)
    (hv : plainElem Tryz.prog 3 (Value.int .i64 c) = some y) (hat : ∀ zd, D.atKey kl zd = y.1) : ∃ s ∈ l, key = evV s ∧ kl = klE s ∧ c = ((occ s l : Nat) : Int) := by
  obtain ⟨s, hs, e⟩ := hs
  have e1 : key = evV s := kl_injP klaw hkey (klE_eq (ho s hs)) e.symm
  obtain ⟨c', e2, e3, _⟩ := plainElem_int_inv Tryz.underlying3 hv
  cases e2
  refine ⟨s, hs, e1, e.symm, ?_⟩
  have := hc.at_ s (ho s hs)
  rw [e, hat, e3] at this
  simpa using this
def countE (kind : Int) : Int := if kindB kind = true then 0 else 2
def countN (l : List Ev) (kind : Int) : Int := if kindB kind = true then (cntK kind l : Nat) else 0
def CtPost (w : World) (l : List Ev) (kind : Int) (e : Ending) (w' : World) : Prop := e = .returned (.tuple #[.int .i64 (countN l kind), .int .i64 (countE kind)]) ∧ Below w.heap.size w w'
set_option maxHeartbeats 800000 in
set_option maxRecDepth 100000 in
theorem count_any (v : Value) (l : List Ev) (kind : Int) (w : World) (hv : TR w v l) (hl : l.length ≤ 100000000) : Calls Tryz.prog 17 #[v, .int .i64 kind] w (CtPost w l kind) := by
  have IK := Lib.hid (fun W => kind_any kind W)
  by_cases hk : kindB kind = true
  · have E := Lib.hid (show countE kind = 0 by unfold countE; rw [if_pos hk])
    have R := Lib.hid (show countN l kind = (cntK kind l : Nat) by unfold countN; rw [if_pos hk])
    rw [hk] at IK
    have HC := Lib.hid (counts_any v l w hv hl)
    have HO := Lib.hid hv.1
    have HLL := Lib.hid hl
    clear hk hv hl
    go_enter Tryz.func17, Tryz.ntmps17
    go_wp2_with (first
      | (go_at_call 35; refine (IK.out _).mono ?_; rintro e w' ⟨rfl, rfl⟩)
      | (go_at_call 36; refine HC.out.mono ?_; rintro e w' ⟨B, D, rfl, hB, hown, hcnt, hb⟩; have HCN := Lib.hid hcnt; clear hcnt)
      | (at_range; refine wpList_range_own _ rfl _ 79 rfl 39 3 keyed Tryz.underlying79 _ B l.length D rfl hown ?_; intro w0 hrg0 hg0 hs0))
    go_frame
    have hb0 : Below w.heap.size w w0 := hb.grown hg0 hb.size (fun j e => by cases e)
    have hw' := hb.size
    go_loopw [6, 7, 8] (fun s _ _ wr => ∃ (left : Lit → Bool) (cnt : Nat), wr.ranges Tryz.prog 39 (plainElem Tryz.prog 3) B w'.heap.size l.length D left cnt ∧ s = .int .i64 ((cntL (fun x => x.1 == kind) left l : Nat) : Int) ∧ Hid (∀ kl, left kl = true → Maps.has D kl = true) ∧ Below w.heap.size w wr)
      (fun _ _ _ wr => wr.rangeLeft B w'.heap.size)
    case atStart => exact ⟨_, _, hrg0, by rw [cntL_start _ _ _ (fun x hx => HCN.out.all x hx)]; rfl, Lib.hid (fun _ h => h), hb0⟩
    case round =>
      clear hrg0 hg0 hs0 hb0 hb hown
      obtain ⟨left, cnt, hrg, rfl, hlf, hbr⟩ := hrel
      have HS := Lib.hid (cntL_le (fun x => x.1 == kind) left l)
      go_wp2_with (at_next; refine wpList_next_ranges _ rfl _ rfl 39 keyed (plainElem Tryz.prog 3) (fun v : Value => v) (Value.int .i64) (fun key kl _ => ⟨key, rfl⟩) (fun v y h => invI h) B w'.heap.size l.length D left cnt rfl hrg ?_ ?_)
      · intro hc0 hl0
        have HE := Lib.hid (cntL_end (fun x => x.1 == kind) left hl0 l)
        clear hc0 hl0
        go_wp2
        go_ret2
        exact ⟨by rw [E.out, R.out, HE.out, cntG_kind]; rfl, hbr⟩
      · intro key c kl y yp w1 cnt1 hkey hlx hy hat hrg1 hlt hg1 hs1 hen
        obtain ⟨s, hsl, rfl, rfl, rfl⟩ := next_what HCN.out HO.out hkey (HCN.out.has _ (hlf.out _ hlx)) hy hat
        have hok := HO.out s hsl
        obtain ⟨⟨k1, k2⟩, k3, k4⟩ := hok
        have ST := Lib.hid (cntL_step (fun x => x.1 == kind) left (HO.out s hsl) hlx l HO.out)
        have LF := Lib.hid (show ∀ z, (left z && !z.sameKey (klE s)) = true → Maps.has D z = true from fun z hz => hlf.out z (by simp at hz; exact hz.1))
        have hb1 : Below w.heap.size w w1 := hbr.grown hg1 hbr.size (fun j e => by cases e; exact hw')
        have HM := Lib.hid (show w1.rangeLeft B w'.heap.size < wr.rangeLeft B w'.heap.size by rw [hrg1.left_eq, hrg.left_eq]; exact hlt)
        have hoc := occ_le s l
        have hll := HLL.out
        have hss := HS.out
        have x1 : IntKind.i64.wrap s.1 = s.1 := IntWalk.i64_in _ (by omega)
        have HR := Lib.hid (fun o : Obj => (⟨hrg1.alloc o, hb1.alloc hb1.size o⟩ : _ ∧ _))
        have HRL := Lib.hid (fun o : Obj => (show (w1.alloc o).rangeLeft B w'.heap.size < wr.rangeLeft B w'.heap.size by rw [(hrg1.alloc o).left_eq, hrg.left_eq]; exact hlt))
        unfold evV at hen
        simp only [evV]
        generalize cntL (fun x => x.1 == kind) left l = S at *
        generalize occ s l = m at *
        clear hrg hrg1 hlt hg1 hs1 hkey hlx hy hat hbr hb1 hsl
        by_cases hks : s.1 = kind
        · have tk : (s.1 == kind) = true := by simp [hks]
          have ST2 := Lib.hid (show cntL (fun x => x.1 == kind) (fun z => left z && !z.sameKey (klE s)) l = S + m by rw [ST.out, if_pos tk])
          have hwr : IntKind.i64.wrap ((S : Int) + (m : Int)) = (S : Int) + (m : Int) := IntWalk.i64_in _ (by omega)
          clear hks
          go_wp2
          go_roundw
          case rel => exact ⟨_, cnt1, (HR.out _).1, by rw [ST2.out]; simp, LF, (HR.out _).2⟩
          case measure => exact HRL.out _
        · have tk : (s.1 == kind) = false := by simpa using hks
          have ST2 := Lib.hid (show cntL (fun x => x.1 == kind) (fun z => left z && !z.sameKey (klE s)) l = S by rw [ST.out, if_neg (by simp [tk])]; rfl)
          clear hks
          go_wp2
          go_roundw
          case rel => exact ⟨_, cnt1, (HR.out _).1, by rw [ST2.out], LF, (HR.out _).2⟩
          case measure => exact HRL.out _
  · have hk : kindB kind = false := by simpa using hk
    rw [hk] at IK
    have E := Lib.hid (show countE kind = 2 by unfold countE; rw [hk]; rfl)
    have R := Lib.hid (show countN l kind = 0 by unfold countN; rw [hk]; rfl)
    clear hk hv
    go_enter Tryz.func17, Tryz.ntmps17
    go_wp2_with (go_at_call 35; refine (IK.out _).mono ?_; rintro e w' ⟨rfl, rfl⟩)
    go_ret2
    exact ⟨by rw [E.out, R.out]; rfl, Below.refl _ _⟩
end Go.Proofs.YtihhgnjkmhdpmaaGreatDoor
