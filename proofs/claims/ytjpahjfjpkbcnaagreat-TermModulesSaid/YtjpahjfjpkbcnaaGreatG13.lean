/- Contracts of the program's functions. -/
import Derived.Test.YtjpahjfjpkbcnaaGreatG09
import Derived.Test.YtjpahjfjpkbcnaaGreatG08
import Derived.Test.YtjpahjfjpkbcnaaGreatG02
import Derived.Test.YtjpahjfjpkbcnaaGreatG11
import Derived.Deep.CutBlock
import Derived.Deep.CutRange
import Derived.Test.YtjpahjfjpkbcnaaGreatG03
import Derived.Test.YtjpahjfjpkbcnaaGreatG05

/- How many of some nodes are left after a type. -/

namespace Go.Proofs.YtjpahjfjpkbcnaaGreat
open Go.Proofs Go.RowKit

mutual
def weighY : Ty → Int → Int
  | .mk _ _ _ ps, left => if left < 1 then -1 else weighsY ps (left - 1)
def weighsY : List Ty → Int → Int
  | [], left => left
  | p :: ps, left => if left < 0 then left else weighsY ps (weighY p left)
end
mutual
theorem weighY_bound : ∀ (p : Ty) (left : Int), -1 ≤ weighY p left ∧ (1 ≤ left → weighY p left ≤ left - 1)
  | .mk _ _ _ ps, left => by
    unfold weighY
    split
    · exact ⟨by omega, fun h => by omega⟩
    · have := weighsY_bound ps (left - 1) (by omega)
      exact ⟨this.1, fun _ => this.2⟩
theorem weighsY_bound : ∀ (ps : List Ty) (left : Int), -1 ≤ left → -1 ≤ weighsY ps left ∧ weighsY ps left ≤ left
  | [], left, h => by unfold weighsY; exact ⟨h, Int.le_refl _⟩
  | p :: ps, left, h => by
    unfold weighsY
    split
    · exact ⟨h, Int.le_refl _⟩
    · have h1 := weighY_bound p left
      have h2 := weighsY_bound ps (weighY p left) h1.1
      refine ⟨h2.1, ?_⟩
      by_cases h3 : 1 ≤ left
      · have := h1.2 h3; omega
      · have h4 : weighY p left = -1 := by
          cases p with
          | mk a b c d => unfold weighY; rw [if_pos (by omega)]
        omega
end
theorem weighsY_neg : ∀ (ps : List Ty) (left : Int), left < 0 → weighsY ps left = left
  | [], left, _ => by unfold weighsY; rfl
  | p :: ps, left, h => by unfold weighsY; rw [if_pos h]

set_option maxHeartbeats 2000000 in
set_option maxRecDepth 100000 in
theorem WeighType_any (p : Ty) : ∀ (left : Int) (v : Value) (w : World), TyAt w.heap.size w p v → -1 ≤ left → left ≤ 1000 →
    Calls Tryz.prog 70 #[v, .int .i64 left] w fun e w' => e = .returned (.int .i64 (weighY p left)) ∧ Below w.heap.size w w' := by
  induction hT : SizeOf.sizeOf p using Nat.strongRecOn generalizing p with
  | _ m ih =>
  subst hT
  intro left v w hv hl0 hl1
  have HIH := Lib.hid ih; clear ih
  cases p with
  | mk op n text parts =>
  unfold TyAt at hv
  obtain ⟨kv, rfl, htx, hk⟩ := hv
  obtain ⟨a, cap, rfl, hcap, hlc, hka⟩ := hk.split
  have hbx := heap_alloc_new w (.cells #[.int .i64 op, .int .i64 n, .string text, .slice a parts.length cap] 39)
  have hb0 := (Below.refl w.heap.size w).alloc (Nat.le_refl _) (.cells #[.int .i64 op, .int .i64 n, .string text, .slice a parts.length cap] 39)
  unfold maxLen at hcap
  by_cases h1 : left < 1
  · have hr : weighY (.mk op n text parts) left = -1 := by unfold weighY; rw [if_pos h1]
    rw [hr]
    clear hr hk hka hbx HIH
    go_enter Tryz.func70, Tryz.ntmps70
    go_wp2
    go_ret
    exact ⟨rfl, hb0⟩
  · have hr : weighY (.mk op n text parts) left = weighsY parts (left - 1) := by conv => lhs; unfold weighY; rw [if_neg h1]
    have HR := Lib.hid hr
    have HKA := Lib.hid hka; have HBX := Lib.hid hbx; have HB0 := Lib.hid hb0
    clear hk hka hbx hb0 hr
    have hw1 : IntKind.i64.wrap (left - 1) = left - 1 := by rw [IntKind.wrap_i64]; omega
    go_enter Tryz.func70, Tryz.ntmps70
    go_wp2
    go_loopw [1, 5] (fun l i wr => ∃ (k : Nat) (left' : Int), k ≤ parts.length ∧ i = .int .i64 k ∧ l = .int .i64 left' ∧ -1 ≤ left' ∧ left' ≤ 1000 ∧ Hid (weighY (.mk op n text parts) left = weighsY (parts.drop k) left') ∧ Below (w.heap.size + 1) (w.alloc (.cells #[.int .i64 op, .int .i64 n, .string text, .slice a parts.length cap] 39)) wr) (fun _ i _ => parts.length - (intOf i).toNat)
    case atStart => exact ⟨0, left - 1, Nat.zero_le _, rfl, (by first | rfl | rw [hw1]), by omega, by omega, HR.out, Below.refl _ _⟩
    case round =>
      obtain ⟨k, left', hk, rfl, rfl, hl0', hl1', HP, hB⟩ := hrel
      have hbx := bget hB HBX.out (by omega)
      obtain ⟨c0, c1, c2, c3⟩ := cells4 hbx
      have hbw : Below w.heap.size w wr := HB0.out.trans (hB.mono (by omega))
      have hsz : w.heap.size + 1 ≤ wr.heap.size := by have := hB.size; simp at this; omega
      by_cases hlt : k < parts.length
      · by_cases hneg : left' < 0
        · have hlt' : (k : Int) < (parts.length : Int) := by omega
          have hneg' : ¬ (0 ≤ left') := by omega
          have hend : weighY (.mk op n text parts) left = left' := by rw [HP.out, weighsY_neg _ _ hneg]
          have HEND := Lib.hid hend; have HBW := Lib.hid hbw
          clear hend hbw hbx
          go_wp2
          go_ret
          exact ⟨ret_int HEND.out.symm, HBW.out⟩
        · have hlt' : (k : Int) < (parts.length : Int) := by omega
          have hneg' : 0 ≤ left' := by omega
          obtain ⟨b, o, rfl, hbn, hps⟩ := HKA.out (by omega)
          obtain ⟨e0, e1, e2, e3, g0, g1, g2, g3, ht⟩ := TysAt.get parts b o hps k hlt
          obtain ⟨oo, nn, tt, ka, kn, kc, rfl, rfl, rfl, rfl⟩ := ht.shape
          have q0 := (hbw.cell (p := ⟨b, _, none⟩) hbn).trans g0
          have q1 := (hbw.cell (p := ⟨b, _, none⟩) hbn).trans g1
          have q2 := (hbw.cell (p := ⟨b, _, none⟩) hbn).trans g2
          have q3 := (hbw.cell (p := ⟨b, _, none⟩) hbn).trans g3
          have hcl := HIH.out _ (kid_ltY k hlt) parts[k] rfl left' _ wr (TyAt.keep hbw hbw.size _ _ ht) hl0' hl1'
          have hnx : weighY (.mk op n text parts) left = weighsY (parts.drop (k + 1)) (weighY parts[k] left') := by
            rw [HP.out, List.drop_eq_getElem_cons hlt]
            conv => lhs; unfold weighsY
            rw [if_neg hneg]
          have hbd := weighY_bound parts[k] left'
          have HC := Lib.hid hcl; have HB := Lib.hid hB; have HNX := Lib.hid hnx; have HBD := Lib.hid hbd
          clear hcl hB hbx hbw g0 g1 g2 g3 ht hps hnx hbd HP
          go_wp2_with fail
          refine HC.out.mono ?_
          rintro e w1 ⟨rfl, hb1⟩
          have HB1 := Lib.hid (HB.out.trans (hb1.mono hsz))
          clear hb1 HC c0 c1 c2 c3 q0 q1 q2 q3
          go_wp2
          go_roundw
          case rel =>
            refine ⟨k + 1, weighY parts[k] left', by omega, by go_num, rfl, HBD.out.1, ?_, HNX.out, HB1.out⟩
            by_cases h : 1 ≤ left'
            · have := HBD.out.2 h; omega
            · have h4 : weighY parts[k] left' = -1 := by
                generalize parts[k] = q
                cases q with
                | mk a b c d => unfold weighY; rw [if_pos (by omega)]
              omega
          case measure => simp [intOf]; omega
      · have hlt' : ¬ ((k : Int) < (parts.length : Int)) := by omega
        have hend : weighY (.mk op n text parts) left = left' := by
          rw [HP.out, List.drop_eq_nil_of_le (by omega)]
          unfold weighsY; rfl
        have HEND := Lib.hid hend; have HBW := Lib.hid hbw
        clear hend hbw hbx
        go_wp2
        go_ret
        exact ⟨ret_int HEND.out.symm, HBW.out⟩

end Go.Proofs.YtjpahjfjpkbcnaaGreat

/- Which types are small. -/

namespace Go.Proofs.YtjpahjfjpkbcnaaGreat
open Go.Proofs Go.RowKit

def Ty.sort : Ty → Int | .mk f _ _ _ => f
def Ty.n : Ty → Int | .mk _ n _ _ => n
def Ty.text : Ty → ByteArray | .mk _ _ t _ => t
def Ty.parts : Ty → List Ty | .mk _ _ _ l => l
theorem TyAt.parts {n₀ : Nat} {w : World} {p : Ty} {v : Value} (h : TyAt n₀ w p v) : ∃ a cap, v = .agg #[.int .i64 p.sort, .int .i64 p.n, .string p.text, .slice a p.parts.length cap] ∧ p.text.size ≤ maxLen := by
  cases p with
  | mk f n t l =>
    unfold TyAt at h
    obtain ⟨kv, h1, h2, h3⟩ := h
    obtain ⟨a, cap, rfl, -⟩ := h3.split
    exact ⟨a, cap, h1, h2⟩

mutual
def smallY : Ty → Bool
  | .mk _ _ t ps => smallsY ps && decide (t.size ≤ 30)
def smallsY : List Ty → Bool
  | [] => true
  | p :: ps => smallY p && smallsY ps
end
theorem smallsY_drop (ps : List Ty) (k : Nat) (h : k < ps.length) : smallsY (ps.drop k) = (smallY ps[k] && smallsY (ps.drop (k + 1))) := by
  rw [List.drop_eq_getElem_cons h]
  conv => lhs; unfold smallsY

set_option maxHeartbeats 2000000 in
set_option maxRecDepth 100000 in
theorem smallType_any (p : Ty) : ∀ (v : Value) (w : World), TyAt w.heap.size w p v →
    Calls Tryz.prog 71 #[v] w fun e w' => e = .returned (.bool (smallY p)) ∧ Below w.heap.size w w' := by
  induction hT : SizeOf.sizeOf p using Nat.strongRecOn generalizing p with
  | _ m ih =>
  subst hT
  intro v w hv
  have HIH := Lib.hid ih; clear ih
  cases p with
  | mk op n text parts =>
  unfold TyAt at hv
  obtain ⟨kv, rfl, htx, hk⟩ := hv
  obtain ⟨a, cap, rfl, hcap, hlc, hka⟩ := hk.split
  have hbx := heap_alloc_new w (.cells #[.int .i64 op, .int .i64 n, .string text, .slice a parts.length cap] 39)
  have hb0 := (Below.refl w.heap.size w).alloc (Nat.le_refl _) (.cells #[.int .i64 op, .int .i64 n, .string text, .slice a parts.length cap] 39)
  unfold maxLen at hcap htx
  have hr : smallY (.mk op n text parts) = (smallsY parts && decide (text.size ≤ 30)) := by conv => lhs; unfold smallY
  have HR := Lib.hid hr
  have HKA := Lib.hid hka; have HBX := Lib.hid hbx; have HB0 := Lib.hid hb0
  clear hk hka hbx hb0 hr
  go_enter Tryz.func71, Tryz.ntmps71
  go_wp2
  go_loopw [3] (fun i wr => ∃ (k : Nat), k ≤ parts.length ∧ i = .int .i64 k ∧ Hid (smallsY parts = smallsY (parts.drop k)) ∧ Below (w.heap.size + 1) (w.alloc (.cells #[.int .i64 op, .int .i64 n, .string text, .slice a parts.length cap] 39)) wr) (fun i _ => parts.length - (intOf i).toNat)
  case atStart => exact ⟨0, Nat.zero_le _, rfl, rfl, Below.refl _ _⟩
  case round =>
    obtain ⟨k, hk, rfl, HP, hB⟩ := hrel
    have hbx := bget hB HBX.out (by omega)
    obtain ⟨c0, c1, c2, c3⟩ := cells4 hbx
    have hbw : Below w.heap.size w wr := HB0.out.trans (hB.mono (by omega))
    have hsz : w.heap.size + 1 ≤ wr.heap.size := by have := hB.size; simp at this; omega
    by_cases hlt : k < parts.length
    · have hlt' : (k : Int) < (parts.length : Int) := by omega
      obtain ⟨b, o, rfl, hbn, hps⟩ := HKA.out (by omega)
      obtain ⟨e0, e1, e2, e3, g0, g1, g2, g3, ht⟩ := TysAt.get parts b o hps k hlt
      obtain ⟨oo, nn, tt, ka, kn, kc, rfl, rfl, rfl, rfl⟩ := ht.shape
      have q0 := (hbw.cell (p := ⟨b, _, none⟩) hbn).trans g0
      have q1 := (hbw.cell (p := ⟨b, _, none⟩) hbn).trans g1
      have q2 := (hbw.cell (p := ⟨b, _, none⟩) hbn).trans g2
      have q3 := (hbw.cell (p := ⟨b, _, none⟩) hbn).trans g3
      have hcl := HIH.out _ (kid_ltY k hlt) parts[k] rfl _ wr (TyAt.keep hbw hbw.size _ _ ht)
      have hd := smallsY_drop parts k hlt
      cases hx : smallY parts[k] with
      | true =>
        rw [hx, Bool.true_and] at hd
        rw [hx] at hcl
        have HC := Lib.hid hcl; have HB := Lib.hid hB; have HD := Lib.hid hd
        clear hcl hB hbx hbw g0 g1 g2 g3 ht hps hd hx
        go_wp2_with fail
        refine HC.out.mono ?_
        rintro e w1 ⟨rfl, hb1⟩
        have HB1 := Lib.hid (HB.out.trans (hb1.mono hsz))
        clear hb1 HC c0 c1 c2 c3 q0 q1 q2 q3
        go_wp2
        go_roundw
        case rel => exact ⟨k + 1, by omega, by go_num, by unfold Hid; rw [HP.out, HD.out], HB1.out⟩
        case measure => simp [intOf]; omega
      | false =>
        rw [hx, Bool.false_and] at hd
        rw [hx] at hcl
        have hend : smallY (.mk op n text parts) = false := by rw [HR.out, HP.out, hd]; rfl
        have HC := Lib.hid hcl; have HBW := Lib.hid hbw; have HEND := Lib.hid hend
        clear hcl hbx hbw g0 g1 g2 g3 ht hps hd hx hend
        go_wp2_with fail
        refine HC.out.mono ?_
        rintro e w1 ⟨rfl, hb1⟩
        have HB1 := Lib.hid (HBW.out.trans (hb1.mono HBW.out.size))
        clear hb1 HC c0 c1 c2 c3 q0 q1 q2 q3
        go_wp2
        go_ret
        exact ⟨ret_bool HEND.out.symm, HB1.out⟩
    · have hlt' : ¬ ((k : Int) < (parts.length : Int)) := by omega
      have hend : smallY (.mk op n text parts) = decide (text.size ≤ 30) := by
        rw [HR.out, HP.out, List.drop_eq_nil_of_le (by omega)]
        unfold smallsY; rfl
      have HEND := Lib.hid hend; have HBW := Lib.hid hbw
      clear hend hbw hbx
      go_wp2
      go_ret
      exact ⟨ret_bool (by rw [HEND.out, Bool.eq_iff_iff]; simp; omega), HBW.out⟩

def SmallTypeB (p : Ty) : Bool := decide (0 ≤ weighY p 16) && smallY p
set_option maxHeartbeats 1000000 in
theorem SmallType_any (p : Ty) (v : Value) (w : World) (hv : TyAt w.heap.size w p v) :
    Calls Tryz.prog 23 #[v] w fun e w' => e = .returned (.bool (SmallTypeB p)) ∧ Below w.heap.size w w' := by
  obtain ⟨a, cap, rfl, -⟩ := hv.parts
  have hb0 := (Below.refl w.heap.size w).alloc (Nat.le_refl _) (.cells #[.int .i64 p.sort, .int .i64 p.n, .string p.text, .slice a p.parts.length cap] 39)
  have hbx := heap_alloc_new w (.cells #[.int .i64 p.sort, .int .i64 p.n, .string p.text, .slice a p.parts.length cap] 39)
  have HV := Lib.hid hv; have HBX := Lib.hid hbx; have HB0 := Lib.hid hb0
  have hc1 := WeighType_any p 16 _ _ (TyAt.keep hb0 hb0.size _ _ hv) (by omega) (by omega)
  have HC1 := Lib.hid hc1
  obtain ⟨c0, c1, c2, c3⟩ := cells4 hbx
  have hs0 := hb0.size
  clear hv hc1 hb0
  by_cases h0 : 0 ≤ weighY p 16
  · have hr : SmallTypeB p = smallY p := by unfold SmallTypeB; rw [decide_eq_true h0, Bool.true_and]
    have HR := Lib.hid hr; clear hr
    go_enter Tryz.func23, Tryz.ntmps23
    go_wp2_with fail
    refine HC1.out.mono ?_
    rintro e w1 ⟨rfl, hb1⟩
    have hbx1 := bget' hb1 hbx
    have HB1 := Lib.hid (HB0.out.trans (hb1.mono hs0))
    have hc2 := smallType_any p _ w1 (TyAt.keep HB1.out HB1.out.size _ _ HV.out)
    have HC2 := Lib.hid hc2
    clear c0 c1 c2 c3 hb1 hc2 hbx
    obtain ⟨c0, c1, c2, c3⟩ := cells4 hbx1
    go_wp2_with fail
    refine HC2.out.mono ?_
    rintro e w2 ⟨rfl, hb2⟩
    go_wp2
    go_ret
    exact ⟨ret_bool HR.out.symm, HB1.out.trans (hb2.mono HB1.out.size)⟩
  · have hr : SmallTypeB p = false := by unfold SmallTypeB; rw [decide_eq_false h0, Bool.false_and]
    have HR := Lib.hid hr; clear hr
    go_enter Tryz.func23, Tryz.ntmps23
    go_wp2_with fail
    refine HC1.out.mono ?_
    rintro e w1 ⟨rfl, hb1⟩
    go_wp2
    go_ret
    exact ⟨ret_bool HR.out.symm, HB0.out.trans (hb1.mono hs0)⟩

end Go.Proofs.YtjpahjfjpkbcnaaGreat

/- CheckType. -/
namespace Go.Proofs.YtjpahjfjpkbcnaaGreat
open Go.Proofs Go.RowKit
attribute [local go_sem] Oper.semAt_some

/-- 'typeFits': a type's node without its Parts. -/
def typeFitB (sort n : Int) (text : ByteArray) (k : Nat) : Bool :=
  if sort = 1 ∨ sort = 2 ∨ sort = 3 then n == 0 && text.toList.isEmpty && decide (k = 0)
  else if sort = 4 then n == 0 && text.toList.isEmpty && decide (k = 2)
  else if sort = 5 ∨ sort = 6 ∨ sort = 7 then n == 0 && text.toList.isEmpty && decide (k = 1)
  else if sort = 8 then n == 0 && greatB text && decide (k = 0)
  else if sort = 9 then (decide (0 ≤ n) && decide (n ≤ 99)) && text.toList.isEmpty && decide (k = 0) else false

set_option maxHeartbeats 4000000 in
set_option maxRecDepth 100000 in
theorem typeFits8_any (n : Int) (text : ByteArray) (ka : Option Addr) (kn kc : Nat) (w : World) :
    Calls Tryz.prog 92 #[.agg #[.int .i64 8, .int .i64 n, .string text, .slice ka kn kc]] w fun e w' => e = .returned (.bool (typeFitB 8 n text kn)) ∧ Below w.heap.size w w' := by
  go_enter Tryz.func92, Tryz.ntmps92
  go_wp2
  go_quiet (fail)
  go_wp2_with fail
  refine (Great_any _ _).mono ?_
  rintro e w1 ⟨rfl, hb1⟩
  have hc1 := (bcell hb1).1
  go_wp2
  all_goals (go_ret; refine ⟨ret_bool ?_, ?_⟩; (first | (simp_all [typeFitB]; done) | (rw [Bool.eq_iff_iff]; simp_all [typeFitB]; try omega)); exact Below.trans (below_drewN ((Below.refl _ _).alloc (Nat.le_refl _) _) _) (hb1.mono (by simp)))

set_option maxHeartbeats 4000000 in
set_option maxRecDepth 100000 in
theorem typeFits_any (sort n : Int) (text : ByteArray) (ka : Option Addr) (kn kc : Nat) (w : World) :
    Calls Tryz.prog 92 #[.agg #[.int .i64 sort, .int .i64 n, .string text, .slice ka kn kc]] w fun e w' => e = .returned (.bool (typeFitB sort n text kn)) ∧ Below w.heap.size w w' := by
  by_cases h8 : sort = 8
  · subst h8; exact typeFits8_any n text ka kn kc w
  have h8' : (sort == 8) = false := by simpa using h8
  clear h8
  go_enter Tryz.func92, Tryz.ntmps92
  go_wp2
  go_quiet (fail)
  go_wp2
  all_goals (go_ret; refine ⟨ret_bool ?_, ?_⟩; (first | (simp_all [typeFitB]; done) | (rw [Bool.eq_iff_iff]; simp_all [typeFitB]; try omega)); exact below_drewN ((Below.refl _ _).alloc (Nat.le_refl _) _) _)

def Ty.fits (T : Ty) : Bool := typeFitB T.sort T.n T.text T.parts.length
def goY : List (Int × Ty) → Nat → Bool
  | [], _ => true
  | x :: xs, n => decide (n + 1 ≤ 12) && x.2.fits && goY xs (n + 1)
def typeB (T : Ty) : Bool := goY (partsY 1 T) 0

set_option maxHeartbeats 4000000 in
set_option maxRecDepth 100000 in
theorem check1Y_any (n₀ : Nat) (p : Ty) (cs : Array Value) (Bp : Nat) (w : World) (hp : TyAt n₀ w p (.agg cs)) (hn : n₀ ≤ w.heap.size) (hB : w.heap[Bp]? = some (.cells cs 39 (0, 0))) (hh : heightY p ≤ 1000) :
    CallsIn Fence.wide 0 Tryz.prog 89 #[.pointer (some ⟨Bp, 0, none⟩)] w fun e w' => AskEnd (typeB p) e ∧ Below w.heap.size w w' := by
  obtain ⟨a, cap, hcs, htx⟩ := hp.parts
  cases hcs
  have hlt : Bp < w.heap.size := (Array.getElem?_eq_some_iff.1 hB).1
  refine calls_of_wpF Tryz.func89 rfl ?_
  simp only [Tryz.ntmps89, List.size_toArray, List.length_cons, List.length_nil, Nat.reduceAdd, Nat.reduceSub, Array.replicate_succ, Array.replicate_zero, List.push_toArray, List.append_toArray, List.nil_append, List.cons_append]
  refine wpF_seq ?_
  intro K hK
  refine wpF_of (n := 0) ?_
  gi_wp2
  have hbW : Below w.heap.size w (w.alloc (.cells #[.int .i64 0] 3)) := (Below.refl _ w).alloc (Nat.le_refl _) _
  have hsW : (w.alloc (.cells #[.int .i64 0] 3)).heap.size = w.heap.size + 1 := by simp
  have hnW : (w.alloc (.cells #[.int .i64 0] 3)).heap[w.heap.size]? = some (.cells #[.int .i64 0] 3 (0, 0)) := heap_alloc_new _ _
  generalize (w.alloc (.cells #[.int .i64 0] 3)) = W at *
  have hBW := bget hbW hB hlt
  obtain ⟨c0, c1, c2, c3⟩ := cells4 hBW
  have HSW := Lib.hid hsW; have HNW := Lib.hid hnW
  clear hsW hnW hBW hB
  refine wpF_seq ?_
  intro K hK
  refine wpF_of (n := 0) ?_
  gi_wp2_with fail
  refine ⟨trivial, rfl, (callsIn_wide.2 (partsY_any W p.sort p.n p.text (.slice a p.parts.length cap))).mono ?_⟩
  rintro e W2 ⟨rfl, hW2⟩
  have hs2 : W2.heap.size = w.heap.size + 3 := by rw [hW2]; simp [HSW.out]
  have hbWW : Below W.heap.size W W2 := by rw [hW2]; exact ((Below.refl _ W).alloc (Nat.le_refl _) _).alloc (by simp) _
  have hb2 : Below w.heap.size w W2 := hbW.trans (hbWW.mono hbW.size)
  have hT2 : W2.heap[W.heap.size]? = some (.cells #[.int .i64 p.sort, .int .i64 p.n, .string p.text, .slice a p.parts.length cap] 39 (0, 0)) := by
    rw [hW2, Below.heap_alloc _ _ _ (by simp)]; exact heap_alloc_new _ _
  have hK2 : W2.heap[W.heap.size + 1]? = some (.cells #[.func (.func 91) #[] #[]] 107 (0, 0)) := by
    rw [hW2]; have := heap_alloc_new (W.alloc (.cells #[.int .i64 p.sort, .int .i64 p.n, .string p.text, .slice a p.parts.length cap] 39)) (.cells #[.func (.func 91) #[] #[]] 107); simpa using this
  have hp2 : TyAt n₀ W2 p (.agg #[.int .i64 p.sort, .int .i64 p.n, .string p.text, .slice a p.parts.length cap]) := TyAt.keep (hb2.mono hn) (Nat.le_refl _) _ _ hp
  clear hW2
  gi_wp2
  refine wpF_block ?_
  refine wpF_range (fn := Tryz.f89) rfl (gf := 126) rfl (enters_of Tryz.func126 (by kernel_rfl) rfl) (w0 := W2) (iterY hp2 (by omega) hT2 hK2 hh) (Below.refl _ _) (fun _ => rfl)
    (fun k => k = w.heap.size) ?hS ?hD
    (fun pre V => ∃ post, segY W2 1 p (.agg #[.int .i64 p.sort, .int .i64 p.n, .string p.text, .slice a p.parts.length cap]) = pre ++ post ∧ Hid (typeB p = goY (post.map fun x => (x.d, x.T)) pre.length) ∧ pre.length ≤ 12 ∧
      V.heap[w.heap.size]? = some (.cells #[.int .i64 pre.length] 3 (0, 0)) ∧ Below n₀ W2 V ∧ Below w.heap.size w V ∧ w.heap.size + 3 ≤ V.heap.size)
    (fun _ _ => False) (fun ch V => ch = gaveUp ∧ Hid (typeB p = false) ∧ Below w.heap.size w V) ?hI ?hIx ?h0 ?hround ?hdone ?hstop ?hpanic
  case hS => have := HSW.out; rintro k rfl; omega
  case hD => have := HSW.out; rintro k (h | rfl | rfl) <;> omega
  case hI =>
    rintro pre V1 V2 ⟨post, h1, h2, h3, h4, h7, h8, h9⟩ hV
    exact ⟨post, h1, h2, h3, bget hV h4 (by omega), h7.trans (hV.mono (by omega)), h8.trans (hV.mono (by omega)), Nat.le_trans h9 hV.size⟩
  case hIx => intro _ _ _ h; exact h.elim
  case h0 =>
    refine ⟨_, (List.nil_append _).symm, ?_, by simp, bget hbWW HNW.out (by have := HSW.out; omega), Below.refl _ _, hb2, by omega⟩
    unfold Hid typeB
    rw [← segY_map W2 p 1 (.agg #[.int .i64 p.sort, .int .i64 p.n, .string p.text, .slice a p.parts.length cap])]
    rfl
  case hstop => intro _ _ _ _ h; exact h.elim
  case hdone =>
    rintro E V hE ⟨post, h1, h2, h3, h4, h7, h8, h9⟩ hV
    have hpn : post = [] := by have := congrArg List.length h1; simp at this; exact this
    subst hpn
    refine leavesM_mark (by simp) hV ?_
    exact ⟨_, results_none rfl _ _ _, .inl ⟨h2.out, _, rfl⟩, h8.trans (below_putObj _ (by omega) _)⟩
  case hpanic =>
    rintro E ch V hE ⟨rfl, h2, h3⟩ hV
    refine leavesM_mark (by simp) hV ?_
    exact ⟨.inr ⟨h2.out, rfl⟩, h3.trans (below_putObj _ (by omega) _)⟩
  case hround =>
    rintro l pre x post V hl hlV hx ⟨post', h1, h2, h3, h4, h7, h8, h9⟩
    obtain rfl : post' = x :: post := List.append_cancel_left (h1.symm.trans hx)
    have hxa := segY_at p _ 1 hp2 x (by rw [h1]; simp)
    obtain ⟨xd, xT, xv⟩ := x
    simp only at hxa
    obtain ⟨xa, xc, rfl, hxt⟩ := hxa.parts
    have hstep : typeB p = (decide (pre.length + 1 ≤ 12) && xT.fits && goY (post.map fun x => (x.d, x.T)) (pre.length + 1)) := h2.out
    have HST := Lib.hid hstep; clear hstep h2
    have HH1 := Lib.hid h1; have H4 := Lib.hid h4
    clear h1 hx h4
    dsimp only [encY]
    simp only [List.zip_toArray, List.zip_cons_cons, List.zip_nil_right, List.foldl_toArray', List.foldl_cons, List.foldl_nil, List.setIfInBounds_toArray, List.set_cons_succ, List.set_cons_zero]
    gi_wp2
    refine ⟨(Below.refl _ _).alloc (Nat.le_refl _) _, fun V2 hk2 => ?_⟩
    have hbox := hk2.get (heap_alloc_new V (.cells #[.int .i64 xT.sort, .int .i64 xT.n, .string xT.text, .slice xa xT.parts.length xc] 39)) (by omega)
    have hN2 := hk2.get (bget' ((Below.refl V.heap.size V).alloc (Nat.le_refl _) (.cells #[.int .i64 xT.sort, .int .i64 xT.n, .string xT.text, .slice xa xT.parts.length xc] 39)) H4.out) (by omega)
    have hB2 : Below w.heap.size V V2 := ((Below.refl w.heap.size V).alloc (by omega) _).trans (hk2.below (by simp; omega) (by rintro k rfl; omega))
    have e0 : (V2.setCell ⟨w.heap.size, 0, none⟩ (.int .i64 (pre.length + 1))).heap[V.heap.size]? = _ := (Below.heap_setCell _ _ _ _ (by simp; omega)).trans hbox
    have en : (V2.setCell ⟨w.heap.size, 0, none⟩ (.int .i64 (pre.length + 1))).heap[w.heap.size]? = _ := one_setCell hN2
    have ek : Kept (fun k => k = w.heap.size) V2 (V2.setCell ⟨w.heap.size, 0, none⟩ (.int .i64 (pre.length + 1))) := .setCell (S := fun k => k = w.heap.size) _ rfl _
    have hVle := hB2.size
    have n0 := cell_of_one hN2
    have n1 := free_of_one hN2
    have n2 := cell_of_one en
    obtain ⟨b0, b1, b2, b3⟩ := cells4 e0
    have hV3 : Below n₀ W2 (V2.setCell ⟨w.heap.size, 0, none⟩ (.int .i64 (pre.length + 1))) := h7.trans ((hB2.mono (by omega)).trans (ek.below (by omega) (by rintro k rfl; omega)))
    have hL3 : Below w.heap.size w (V2.setCell ⟨w.heap.size, 0, none⟩ (.int .i64 (pre.length + 1))) := (h8.trans hB2).trans (ek.below (by omega) (by rintro k rfl; omega))
    have E0 := Lib.hid e0; have EN := Lib.hid en; have EK := Lib.hid ek; have HV3 := Lib.hid hV3; have HL3 := Lib.hid hL3
    clear e0 en ek hbox hN2 hV3 hL3
    have fin : ∀ V4, Below (V2.setCell ⟨w.heap.size, 0, none⟩ (.int .i64 (pre.length + 1))).heap.size (V2.setCell ⟨w.heap.size, 0, none⟩ (.int .i64 (pre.length + 1))) V4 →
        Kept (fun k => k = w.heap.size) V2 V4 ∧ Below w.heap.size w V4 := fun V4 hb =>
      ⟨EK.out.trans (.of_below hb), HL3.out.trans (hb.mono HL3.out.size)⟩
    have FIN := Lib.hid fin; clear fin
    by_cases h12 : pre.length + 1 ≤ 12
    · cases hf1 : typeFitB xT.sort xT.n xT.text xT.parts.length
      · have HF : Hid (typeB p = false) := by unfold Hid; rw [HST.out]; simp [Ty.fits, hf1]
        gi_wp2_with fail
        refine ⟨trivial, rfl, (CallsIn.inRound l (callsIn_wide.2 (typeFits_any _ _ _ _ _ _ _))).mono ?_⟩
        rintro e w1 ⟨rfl, hb1⟩
        rw [hf1]
        have hbA := hb1
        gi_wp2_with fail
        refine ⟨trivial, rfl, (CallsIn.inRound l (callsIn_wide.2 (ask_no _))).mono ?_⟩
        rintro e w9 ⟨rfl, rfl⟩
        gi_wp2
        exact ⟨rfl, (FIN.out _ hbA).1, rfl, HF, (FIN.out _ hbA).2⟩
      · have hst2 : typeB p = goY (post.map fun x => (x.d, x.T)) (pre.length + 1) := by rw [HST.out]; simp [Ty.fits, hf1, h12]
        have HS2 := Lib.hid hst2; clear hst2
        gi_wp2_with fail
        refine ⟨trivial, rfl, (CallsIn.inRound l (callsIn_wide.2 (typeFits_any _ _ _ _ _ _ _))).mono ?_⟩
        rintro e w1 ⟨rfl, hb1⟩
        rw [hf1]
        have hbA := hb1
        gi_wp2_with fail
        refine ⟨trivial, rfl, (CallsIn.inRound l (callsIn_wide.2 (ask_yes _))).mono ?_⟩
        rintro e w9 ⟨rfl, rfl⟩
        gi_wp2
        exact ⟨EK.out.trans (.of_below hbA), post, by rw [HH1.out]; simp, by unfold Hid; rw [HS2.out]; simp, by simp; omega, by rw [bget' hbA EN.out]; simp, HV3.out.trans (hbA.mono (by have := HV3.out.size; omega)), HL3.out.trans (hbA.mono HL3.out.size), by have := hbA.size; have := EK.out.size; omega⟩
    · have HF : Hid (typeB p = false) := by unfold Hid; rw [HST.out]; simp [h12]
      gi_wp2_with fail
      refine ⟨by first | exact trivial | exact fun _ _ => trivial, ?_⟩
      gi_wp2_with fail
      refine ⟨trivial, rfl, (CallsIn.inRound l (callsIn_wide.2 (ask_no _))).mono ?_⟩
      rintro e w9 ⟨rfl, rfl⟩
      gi_wp2
      exact ⟨rfl, (FIN.out _ (Below.refl _ _)).1, rfl, HF, (FIN.out _ (Below.refl _ _)).2⟩

set_option maxHeartbeats 1000000 in
theorem CheckType_any (p : Ty) (v : Value) (w : World) (hp : TyAt w.heap.size w p v) (hh : heightY p ≤ 1000) :
    Calls Tryz.prog 32 #[v] w fun e w' => e = .returned (.int .i64 (errOf (typeB p))) ∧ Below w.heap.size w w' := by
  obtain ⟨a, cap, rfl, htx⟩ := hp.parts
  have hin : ∀ w1, Below (w.alloc (.cells #[.int .i64 p.sort, .int .i64 p.n, .string p.text, .slice a p.parts.length cap] 39)).heap.size (w.alloc (.cells #[.int .i64 p.sort, .int .i64 p.n, .string p.text, .slice a p.parts.length cap] 39)) w1 →
      Calls Tryz.prog 89 #[.pointer (some ⟨w.heap.size, 0, none⟩)] w1 fun e w' => AskEnd (typeB p) e ∧ Below w1.heap.size w1 w' := fun w1 hb =>
    callsIn_wide.1 (check1Y_any w.heap.size p _ w.heap.size w1 (TyAt.keep (((Below.refl _ w).alloc (Nat.le_refl _) _).trans (hb.mono (by simp))) (Nat.le_refl _) _ _ hp) (by have := hb.size; simp at this; omega) (bget' hb (heap_alloc_new w _)) hh)
  cases hb : typeB p
  · have hf := formed_no 89 #[.pointer (some ⟨w.heap.size, 0, none⟩)] (w.alloc (.cells #[.int .i64 p.sort, .int .i64 p.n, .string p.text, .slice a p.parts.length cap] 39)) (enters_of Tryz.func89 (by kernel_rfl) rfl)
      (fun w1 h1 _ => (hin w1 h1).mono fun e w' h => ⟨h.1.no hb, h.2⟩)
    have HF := Lib.hid hf; clear hf hin hb
    go_enter Tryz.func32, Tryz.ntmps32
    go_wp2_with fail
    refine HF.out.mono ?_
    rintro e w2 ⟨rfl, hb2⟩
    go_wp2
    go_ret
    exact ⟨rfl, ((Below.refl _ _).alloc (Nat.le_refl _) _).trans (hb2.mono (by simp))⟩
  · have hf := formed_yes 89 #[.pointer (some ⟨w.heap.size, 0, none⟩)] (w.alloc (.cells #[.int .i64 p.sort, .int .i64 p.n, .string p.text, .slice a p.parts.length cap] 39)) (enters_of Tryz.func89 (by kernel_rfl) rfl)
      (fun w1 h1 _ => (hin w1 h1).mono fun e w' h => ⟨h.1.yes hb, h.2⟩)
    have HF := Lib.hid hf; clear hf hin hb
    go_enter Tryz.func32, Tryz.ntmps32
    go_wp2_with fail
    refine HF.out.mono ?_
    rintro e w2 ⟨rfl, hb2⟩
    go_wp2
    go_ret
    exact ⟨rfl, ((Below.refl _ _).alloc (Nat.le_refl _) _).trans (hb2.mono (by simp))⟩

end Go.Proofs.YtjpahjfjpkbcnaaGreat

/- Which types are formed, by the specification, and the whole ones. -/
namespace Go.Proofs.YtjpahjfjpkbcnaaGreat
open Go.Proofs Go.RowKit

def sortB (hl : Bool) (s n : Int) (t : ByteArray) (k : Nat) : Bool := (hl || !(s == 9)) && typeFitB s n t k
mutual
def sortsB (hl : Bool) : Ty → Bool
  | .mk f n t ps => sortB hl f n t ps.length && sortssB hl ps
def sortssB (hl : Bool) : List Ty → Bool
  | [] => true
  | p :: ps => sortsB hl p && sortssB hl ps
end
theorem sortssB_drop (hl : Bool) (ps : List Ty) (k : Nat) (h : k < ps.length) : sortssB hl (ps.drop k) = (sortsB hl ps[k] && sortssB hl (ps.drop (k + 1))) := by
  rw [List.drop_eq_getElem_cons h]
  conv => lhs; unfold sortssB

set_option maxHeartbeats 8000000 in
set_option maxRecDepth 100000 in
theorem refsorts_any (hl : Bool) (p : Ty) : ∀ (v : Value) (w : World), TyAt w.heap.size w p v →
    Calls Tryz.prog 93 #[v, .bool hl] w fun e w' => e = .returned (.bool (sortsB hl p)) ∧ Below w.heap.size w w' := by
  induction hT : SizeOf.sizeOf p using Nat.strongRecOn generalizing p with
  | _ m ih =>
  subst hT
  intro v w hv
  have HIH := Lib.hid ih; clear ih
  cases p with
  | mk op n text parts =>
  unfold TyAt at hv
  obtain ⟨kv, rfl, htx, hk⟩ := hv
  obtain ⟨a, cap, rfl, hcap, hlc, hka⟩ := hk.split
  have hbx := heap_alloc_new w (.cells #[.int .i64 op, .int .i64 n, .string text, .slice a parts.length cap] 39)
  have hb0 := (Below.refl w.heap.size w).alloc (Nat.le_refl _) (.cells #[.int .i64 op, .int .i64 n, .string text, .slice a parts.length cap] 39)
  have hsz : (w.alloc (.cells #[.int .i64 op, .int .i64 n, .string text, .slice a parts.length cap] 39)).heap.size = w.heap.size + 1 := by simp
  unfold maxLen at hcap
  have hr : sortsB hl (.mk op n text parts) = (sortB hl op n text parts.length && sortssB hl parts) := by conv => lhs; unfold sortsB
  have HR := Lib.hid hr
  have HKA := Lib.hid hka; have HBX := Lib.hid hbx; have HB0 := Lib.hid hb0; have HSZ := Lib.hid hsz
  clear hk hka hbx hb0 hr hsz
  go_enter Tryz.func93, Tryz.ntmps93
  go_upto_block 0 with fail
  generalize (w.alloc (.cells #[.int .i64 op, .int .i64 n, .string text, .slice a parts.length cap] 39)) = W at *
  generalize (Value.agg #[.int .i64 op, .int .i64 n, .string text, .slice a parts.length cap]) = av
  generalize hkl : parts.length = kl at *
  generalize hsv : Value.slice a kl cap = sv at *
  go_cut [1, 5, 10, 6] from 13 to 89 (fun s1 s5 s10 s6 wx => s1 = .bool hl ∧ s5 = .int .i64 kl ∧ s10 = .int .i64 kl ∧ s6 = .bool (sortB hl op n text kl) ∧ Below (w.heap.size + 1) W wx)
  case first =>
    obtain ⟨c0, c1, c2, c3⟩ := cells4 HBX.out
    go_wp2_with (first | (go_at_call 97; refine (in_any' _ _ _ _).mono ?_; rintro e w2 ⟨rfl, hb2⟩) | (go_at_call 16; refine (refName_any _ _ htx).mono ?_; rintro e w2 ⟨rfl, hb2⟩) | (go_at_call 18; refine (refGreat_any _ _ htx).mono ?_; rintro e w2 ⟨rfl, hb2⟩))
    all_goals go_meet
    all_goals
      refine ⟨?_, ?_, ?_, ?_, ?_⟩
      · simp_all
      · simp_all
      · simp_all
      · refine congrArg Value.bool ?_
        clear HR HKA HB0 HBX HIH
        first | (simp_all [sortB, typeFitB, inB]; done) | (rw [Bool.eq_iff_iff]; simp_all [sortB, typeFitB]; try omega)
      · first | exact Below.refl _ _ | exact hb2.mono (by rw [HSZ.out]; omega)
  case rest =>
    obtain ⟨rfl, rfl, rfl, rfl, hbc⟩ := hcut
    subst hkl
    have HBC := Lib.hid hbc
    clear hbc
    go_wp2
    go_loopw [6, 7] (fun s4 i wr => ∃ (k : Nat) (b : Bool), k ≤ parts.length ∧ i = .int .i64 k ∧ s4 = .bool b ∧ Hid (sortsB hl (.mk op n text parts) = (b && sortssB hl (parts.drop k))) ∧ Below (w.heap.size + 1) W wr) (fun _ i _ => parts.length - (intOf i).toNat)
    case atStart => exact ⟨0, _, Nat.zero_le _, rfl, rfl, HR.out, HBC.out⟩
    case round =>
      obtain ⟨k, bb, hk, rfl, rfl, HP, hB⟩ := hrel
      have hbx := bget hB HBX.out (by omega)
      obtain ⟨c0, c1, c2, c3⟩ := cells4 hbx
      have hbw : Below w.heap.size w wr := HB0.out.trans (hB.mono (by omega))
      have hsz : w.heap.size + 1 ≤ wr.heap.size := by have := hB.size; have := HSZ.out; omega
      by_cases hlt : k < parts.length
      · have hlt' : (k : Int) < (parts.length : Int) := by omega
        cases bb with
        | true =>
          obtain ⟨b, o, rfl, hbn, hps⟩ := HKA.out (by omega)
          obtain ⟨e0, e1, e2, e3, g0, g1, g2, g3, ht⟩ := TysAt.get parts b o hps k hlt
          obtain ⟨oo, nn, tt, ka, kn, kc, rfl, rfl, rfl, rfl⟩ := ht.shape
          have q0 := (hbw.cell (p := ⟨b, _, none⟩) hbn).trans g0
          have q1 := (hbw.cell (p := ⟨b, _, none⟩) hbn).trans g1
          have q2 := (hbw.cell (p := ⟨b, _, none⟩) hbn).trans g2
          have q3 := (hbw.cell (p := ⟨b, _, none⟩) hbn).trans g3
          have hcl := HIH.out _ (kid_ltY k hlt) parts[k] rfl _ wr (TyAt.keep hbw hbw.size _ _ ht)
          have hd := sortssB_drop hl parts k hlt
          have HC := Lib.hid hcl; have HB := Lib.hid hB; have HD := Lib.hid hd
          clear hcl hB hbx hbw g0 g1 g2 g3 ht hps hd
          subst hsv
          go_wp2_with fail
          refine HC.out.mono ?_
          rintro e w1 ⟨rfl, hb1⟩
          have HB1 := Lib.hid (HB.out.trans (hb1.mono hsz))
          clear hb1 HC c0 c1 c2 c3 q0 q1 q2 q3
          go_wp2
          go_roundw
          case rel => exact ⟨k + 1, _, by omega, by go_num, rfl, by unfold Hid; rw [HP.out, HD.out, Bool.true_and], HB1.out⟩
          case measure => simp [intOf]; omega
        | false =>
          have hend : sortsB hl (.mk op n text parts) = false := by rw [HP.out, Bool.false_and]
          have HBW := Lib.hid hbw; have HEND := Lib.hid hend
          clear hbx hbw hend
          go_wp2
          go_ret
          exact ⟨ret_bool HEND.out.symm, HBW.out⟩
      · have hlt' : ¬ ((k : Int) < (parts.length : Int)) := by omega
        have hend : sortsB hl (.mk op n text parts) = bb := by
          rw [HP.out, List.drop_eq_nil_of_le (by omega)]
          unfold sortssB; rw [Bool.and_true]
        have HEND := Lib.hid hend; have HBW := Lib.hid hbw
        clear hend hbw hbx
        go_wp2
        go_ret
        exact ⟨ret_bool HEND.out.symm, HBW.out⟩

mutual
theorem weighY_eq : ∀ (p : Ty) (left d : Int), weighY p left = if ((partsY d p).length : Int) ≤ left then left - (partsY d p).length else -1
  | .mk f n t ps, left, d => by
    unfold weighY partsY
    rw [List.length_cons]
    by_cases h : left < 1
    · rw [if_pos h, if_neg (by omega)]
    · rw [if_neg h, weighsY_eq ps (left - 1) (d + 1) (by omega)]
      by_cases h2 : ((partssY (d + 1) ps).length : Int) ≤ left - 1
      · rw [if_pos h2, if_pos (by omega)]; omega
      · rw [if_neg h2, if_neg (by omega)]
theorem weighsY_eq : ∀ (ps : List Ty) (left d : Int), -1 ≤ left → weighsY ps left = if ((partssY d ps).length : Int) ≤ left then left - (partssY d ps).length else -1
  | [], left, d, h => by
    unfold weighsY partssY
    simp
    omega
  | p :: ps, left, d, h => by
    unfold weighsY partssY
    rw [List.length_append]
    by_cases hn : left < 0
    · rw [if_pos hn, if_neg (by omega)]; omega
    · rw [if_neg hn, weighY_eq p left d]
      by_cases h2 : ((partsY d p).length : Int) ≤ left
      · rw [if_pos h2, weighsY_eq ps _ d (by omega)]
        by_cases h3 : ((partssY d ps).length : Int) ≤ left - (partsY d p).length
        · rw [if_pos h3, if_pos (by omega)]; omega
        · rw [if_neg h3, if_neg (by omega)]
      · rw [if_neg h2, weighsY_neg _ _ (by omega), if_neg (by omega)]
end
theorem weighY_nonneg (p : Ty) (left d : Int) : decide (0 ≤ weighY p left) = decide (((partsY d p).length : Int) ≤ left) := by
  rw [weighY_eq p left d]
  split
  · rename_i h; rw [decide_eq_true h, decide_eq_true (by omega)]
  · rename_i h; rw [decide_eq_false h]; rfl
theorem goY_eq : ∀ (xs : List (Int × Ty)) (n : Nat), n ≤ 12 → goY xs n = (decide (n + xs.length ≤ 12) && (xs.map (·.2)).all Ty.fits)
  | [], n, h => by simp [goY, h]
  | x :: xs, n, h => by
    unfold goY
    by_cases h1 : n + 1 ≤ 12
    · rw [decide_eq_true h1, Bool.true_and, goY_eq xs (n + 1) h1, List.map_cons, List.all_cons, List.length_cons, show n + 1 + xs.length = n + (xs.length + 1) by omega]
      cases x.2.fits <;> cases decide (n + (xs.length + 1) ≤ 12) <;> simp
    · rw [decide_eq_false h1, List.length_cons, decide_eq_false (by omega)]
      simp
mutual
theorem sortsB_parts : ∀ (p : Ty) (d : Int), sortsB true p = ((partsY d p).map (·.2)).all Ty.fits
  | .mk f n t ps, d => by
    unfold sortsB partsY
    rw [List.map_cons, List.all_cons, sortssB_parts ps (d + 1)]
    show (sortB true f n t ps.length && _) = (typeFitB f n t ps.length && _)
    unfold sortB
    rw [Bool.true_or, Bool.true_and]
theorem sortssB_parts : ∀ (ps : List Ty) (d : Int), sortssB true ps = ((partssY d ps).map (·.2)).all Ty.fits
  | [], _ => by unfold sortssB partssY; rfl
  | p :: ps, d => by
    unfold sortssB partssY
    rw [List.map_append, List.all_append, sortsB_parts p d, sortssB_parts ps d]
end
def refTypeB (hl : Bool) (p : Ty) : Bool := decide (0 ≤ weighY p 12) && sortsB hl p
theorem refTypeB_eq (p : Ty) : refTypeB true p = typeB p := by
  unfold refTypeB typeB
  rw [goY_eq _ 0 (by omega), weighY_nonneg p 12 1, sortsB_parts p 1]
  congr 1
  rw [Bool.eq_iff_iff]
  simp
  omega

set_option maxHeartbeats 1000000 in
theorem Type_any (p : Ty) (v : Value) (w : World) (hv : TyAt w.heap.size w p v) :
    Calls Tryz.prog 33 #[v] w fun e w' => e = .returned (.bool (refTypeB true p)) ∧ Below w.heap.size w w' := by
  obtain ⟨a, cap, rfl, -⟩ := hv.parts
  have hb0 := (Below.refl w.heap.size w).alloc (Nat.le_refl _) (.cells #[.int .i64 p.sort, .int .i64 p.n, .string p.text, .slice a p.parts.length cap] 39)
  have hbx := heap_alloc_new w (.cells #[.int .i64 p.sort, .int .i64 p.n, .string p.text, .slice a p.parts.length cap] 39)
  have HV := Lib.hid hv; have HBX := Lib.hid hbx; have HB0 := Lib.hid hb0
  have hc1 := WeighType_any p 12 _ _ (TyAt.keep hb0 hb0.size _ _ hv) (by omega) (by omega)
  have HC1 := Lib.hid hc1
  obtain ⟨c0, c1, c2, c3⟩ := cells4 hbx
  have hs0 := hb0.size
  clear hv hc1 hb0
  by_cases h0 : 0 ≤ weighY p 12
  · have hr : refTypeB true p = sortsB true p := by unfold refTypeB; rw [decide_eq_true h0, Bool.true_and]
    have HR := Lib.hid hr; clear hr
    go_enter Tryz.func33, Tryz.ntmps33
    go_wp2_with fail
    refine HC1.out.mono ?_
    rintro e w1 ⟨rfl, hb1⟩
    have hbx1 := bget' hb1 hbx
    have HB1 := Lib.hid (HB0.out.trans (hb1.mono hs0))
    have hc2 := refsorts_any true p _ w1 (TyAt.keep HB1.out HB1.out.size _ _ HV.out)
    have HC2 := Lib.hid hc2
    clear c0 c1 c2 c3 hb1 hc2 hbx
    obtain ⟨c0, c1, c2, c3⟩ := cells4 hbx1
    go_wp2_with fail
    refine HC2.out.mono ?_
    rintro e w2 ⟨rfl, hb2⟩
    go_wp2
    go_ret
    exact ⟨ret_bool HR.out.symm, HB1.out.trans (hb2.mono HB1.out.size)⟩
  · have hr : refTypeB true p = false := by unfold refTypeB; rw [decide_eq_false h0, Bool.false_and]
    have HR := Lib.hid hr; clear hr
    go_enter Tryz.func33, Tryz.ntmps33
    go_wp2_with fail
    refine HC1.out.mono ?_
    rintro e w1 ⟨rfl, hb1⟩
    go_wp2
    go_ret
    exact ⟨ret_bool HR.out.symm, HB0.out.trans (hb1.mono hs0)⟩

set_option maxHeartbeats 1000000 in
theorem Whole_any (p : Ty) (v : Value) (w : World) (hv : TyAt w.heap.size w p v) :
    Calls Tryz.prog 99 #[v] w fun e w' => e = .returned (.bool (refTypeB false p)) ∧ Below w.heap.size w w' := by
  obtain ⟨a, cap, rfl, -⟩ := hv.parts
  have hb0 := (Below.refl w.heap.size w).alloc (Nat.le_refl _) (.cells #[.int .i64 p.sort, .int .i64 p.n, .string p.text, .slice a p.parts.length cap] 39)
  have hbx := heap_alloc_new w (.cells #[.int .i64 p.sort, .int .i64 p.n, .string p.text, .slice a p.parts.length cap] 39)
  have HV := Lib.hid hv; have HBX := Lib.hid hbx; have HB0 := Lib.hid hb0
  have hc1 := WeighType_any p 12 _ _ (TyAt.keep hb0 hb0.size _ _ hv) (by omega) (by omega)
  have HC1 := Lib.hid hc1
  obtain ⟨c0, c1, c2, c3⟩ := cells4 hbx
  have hs0 := hb0.size
  clear hv hc1 hb0
  by_cases h0 : 0 ≤ weighY p 12
  · have hr : refTypeB false p = sortsB false p := by unfold refTypeB; rw [decide_eq_true h0, Bool.true_and]
    have HR := Lib.hid hr; clear hr
    go_enter Tryz.func99, Tryz.ntmps99
    go_wp2_with fail
    refine HC1.out.mono ?_
    rintro e w1 ⟨rfl, hb1⟩
    have hbx1 := bget' hb1 hbx
    have HB1 := Lib.hid (HB0.out.trans (hb1.mono hs0))
    have hc2 := refsorts_any false p _ w1 (TyAt.keep HB1.out HB1.out.size _ _ HV.out)
    have HC2 := Lib.hid hc2
    clear c0 c1 c2 c3 hb1 hc2 hbx
    obtain ⟨c0, c1, c2, c3⟩ := cells4 hbx1
    go_wp2_with fail
    refine HC2.out.mono ?_
    rintro e w2 ⟨rfl, hb2⟩
    go_wp2
    go_ret
    exact ⟨ret_bool HR.out.symm, HB1.out.trans (hb2.mono HB1.out.size)⟩
  · have hr : refTypeB false p = false := by unfold refTypeB; rw [decide_eq_false h0, Bool.false_and]
    have HR := Lib.hid hr; clear hr
    go_enter Tryz.func99, Tryz.ntmps99
    go_wp2_with fail
    refine HC1.out.mono ?_
    rintro e w1 ⟨rfl, hb1⟩
    go_wp2
    go_ret
    exact ⟨ret_bool HR.out.symm, HB0.out.trans (hb1.mono hs0)⟩

end Go.Proofs.YtjpahjfjpkbcnaaGreat

/- TermChecks, its region 6. -/
namespace Go.Proofs.YtjpahjfjpkbcnaaGreat
open Go.Proofs Go.RowKit

def ops4 : Array Oper := #[{ dst := some 53, op := Op.load 32 (Operand.tmp 3), type := 32, pos := "law.go:78", after := #[], guard := none }, { dst := some 54, op := Op.call { callee := Callee.value (Operand.func 29), args := #[Operand.tmp 53], argTypes := #[32] }, type := 43, pos := "law.go:78", after := #[{ on := 0, ground := Ground.data }], guard := none }, { dst := some 55, op := Op.load 32 (Operand.tmp 3), type := 32, pos := "law.go:78", after := #[], guard := none }, { dst := some 56, op := Op.call { callee := Callee.value (Operand.func 30), args := #[Operand.tmp 55], argTypes := #[32] }, type := 4, pos := "law.go:78", after := #[{ on := 2, ground := Ground.data }, { on := 1, ground := Ground.chain }], guard := none }, { dst := some 57, op := Op.call { callee := Callee.value (Operand.func 25), args := #[Operand.tmp 56], argTypes := #[4] }, type := 43, pos := "law.go:78", after := #[{ on := 3, ground := Ground.data }, { on := 3, ground := Ground.chain }], guard := none }, { dst := some 58, op := Op.binOp BinOp.eql 43 (Operand.tmp 54) (Operand.tmp 57) 43, type := 4, pos := "law.go:78", after := #[{ on := 1, ground := Ground.data }, { on := 4, ground := Ground.data }], guard := none }, { dst := some 59, op := Op.move (Operand.tmp 58), type := 4, pos := "law.go:78", after := #[{ on := 5, ground := Ground.data }, { on := 4, ground := Ground.chain }], guard := none }, { dst := some 60, op := Op.load 35 (Operand.tmp 4), type := 35, pos := "law.go:78", after := #[{ on := 6, ground := Ground.guard }], guard := some (6, true) }, { dst := some 61, op := Op.call { callee := Callee.value (Operand.func 31), args := #[Operand.tmp 60], argTypes := #[35] }, type := 43, pos := "law.go:78", after := #[{ on := 7, ground := Ground.data }, { on := 6, ground := Ground.chain }, { on := 6, ground := Ground.guard }], guard := some (6, true) }, { dst := some 62, op := Op.load 35 (Operand.tmp 4), type := 35, pos := "law.go:78", after := #[{ on := 6, ground := Ground.guard }], guard := some (6, true) }, { dst := some 63, op := Op.call { callee := Callee.value (Operand.func 26), args := #[Operand.tmp 62], argTypes := #[35] }, type := 4, pos := "law.go:78", after := #[{ on := 9, ground := Ground.data }, { on := 8, ground := Ground.chain }, { on := 6, ground := Ground.guard }], guard := some (6, true) }, { dst := some 64, op := Op.call { callee := Callee.value (Operand.func 25), args := #[Operand.tmp 63], argTypes := #[4] }, type := 43, pos := "law.go:78", after := #[{ on := 10, ground := Ground.data }, { on := 10, ground := Ground.chain }, { on := 6, ground := Ground.guard }], guard := some (6, true) }, { dst := some 65, op := Op.binOp BinOp.eql 43 (Operand.tmp 61) (Operand.tmp 64) 43, type := 4, pos := "law.go:78", after := #[{ on := 8, ground := Ground.data }, { on := 11, ground := Ground.data }, { on := 6, ground := Ground.guard }], guard := some (6, true) }, { dst := some 66, op := Op.pick (Operand.tmp 59) (Operand.tmp 65) (Operand.const (Value.bool false)), type := 4, pos := "law.go:78", after := #[{ on := 6, ground := Ground.data }, { on := 12, ground := Ground.data }], guard := none }, { dst := some 67, op := Op.move (Operand.tmp 66), type := 4, pos := "law.go:78", after := #[{ on := 13, ground := Ground.data }, { on := 11, ground := Ground.chain }], guard := none }, { dst := some 68, op := Op.load 39 (Operand.tmp 5), type := 39, pos := "law.go:78", after := #[{ on := 14, ground := Ground.guard }], guard := some (14, true) }, { dst := some 69, op := Op.call { callee := Callee.value (Operand.func 32), args := #[Operand.tmp 68], argTypes := #[39] }, type := 43, pos := "law.go:78", after := #[{ on := 15, ground := Ground.data }, { on := 14, ground := Ground.chain }, { on := 14, ground := Ground.guard }], guard := some (14, true) }, { dst := some 70, op := Op.load 39 (Operand.tmp 5), type := 39, pos := "law.go:78", after := #[{ on := 14, ground := Ground.guard }], guard := some (14, true) }, { dst := some 71, op := Op.call { callee := Callee.value (Operand.func 33), args := #[Operand.tmp 70], argTypes := #[39] }, type := 4, pos := "law.go:78", after := #[{ on := 17, ground := Ground.data }, { on := 16, ground := Ground.chain }, { on := 14, ground := Ground.guard }], guard := some (14, true) }, { dst := some 72, op := Op.call { callee := Callee.value (Operand.func 25), args := #[Operand.tmp 71], argTypes := #[4] }, type := 43, pos := "law.go:78", after := #[{ on := 18, ground := Ground.data }, { on := 18, ground := Ground.chain }, { on := 14, ground := Ground.guard }], guard := some (14, true) }, { dst := some 73, op := Op.binOp BinOp.eql 43 (Operand.tmp 69) (Operand.tmp 72) 43, type := 4, pos := "law.go:78", after := #[{ on := 16, ground := Ground.data }, { on := 19, ground := Ground.data }, { on := 14, ground := Ground.guard }], guard := some (14, true) }, { dst := some 74, op := Op.pick (Operand.tmp 67) (Operand.tmp 73) (Operand.const (Value.bool false)), type := 4, pos := "law.go:78", after := #[{ on := 14, ground := Ground.data }, { on := 20, ground := Ground.data }], guard := none }, { dst := some 75, op := Op.move (Operand.tmp 74), type := 4, pos := "law.go:78", after := #[{ on := 21, ground := Ground.data }, { on := 19, ground := Ground.chain }], guard := none }, { dst := some 76, op := Op.call { callee := Callee.value (Operand.func 14), args := #[], argTypes := #[] }, type := 4, pos := "law.go:78", after := #[{ on := 22, ground := Ground.chain }, { on := 22, ground := Ground.guard }], guard := some (22, true) }, { dst := some 77, op := Op.pick (Operand.tmp 75) (Operand.tmp 76) (Operand.const (Value.bool false)), type := 4, pos := "law.go:78", after := #[{ on := 22, ground := Ground.data }, { on := 23, ground := Ground.data }], guard := none }, { dst := some 6, op := Op.assign (Operand.tmp 77), type := 4, pos := "law.go:78", after := #[{ on := 24, ground := Ground.data }, { on := 23, ground := Ground.chain }, { on := 0, ground := Ground.phase }, { on := 1, ground := Ground.phase }, { on := 2, ground := Ground.phase }, { on := 3, ground := Ground.phase }, { on := 4, ground := Ground.phase }, { on := 5, ground := Ground.phase }, { on := 6, ground := Ground.phase }, { on := 7, ground := Ground.phase }, { on := 8, ground := Ground.phase }, { on := 9, ground := Ground.phase }, { on := 10, ground := Ground.phase }, { on := 11, ground := Ground.phase }, { on := 12, ground := Ground.phase }, { on := 13, ground := Ground.phase }, { on := 14, ground := Ground.phase }, { on := 15, ground := Ground.phase }, { on := 16, ground := Ground.phase }, { on := 17, ground := Ground.phase }, { on := 18, ground := Ground.phase }, { on := 19, ground := Ground.phase }, { on := 20, ground := Ground.phase }, { on := 21, ground := Ground.phase }, { on := 22, ground := Ground.phase }, { on := 23, ground := Ground.phase }, { on := 24, ground := Ground.phase }], guard := none }]
def dst4 (i : Nat) : Nat := 53 + i
theorem dst4_eq : ∀ i, i < 25 → (ops4[i]?.bind (·.dst)) = some (dst4 i) := by
  intro i hi
  have h : (List.range 25).all (fun i => (ops4[i]?.bind (·.dst)) == some (dst4 i)) = true := by kernel_rfl
  simpa using List.all_eq_true.1 h i (List.mem_range.2 hi)
section
variable (U : World) (x0 x1 x2 x3 x4 y0 y1 y2 y3 z0 z1 z2 z3 : Value) (bT bP bY : Bool)
def val4 (j : Nat) : Value :=
  match j with
  | 0 => .agg #[x0, x1, x2, x3, x4]
  | 1 => .int .i64 (errOf bT)
  | 2 => .agg #[x0, x1, x2, x3, x4]
  | 3 => .bool bT
  | 4 => .int .i64 (errOf bT)
  | 5 => .bool true
  | 6 => .bool true
  | 7 => .agg #[y0, y1, y2, y3]
  | 8 => .int .i64 (errOf bP)
  | 9 => .agg #[y0, y1, y2, y3]
  | 10 => .bool bP
  | 11 => .int .i64 (errOf bP)
  | 12 => .bool true
  | 13 => .bool true
  | 14 => .bool true
  | 15 => .agg #[z0, z1, z2, z3]
  | 16 => .int .i64 (errOf bY)
  | 17 => .agg #[z0, z1, z2, z3]
  | 18 => .bool bY
  | 19 => .int .i64 (errOf bY)
  | 20 => .bool true
  | 21 => .bool true
  | 22 => .bool true
  | 23 => .bool true
  | _ => .bool true
def B4 (pt pp py : Nat) (d0 : List Deferred) (a : Act) (w : World) : Prop := a.tmps.size = 78 ∧ a.defers = d0 ∧ a.tmps[3]? = some (.pointer (some ⟨pt, 0, none⟩)) ∧ a.tmps[4]? = some (.pointer (some ⟨pp, 0, none⟩)) ∧ a.tmps[5]? = some (.pointer (some ⟨py, 0, none⟩)) ∧ Below U.heap.size U w
def F4 (j : Nat) (a : Act) (_ : World) : Prop := a.tmps[53 + j]? = some (val4 x0 x1 x2 x3 x4 y0 y1 y2 y3 z0 z1 z2 z3 bT bP bY j)
theorem F4_stab (i j : Nat) (a : Act) (w : World) (a' : Act) (w' : World) (hij : i ≠ j) (hi : i < 25) (h : F4 x0 x1 x2 x3 x4 y0 y1 y2 y3 z0 z1 z2 z3 bT bP bY j a w) (hx : Ext ops4 i a w a' w') : F4 x0 x1 x2 x3 x4 y0 y1 y2 y3 z0 z1 z2 z3 bT bP bY j a' w' := by
  obtain ⟨⟨o, d, v, ho, hd, rfl⟩, hb⟩ := hx
  have he := dst4_eq i hi
  rw [ho] at he
  have hd' : d = dst4 i := by simp [hd] at he; exact he
  have hne : d ≠ 53 + j := fun e => hij (Nat.add_left_cancel (show 53 + i = 53 + j from hd'.symm.trans e))
  exact (put_get hne).trans h
theorem B4_put {pt pp py : Nat} {d0 : List Deferred} {a : Act} {w w' : World} (d : Nat) (v : Value) (h : B4 U pt pp py d0 a w) (h2 : 5 < d) (hb : Below w.heap.size w w') : B4 U pt pp py d0 (a.put (some d) v) w' := by
  obtain ⟨g1, g2, g3, g4, g5, g6⟩ := h
  exact ⟨by rw [size_put]; exact g1, g2, (put_get (by omega)).trans g3, (put_get (by omega)).trans g4, (put_get (by omega)).trans g5, g6.trans (hb.mono g6.size)⟩
end
theorem waits4 (j : Nat) (hj : j < 25) : waitsB .any ops4 25 j = true := by
  have h : (List.range 25).all (fun j => waitsB .any ops4 25 j) = true := by kernel_rfl
  exact List.all_eq_true.1 h j (List.mem_range.2 hj)
theorem err_any (b : Bool) (w : World) : Calls Tryz.prog 25 #[.bool b] w fun e w' => e = .returned (.int .i64 (errOf b)) ∧ Below w.heap.size w w' := by
  cases b <;> (go_enter Tryz.func25, Tryz.ntmps25; go_wp2; go_ret; exact ⟨rfl, Below.refl _ _⟩)

set_option maxHeartbeats 8000000 in
set_option maxRecDepth 100000 in
theorem reg4 {Q : Exit → Act → World → Prop} {a : Act} {U : World} {pt pp py : Nat} {x0 x1 x2 x3 x4 y0 y1 y2 y3 z0 z1 z2 z3 : Value} {bT bP bY : Bool}
    (hsz : a.tmps.size = 78) (h3 : a.tmps[3]? = some (.pointer (some ⟨pt, 0, none⟩))) (h4 : a.tmps[4]? = some (.pointer (some ⟨pp, 0, none⟩))) (h5 : a.tmps[5]? = some (.pointer (some ⟨py, 0, none⟩)))
    (hT : U.heap[pt]? = some (.cells #[x0, x1, x2, x3, x4] 32 (0, 0))) (hP : U.heap[pp]? = some (.cells #[y0, y1, y2, y3] 35 (0, 0))) (hY : U.heap[py]? = some (.cells #[z0, z1, z2, z3] 39 (0, 0)))
    (c29 : ∀ w, Below U.heap.size U w → Calls Tryz.prog 29 #[.agg #[x0, x1, x2, x3, x4]] w fun e w' => e = .returned (.int .i64 (errOf bT)) ∧ Below w.heap.size w w')
    (c30 : ∀ w, Below U.heap.size U w → Calls Tryz.prog 30 #[.agg #[x0, x1, x2, x3, x4]] w fun e w' => e = .returned (.bool bT) ∧ Below w.heap.size w w')
    (c31 : ∀ w, Below U.heap.size U w → Calls Tryz.prog 31 #[.agg #[y0, y1, y2, y3]] w fun e w' => e = .returned (.int .i64 (errOf bP)) ∧ Below w.heap.size w w')
    (c26 : ∀ w, Below U.heap.size U w → Calls Tryz.prog 26 #[.agg #[y0, y1, y2, y3]] w fun e w' => e = .returned (.bool bP) ∧ Below w.heap.size w w')
    (c32 : ∀ w, Below U.heap.size U w → Calls Tryz.prog 32 #[.agg #[z0, z1, z2, z3]] w fun e w' => e = .returned (.int .i64 (errOf bY)) ∧ Below w.heap.size w w')
    (c33 : ∀ w, Below U.heap.size U w → Calls Tryz.prog 33 #[.agg #[z0, z1, z2, z3]] w fun e w' => e = .returned (.bool bY) ∧ Below w.heap.size w w')
    (c14 : ∀ w, Calls Tryz.prog 14 #[] w fun e w' => e = .returned (.bool true) ∧ Below w.heap.size w w')
    (hK : ∀ (a' : Act) (w' : World), a'.tmps.size = 78 → a'.defers = a.defers → a'.tmps[6]? = some (.bool true) → Below U.heap.size U w' → Q .normal a' w') :
    (Code.region 6 ops4 true).wp Tryz.prog Q a U := by
  have HK := Lib.hid hK; have HH3 := Lib.hid h3; have HH4 := Lib.hid h4; have HH5 := Lib.hid h5; have HSZ := Lib.hid hsz
  have C29 := Lib.hid c29; have C30 := Lib.hid c30; have C31 := Lib.hid c31; have C26 := Lib.hid c26; have C32 := Lib.hid c32; have C33 := Lib.hid c33; have C14 := Lib.hid c14
  have HT := Lib.hid hT; have HP := Lib.hid hP; have HY := Lib.hid hY
  clear hK h3 h4 h5 hsz c29 c30 c31 c26 c32 c33 c14 hT hP hY
  refine wp_region_any (by kernel_rfl) ?_
  refine wpAny_inv (by kernel_rfl) 25 ?hz rfl (F4 x0 x1 x2 x3 x4 y0 y1 y2 y3 z0 z1 z2 z3 bT bP bY) (B4 U pt pp py a.defers) (Ext ops4) ?hstep (fun i j a w a' w' h1 h2 h3 hB h5 h6 => F4_stab _ _ _ _ _ _ _ _ _ _ _ _ _ _ _ _ i j a w a' w' h1 h2 h5 h6) ?hlast _ (List.range 26) _ a _ (by decide) (by decide) ?hu (by decide) ?hB ?hF
  case hz => exact fun j hj => waits4 j hj
  case hu => exact fun j hj => List.mem_range.2 (rep_true hj)
  case hB => exact ⟨HSZ.out, rfl, HH3.out, HH4.out, HH5.out, below_drew _ _⟩
  case hF => exact fun j hj => (rep_false hj).elim
  case hstep =>
    intro i a1 w1 hi hB hF
    obtain ⟨hsz, -, g3, g4, g5, hbw⟩ := id hB
    have q3 := tmp_get g3 (by omega)
    have q4 := tmp_get g4 (by omega)
    have q5 := tmp_get g5 (by omega)
    have h : i = 0 ∨ i = 1 ∨ i = 2 ∨ i = 3 ∨ i = 4 ∨ i = 5 ∨ i = 6 ∨ i = 7 ∨ i = 8 ∨ i = 9 ∨ i = 10 ∨ i = 11 ∨ i = 12 ∨ i = 13 ∨ i = 14 ∨ i = 15 ∨ i = 16 ∨ i = 17 ∨ i = 18 ∨ i = 19 ∨ i = 20 ∨ i = 21 ∨ i = 22 ∨ i = 23 ∨ i = 24 := by omega
    rcases h with rfl | rfl | rfl | rfl | rfl | rfl | rfl | rfl | rfl | rfl | rfl | rfl | rfl | rfl | rfl | rfl | rfl | rfl | rfl | rfl | rfl | rfl | rfl | rfl | rfl
    · refine wpOp_step (o := { dst := some 53, op := Op.load 32 (Operand.tmp 3), type := 32, pos := "law.go:78", after := #[], guard := none }) rfl fun KK hKK => ?_
      obtain ⟨c0, c1, c2, c3, c4⟩ := cells5 (bget' hbw HT.out)
      go_simp
      exact hKK _ _ ⟨B4_put _ 53 _ hB (by decide) (Below.refl _ _), put_same (by omega), ⟨_, 53, _, rfl, rfl, rfl⟩, Below.refl _ _⟩
    · refine wpOp_step (o := { dst := some 54, op := Op.call { callee := Callee.value (Operand.func 29), args := #[Operand.tmp 53], argTypes := #[32] }, type := 43, pos := "law.go:78", after := #[{ on := 0, ground := Ground.data }], guard := none }) rfl fun KK hKK => ?_
      have k53 : a1.tmps[53]? = some (.agg #[x0, x1, x2, x3, x4]) := hF 0 (by kernel_rfl)
      have g53 := tmp_get k53 (by omega)
      go_simp
      refine (C29.out w1 hbw).mono ?_
      rintro e w2 ⟨rfl, hb2⟩
      exact hKK _ _ ⟨B4_put _ 54 _ hB (by decide) hb2, put_same (by omega), ⟨_, 54, _, rfl, rfl, rfl⟩, hb2⟩
    · refine wpOp_step (o := { dst := some 55, op := Op.load 32 (Operand.tmp 3), type := 32, pos := "law.go:78", after := #[], guard := none }) rfl fun KK hKK => ?_
      obtain ⟨c0, c1, c2, c3, c4⟩ := cells5 (bget' hbw HT.out)
      go_simp
      exact hKK _ _ ⟨B4_put _ 55 _ hB (by decide) (Below.refl _ _), put_same (by omega), ⟨_, 55, _, rfl, rfl, rfl⟩, Below.refl _ _⟩
    · refine wpOp_step (o := { dst := some 56, op := Op.call { callee := Callee.value (Operand.func 30), args := #[Operand.tmp 55], argTypes := #[32] }, type := 4, pos := "law.go:78", after := #[{ on := 2, ground := Ground.data }, { on := 1, ground := Ground.chain }], guard := none }) rfl fun KK hKK => ?_
      have k55 : a1.tmps[55]? = some (.agg #[x0, x1, x2, x3, x4]) := hF 2 (by kernel_rfl)
      have g55 := tmp_get k55 (by omega)
      go_simp
      refine (C30.out w1 hbw).mono ?_
      rintro e w2 ⟨rfl, hb2⟩
      exact hKK _ _ ⟨B4_put _ 56 _ hB (by decide) hb2, put_same (by omega), ⟨_, 56, _, rfl, rfl, rfl⟩, hb2⟩
    · refine wpOp_step (o := { dst := some 57, op := Op.call { callee := Callee.value (Operand.func 25), args := #[Operand.tmp 56], argTypes := #[4] }, type := 43, pos := "law.go:78", after := #[{ on := 3, ground := Ground.data }, { on := 3, ground := Ground.chain }], guard := none }) rfl fun KK hKK => ?_
      have k56 : a1.tmps[56]? = some (.bool bT) := hF 3 (by kernel_rfl)
      have g56 := tmp_get k56 (by omega)
      go_simp
      refine (err_any _ w1).mono ?_
      rintro e w2 ⟨rfl, hb2⟩
      exact hKK _ _ ⟨B4_put _ 57 _ hB (by decide) hb2, put_same (by omega), ⟨_, 57, _, rfl, rfl, rfl⟩, hb2⟩
    · refine wpOp_step (o := { dst := some 58, op := Op.binOp BinOp.eql 43 (Operand.tmp 54) (Operand.tmp 57) 43, type := 4, pos := "law.go:78", after := #[{ on := 1, ground := Ground.data }, { on := 4, ground := Ground.data }], guard := none }) rfl fun KK hKK => ?_
      have k54 : a1.tmps[54]? = some (.int .i64 (errOf bT)) := hF 1 (by kernel_rfl)
      have g54 := tmp_get k54 (by omega)
      have k57 : a1.tmps[57]? = some (.int .i64 (errOf bT)) := hF 4 (by kernel_rfl)
      have g57 := tmp_get k57 (by omega)
      go_simp
      exact hKK _ _ ⟨B4_put _ 58 _ hB (by decide) (Below.refl _ _), put_same (by omega), ⟨_, 58, _, rfl, rfl, rfl⟩, Below.refl _ _⟩
    · refine wpOp_step (o := { dst := some 59, op := Op.move (Operand.tmp 58), type := 4, pos := "law.go:78", after := #[{ on := 5, ground := Ground.data }, { on := 4, ground := Ground.chain }], guard := none }) rfl fun KK hKK => ?_
      have k58 : a1.tmps[58]? = some (.bool true) := hF 5 (by kernel_rfl)
      have g58 := tmp_get k58 (by omega)
      go_simp
      exact hKK _ _ ⟨B4_put _ 59 _ hB (by decide) (Below.refl _ _), put_same (by omega), ⟨_, 59, _, rfl, rfl, rfl⟩, Below.refl _ _⟩
    · refine wpOp_step (o := { dst := some 60, op := Op.load 35 (Operand.tmp 4), type := 35, pos := "law.go:78", after := #[{ on := 6, ground := Ground.guard }], guard := some (6, true) }) rfl fun KK hKK => ?_
      have k59 : a1.tmps[59]? = some (.bool true) := hF 6 (by kernel_rfl)
      have g59 := tmp_get k59 (by omega)
      obtain ⟨c0, c1, c2, c3⟩ := cells4 (bget' hbw HP.out)
      go_simp
      rw [if_pos (by rw [show (ops4[6]?.bind fun x => x.dst) = some 59 from rfl]; simp [k59])]
      exact hKK _ _ ⟨B4_put _ 60 _ hB (by decide) (Below.refl _ _), put_same (by omega), ⟨_, 60, _, rfl, rfl, rfl⟩, Below.refl _ _⟩
    · refine wpOp_step (o := { dst := some 61, op := Op.call { callee := Callee.value (Operand.func 31), args := #[Operand.tmp 60], argTypes := #[35] }, type := 43, pos := "law.go:78", after := #[{ on := 7, ground := Ground.data }, { on := 6, ground := Ground.chain }, { on := 6, ground := Ground.guard }], guard := some (6, true) }) rfl fun KK hKK => ?_
      have k59 : a1.tmps[59]? = some (.bool true) := hF 6 (by kernel_rfl)
      have g59 := tmp_get k59 (by omega)
      have k60 : a1.tmps[60]? = some (.agg #[y0, y1, y2, y3]) := hF 7 (by kernel_rfl)
      have g60 := tmp_get k60 (by omega)
      go_simp
      rw [if_pos (by rw [show (ops4[6]?.bind fun x => x.dst) = some 59 from rfl]; simp [k59])]
      refine (C31.out w1 hbw).mono ?_
      rintro e w2 ⟨rfl, hb2⟩
      exact hKK _ _ ⟨B4_put _ 61 _ hB (by decide) hb2, put_same (by omega), ⟨_, 61, _, rfl, rfl, rfl⟩, hb2⟩
    · refine wpOp_step (o := { dst := some 62, op := Op.load 35 (Operand.tmp 4), type := 35, pos := "law.go:78", after := #[{ on := 6, ground := Ground.guard }], guard := some (6, true) }) rfl fun KK hKK => ?_
      have k59 : a1.tmps[59]? = some (.bool true) := hF 6 (by kernel_rfl)
      have g59 := tmp_get k59 (by omega)
      obtain ⟨c0, c1, c2, c3⟩ := cells4 (bget' hbw HP.out)
      go_simp
      rw [if_pos (by rw [show (ops4[6]?.bind fun x => x.dst) = some 59 from rfl]; simp [k59])]
      exact hKK _ _ ⟨B4_put _ 62 _ hB (by decide) (Below.refl _ _), put_same (by omega), ⟨_, 62, _, rfl, rfl, rfl⟩, Below.refl _ _⟩
    · refine wpOp_step (o := { dst := some 63, op := Op.call { callee := Callee.value (Operand.func 26), args := #[Operand.tmp 62], argTypes := #[35] }, type := 4, pos := "law.go:78", after := #[{ on := 9, ground := Ground.data }, { on := 8, ground := Ground.chain }, { on := 6, ground := Ground.guard }], guard := some (6, true) }) rfl fun KK hKK => ?_
      have k59 : a1.tmps[59]? = some (.bool true) := hF 6 (by kernel_rfl)
      have g59 := tmp_get k59 (by omega)
      have k62 : a1.tmps[62]? = some (.agg #[y0, y1, y2, y3]) := hF 9 (by kernel_rfl)
      have g62 := tmp_get k62 (by omega)
      go_simp
      rw [if_pos (by rw [show (ops4[6]?.bind fun x => x.dst) = some 59 from rfl]; simp [k59])]
      refine (C26.out w1 hbw).mono ?_
      rintro e w2 ⟨rfl, hb2⟩
      exact hKK _ _ ⟨B4_put _ 63 _ hB (by decide) hb2, put_same (by omega), ⟨_, 63, _, rfl, rfl, rfl⟩, hb2⟩
    · refine wpOp_step (o := { dst := some 64, op := Op.call { callee := Callee.value (Operand.func 25), args := #[Operand.tmp 63], argTypes := #[4] }, type := 43, pos := "law.go:78", after := #[{ on := 10, ground := Ground.data }, { on := 10, ground := Ground.chain }, { on := 6, ground := Ground.guard }], guard := some (6, true) }) rfl fun KK hKK => ?_
      have k59 : a1.tmps[59]? = some (.bool true) := hF 6 (by kernel_rfl)
      have g59 := tmp_get k59 (by omega)
      have k63 : a1.tmps[63]? = some (.bool bP) := hF 10 (by kernel_rfl)
      have g63 := tmp_get k63 (by omega)
      go_simp
      rw [if_pos (by rw [show (ops4[6]?.bind fun x => x.dst) = some 59 from rfl]; simp [k59])]
      refine (err_any _ w1).mono ?_
      rintro e w2 ⟨rfl, hb2⟩
      exact hKK _ _ ⟨B4_put _ 64 _ hB (by decide) hb2, put_same (by omega), ⟨_, 64, _, rfl, rfl, rfl⟩, hb2⟩
    · refine wpOp_step (o := { dst := some 65, op := Op.binOp BinOp.eql 43 (Operand.tmp 61) (Operand.tmp 64) 43, type := 4, pos := "law.go:78", after := #[{ on := 8, ground := Ground.data }, { on := 11, ground := Ground.data }, { on := 6, ground := Ground.guard }], guard := some (6, true) }) rfl fun KK hKK => ?_
      have k59 : a1.tmps[59]? = some (.bool true) := hF 6 (by kernel_rfl)
      have g59 := tmp_get k59 (by omega)
      have k61 : a1.tmps[61]? = some (.int .i64 (errOf bP)) := hF 8 (by kernel_rfl)
      have g61 := tmp_get k61 (by omega)
      have k64 : a1.tmps[64]? = some (.int .i64 (errOf bP)) := hF 11 (by kernel_rfl)
      have g64 := tmp_get k64 (by omega)
      go_simp
      rw [if_pos (by rw [show (ops4[6]?.bind fun x => x.dst) = some 59 from rfl]; simp [k59])]
      exact hKK _ _ ⟨B4_put _ 65 _ hB (by decide) (Below.refl _ _), put_same (by omega), ⟨_, 65, _, rfl, rfl, rfl⟩, Below.refl _ _⟩
    · refine wpOp_step (o := { dst := some 66, op := Op.pick (Operand.tmp 59) (Operand.tmp 65) (Operand.const (Value.bool false)), type := 4, pos := "law.go:78", after := #[{ on := 6, ground := Ground.data }, { on := 12, ground := Ground.data }], guard := none }) rfl fun KK hKK => ?_
      have k59 : a1.tmps[59]? = some (.bool true) := hF 6 (by kernel_rfl)
      have g59 := tmp_get k59 (by omega)
      have k65 : a1.tmps[65]? = some (.bool true) := hF 12 (by kernel_rfl)
      have g65 := tmp_get k65 (by omega)
      go_simp
      exact hKK _ _ ⟨B4_put _ 66 _ hB (by decide) (Below.refl _ _), put_same (by omega), ⟨_, 66, _, rfl, rfl, rfl⟩, Below.refl _ _⟩
    · refine wpOp_step (o := { dst := some 67, op := Op.move (Operand.tmp 66), type := 4, pos := "law.go:78", after := #[{ on := 13, ground := Ground.data }, { on := 11, ground := Ground.chain }], guard := none }) rfl fun KK hKK => ?_
      have k66 : a1.tmps[66]? = some (.bool true) := hF 13 (by kernel_rfl)
      have g66 := tmp_get k66 (by omega)
      go_simp
      exact hKK _ _ ⟨B4_put _ 67 _ hB (by decide) (Below.refl _ _), put_same (by omega), ⟨_, 67, _, rfl, rfl, rfl⟩, Below.refl _ _⟩
    · refine wpOp_step (o := { dst := some 68, op := Op.load 39 (Operand.tmp 5), type := 39, pos := "law.go:78", after := #[{ on := 14, ground := Ground.guard }], guard := some (14, true) }) rfl fun KK hKK => ?_
      have k67 : a1.tmps[67]? = some (.bool true) := hF 14 (by kernel_rfl)
      have g67 := tmp_get k67 (by omega)
      obtain ⟨c0, c1, c2, c3⟩ := cells4 (bget' hbw HY.out)
      go_simp
      rw [if_pos (by rw [show (ops4[14]?.bind fun x => x.dst) = some 67 from rfl]; simp [k67])]
      exact hKK _ _ ⟨B4_put _ 68 _ hB (by decide) (Below.refl _ _), put_same (by omega), ⟨_, 68, _, rfl, rfl, rfl⟩, Below.refl _ _⟩
    · refine wpOp_step (o := { dst := some 69, op := Op.call { callee := Callee.value (Operand.func 32), args := #[Operand.tmp 68], argTypes := #[39] }, type := 43, pos := "law.go:78", after := #[{ on := 15, ground := Ground.data }, { on := 14, ground := Ground.chain }, { on := 14, ground := Ground.guard }], guard := some (14, true) }) rfl fun KK hKK => ?_
      have k67 : a1.tmps[67]? = some (.bool true) := hF 14 (by kernel_rfl)
      have g67 := tmp_get k67 (by omega)
      have k68 : a1.tmps[68]? = some (.agg #[z0, z1, z2, z3]) := hF 15 (by kernel_rfl)
      have g68 := tmp_get k68 (by omega)
      go_simp
      rw [if_pos (by rw [show (ops4[14]?.bind fun x => x.dst) = some 67 from rfl]; simp [k67])]
      refine (C32.out w1 hbw).mono ?_
      rintro e w2 ⟨rfl, hb2⟩
      exact hKK _ _ ⟨B4_put _ 69 _ hB (by decide) hb2, put_same (by omega), ⟨_, 69, _, rfl, rfl, rfl⟩, hb2⟩
    · refine wpOp_step (o := { dst := some 70, op := Op.load 39 (Operand.tmp 5), type := 39, pos := "law.go:78", after := #[{ on := 14, ground := Ground.guard }], guard := some (14, true) }) rfl fun KK hKK => ?_
      have k67 : a1.tmps[67]? = some (.bool true) := hF 14 (by kernel_rfl)
      have g67 := tmp_get k67 (by omega)
      obtain ⟨c0, c1, c2, c3⟩ := cells4 (bget' hbw HY.out)
      go_simp
      rw [if_pos (by rw [show (ops4[14]?.bind fun x => x.dst) = some 67 from rfl]; simp [k67])]
      exact hKK _ _ ⟨B4_put _ 70 _ hB (by decide) (Below.refl _ _), put_same (by omega), ⟨_, 70, _, rfl, rfl, rfl⟩, Below.refl _ _⟩
    · refine wpOp_step (o := { dst := some 71, op := Op.call { callee := Callee.value (Operand.func 33), args := #[Operand.tmp 70], argTypes := #[39] }, type := 4, pos := "law.go:78", after := #[{ on := 17, ground := Ground.data }, { on := 16, ground := Ground.chain }, { on := 14, ground := Ground.guard }], guard := some (14, true) }) rfl fun KK hKK => ?_
      have k67 : a1.tmps[67]? = some (.bool true) := hF 14 (by kernel_rfl)
      have g67 := tmp_get k67 (by omega)
      have k70 : a1.tmps[70]? = some (.agg #[z0, z1, z2, z3]) := hF 17 (by kernel_rfl)
      have g70 := tmp_get k70 (by omega)
      go_simp
      rw [if_pos (by rw [show (ops4[14]?.bind fun x => x.dst) = some 67 from rfl]; simp [k67])]
      refine (C33.out w1 hbw).mono ?_
      rintro e w2 ⟨rfl, hb2⟩
      exact hKK _ _ ⟨B4_put _ 71 _ hB (by decide) hb2, put_same (by omega), ⟨_, 71, _, rfl, rfl, rfl⟩, hb2⟩
    · refine wpOp_step (o := { dst := some 72, op := Op.call { callee := Callee.value (Operand.func 25), args := #[Operand.tmp 71], argTypes := #[4] }, type := 43, pos := "law.go:78", after := #[{ on := 18, ground := Ground.data }, { on := 18, ground := Ground.chain }, { on := 14, ground := Ground.guard }], guard := some (14, true) }) rfl fun KK hKK => ?_
      have k67 : a1.tmps[67]? = some (.bool true) := hF 14 (by kernel_rfl)
      have g67 := tmp_get k67 (by omega)
      have k71 : a1.tmps[71]? = some (.bool bY) := hF 18 (by kernel_rfl)
      have g71 := tmp_get k71 (by omega)
      go_simp
      rw [if_pos (by rw [show (ops4[14]?.bind fun x => x.dst) = some 67 from rfl]; simp [k67])]
      refine (err_any _ w1).mono ?_
      rintro e w2 ⟨rfl, hb2⟩
      exact hKK _ _ ⟨B4_put _ 72 _ hB (by decide) hb2, put_same (by omega), ⟨_, 72, _, rfl, rfl, rfl⟩, hb2⟩
    · refine wpOp_step (o := { dst := some 73, op := Op.binOp BinOp.eql 43 (Operand.tmp 69) (Operand.tmp 72) 43, type := 4, pos := "law.go:78", after := #[{ on := 16, ground := Ground.data }, { on := 19, ground := Ground.data }, { on := 14, ground := Ground.guard }], guard := some (14, true) }) rfl fun KK hKK => ?_
      have k67 : a1.tmps[67]? = some (.bool true) := hF 14 (by kernel_rfl)
      have g67 := tmp_get k67 (by omega)
      have k69 : a1.tmps[69]? = some (.int .i64 (errOf bY)) := hF 16 (by kernel_rfl)
      have g69 := tmp_get k69 (by omega)
      have k72 : a1.tmps[72]? = some (.int .i64 (errOf bY)) := hF 19 (by kernel_rfl)
      have g72 := tmp_get k72 (by omega)
      go_simp
      rw [if_pos (by rw [show (ops4[14]?.bind fun x => x.dst) = some 67 from rfl]; simp [k67])]
      exact hKK _ _ ⟨B4_put _ 73 _ hB (by decide) (Below.refl _ _), put_same (by omega), ⟨_, 73, _, rfl, rfl, rfl⟩, Below.refl _ _⟩
    · refine wpOp_step (o := { dst := some 74, op := Op.pick (Operand.tmp 67) (Operand.tmp 73) (Operand.const (Value.bool false)), type := 4, pos := "law.go:78", after := #[{ on := 14, ground := Ground.data }, { on := 20, ground := Ground.data }], guard := none }) rfl fun KK hKK => ?_
      have k67 : a1.tmps[67]? = some (.bool true) := hF 14 (by kernel_rfl)
      have g67 := tmp_get k67 (by omega)
      have k73 : a1.tmps[73]? = some (.bool true) := hF 20 (by kernel_rfl)
      have g73 := tmp_get k73 (by omega)
      go_simp
      exact hKK _ _ ⟨B4_put _ 74 _ hB (by decide) (Below.refl _ _), put_same (by omega), ⟨_, 74, _, rfl, rfl, rfl⟩, Below.refl _ _⟩
    · refine wpOp_step (o := { dst := some 75, op := Op.move (Operand.tmp 74), type := 4, pos := "law.go:78", after := #[{ on := 21, ground := Ground.data }, { on := 19, ground := Ground.chain }], guard := none }) rfl fun KK hKK => ?_
      have k74 : a1.tmps[74]? = some (.bool true) := hF 21 (by kernel_rfl)
      have g74 := tmp_get k74 (by omega)
      go_simp
      exact hKK _ _ ⟨B4_put _ 75 _ hB (by decide) (Below.refl _ _), put_same (by omega), ⟨_, 75, _, rfl, rfl, rfl⟩, Below.refl _ _⟩
    · refine wpOp_step (o := { dst := some 76, op := Op.call { callee := Callee.value (Operand.func 14), args := #[], argTypes := #[] }, type := 4, pos := "law.go:78", after := #[{ on := 22, ground := Ground.chain }, { on := 22, ground := Ground.guard }], guard := some (22, true) }) rfl fun KK hKK => ?_
      have k75 : a1.tmps[75]? = some (.bool true) := hF 22 (by kernel_rfl)
      have g75 := tmp_get k75 (by omega)
      go_simp
      rw [if_pos (by rw [show (ops4[22]?.bind fun x => x.dst) = some 75 from rfl]; simp [k75])]
      refine (C14.out w1).mono ?_
      rintro e w2 ⟨rfl, hb2⟩
      exact hKK _ _ ⟨B4_put _ 76 _ hB (by decide) hb2, put_same (by omega), ⟨_, 76, _, rfl, rfl, rfl⟩, hb2⟩
    · refine wpOp_step (o := { dst := some 77, op := Op.pick (Operand.tmp 75) (Operand.tmp 76) (Operand.const (Value.bool false)), type := 4, pos := "law.go:78", after := #[{ on := 22, ground := Ground.data }, { on := 23, ground := Ground.data }], guard := none }) rfl fun KK hKK => ?_
      have k75 : a1.tmps[75]? = some (.bool true) := hF 22 (by kernel_rfl)
      have g75 := tmp_get k75 (by omega)
      have k76 : a1.tmps[76]? = some (.bool true) := hF 23 (by kernel_rfl)
      have g76 := tmp_get k76 (by omega)
      go_simp
      exact hKK _ _ ⟨B4_put _ 77 _ hB (by decide) (Below.refl _ _), put_same (by omega), ⟨_, 77, _, rfl, rfl, rfl⟩, Below.refl _ _⟩
  case hlast =>
    intro a1 w1 hB hF
    obtain ⟨hsz, hdf, g3, g4, g5, hbw⟩ := hB
    have k77 : a1.tmps[77]? = some (.bool true) := hF 24 (by omega)
    have g77 := tmp_get k77 (by omega)
    refine wpOp_step (o := { dst := some 6, op := Op.assign (Operand.tmp 77), type := 4, pos := "law.go:78", after := #[{ on := 24, ground := Ground.data }, { on := 23, ground := Ground.chain }, { on := 0, ground := Ground.phase }, { on := 1, ground := Ground.phase }, { on := 2, ground := Ground.phase }, { on := 3, ground := Ground.phase }, { on := 4, ground := Ground.phase }, { on := 5, ground := Ground.phase }, { on := 6, ground := Ground.phase }, { on := 7, ground := Ground.phase }, { on := 8, ground := Ground.phase }, { on := 9, ground := Ground.phase }, { on := 10, ground := Ground.phase }, { on := 11, ground := Ground.phase }, { on := 12, ground := Ground.phase }, { on := 13, ground := Ground.phase }, { on := 14, ground := Ground.phase }, { on := 15, ground := Ground.phase }, { on := 16, ground := Ground.phase }, { on := 17, ground := Ground.phase }, { on := 18, ground := Ground.phase }, { on := 19, ground := Ground.phase }, { on := 20, ground := Ground.phase }, { on := 21, ground := Ground.phase }, { on := 22, ground := Ground.phase }, { on := 23, ground := Ground.phase }, { on := 24, ground := Ground.phase }], guard := none }) rfl fun KK hKK => ?_
    go_simp
    exact hKK _ _ (HK.out _ _ (by simp; exact hsz) rfl (put_same (by omega)) hbw)

end Go.Proofs.YtjpahjfjpkbcnaaGreat
