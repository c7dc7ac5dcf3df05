/- Contracts of the program's functions. -/
import Derived.Test.YtjpahjfjpkbcnaaGreatB01
import Derived.ProofKit
import Derived.SizedLaws
import Derived.Deep.Slices
import Derived.Test.YtjpahjfjpkbcnaaGreatB09
import Derived.Test.YtjpahjfjpkbcnaaGreatB08
import Derived.Test.YtjpahjfjpkbcnaaGreatB10
import Derived.Deep.CutBlock
import Derived.Deep.CutRange
import Derived.Test.YtjpahjfjpkbcnaaGreatB02
import Derived.Test.YtjpahjfjpkbcnaaGreatB03
import Derived.Test.YtjpahjfjpkbcnaaGreatB04
import Derived.Test.YtjpahjfjpkbcnaaGreatB05

namespace Go.Proofs.YtjpahjfjpkbcnaaGreat
open Go.ChangeShapes Go.WideShapes Go.ChangeAt Go.RowKit
set_option maxRecDepth 100000
theorem Tryz.own : ownKnob Tryz.prog.godebug = none := by kernel_rfl
theorem Tryz.laidOut : laidOutB Tryz.prog = true := by kernel_rfl
theorem Tz.cells32 : Tryz.prog.cellsOf 32 = 5 := by kernel_rfl
theorem Tz.cells35 : Tryz.prog.cellsOf 35 = 4 := by kernel_rfl
theorem Tz.cells28 : Tryz.prog.cellsOf 28 = 1 := by kernel_rfl
theorem Tz.cells33 : Tryz.prog.cellsOf 33 = 1 := by kernel_rfl
theorem Tz.cells3 : Tryz.prog.cellsOf 3 = 1 := by kernel_rfl
theorem Tz.cells9 : Tryz.prog.cellsOf 9 = 1 := by kernel_rfl
theorem Tz.cells29 : Tryz.prog.cellsOf 29 = 1 := by kernel_rfl
theorem Tz.cells30 : Tryz.prog.cellsOf 30 = 1 := by kernel_rfl
section
variable {H : Type} {enc : TypeId × Value → H} {W : World} {spare : Nat → Bool} {held : Bool}
theorem slice_open {α : Type} [Inhabited α] {t e : TypeId} {size fuel : Nat} {cs : List Value} {x : DataW H × List MemPlace} (ht : Tryz.prog.underlying t = some (.slice e)) (hc : Tryz.prog.cellsOf e = size) (h0 : 0 < size) (At : α → List Value → Prop)
  (hel : ∀ n cs' x', n < fuel → DataW.trod enc Tryz.prog W 0 spare held n e cs' = some x' → ∃ p, At p cs') (h : DataW.trod enc Tryz.prog W 0 spare held fuel t cs = some x) :
  ∃ (v : Value) (ps : List α), cs = [v] ∧ SlV W.heap.size v ps.length fun b o => ∀ i (h : i < ps.length), ∃ cs', cs'.length = size ∧ (∀ j, j < size → W.cell? ⟨b, o + i * size + j, none⟩ = cs'[j]?) ∧ At ps[i] cs' := by
 rcases DataW.trod_slice ht h with ⟨rfl, -⟩ | ⟨a, len, cap, elems, rest, n, rfl, rfl, rfl, hb, hl, hm, hlen, hx, -, -⟩
 ·exact ⟨_, [], rfl, .inl ⟨rfl, none, 0, rfl, Nat.zero_le _⟩⟩
 ·by_cases hz : len = 0
  ·subst hz
   exact ⟨_, [], rfl, .inl ⟨rfl, some a, cap, rfl, hm⟩⟩
  ·rw [hc] at hx
   have each : ∀ i, i < len → ∃ p, ∃ cs', cs'.length = size ∧ (∀ j, j < size → W.cell? ((a.add (i * size)).add j) = cs'[j]?) ∧ At p cs' ∧ W.cells? 0 (a.add (i * size)) size = some cs' := fun i hi => by
    have h1 := hx i hi
    rw [List.getElem?_eq_getElem (by omega)] at h1
    obtain ⟨cs', hcs, hy⟩ := Option.bind_eq_some_iff.1 h1
    obtain ⟨-, hl', hcell⟩ := World.cells?_some hcs
    obtain ⟨p, hp⟩ := hel n cs' _ (Nat.lt_succ_self _) hy
    exact ⟨p, cs', hl', hcell, hp, hcs⟩
   obtain ⟨f, hf⟩ := Go.Deep.choose_lt each
   obtain ⟨cs0, hl0, hc0, -, hcs0⟩ := hf 0 (by omega)
   have ha0 : a.add (0 * size) = a := by rw [Nat.zero_mul]; obtain ⟨b, off, spot⟩ := a; unfold Addr.add; split <;> simp_all
   rw [ha0] at hcs0 hc0
   have hlt : a.block < W.heap.size := World.cells?_block hcs0 h0
   have hsp : a.spot = none := by
    have h1 := hc0 0 h0
    rw [List.getElem?_eq_getElem (by omega)] at h1
    have h2 := World.cell?_spot h1
    obtain ⟨b, off, spot⟩ := a
    unfold Addr.add at h2
    split at h2 <;> simp_all
   obtain ⟨b, off, spot⟩ := a
   simp only at hsp
   subst hsp
   have hps : ((List.range len).map f).length = len := by simp
   refine ⟨_, (List.range len).map f, rfl, .inr ⟨b, off, cap, ?_, ?_, hm, hlt, fun i hi => ?_⟩⟩
   ·rw [hps]
   ·rw [hps]; exact hl
   ·have hi' : i < len := by rw [hps] at hi; exact hi
    obtain ⟨cs', h1, h2, h3, -⟩ := hf i hi'
    refine ⟨cs', h1, fun j hj => ?_, ?_⟩
    ·have := h2 j hj
     rw [add_plain, add_plain] at this
     exact this
    ·simpa using h3
theorem cells_four {w : World} {b o : Nat} {cs : List Value} (hl : cs.length = 4) (h : ∀ j, j < 4 → w.cell? ⟨b, o + j, none⟩ = cs[j]?) :
  ∃ c0 c1 c2 c3, cs = [c0, c1, c2, c3] ∧ w.cell? ⟨b, o, none⟩ = some c0 ∧ w.cell? ⟨b, o + 1, none⟩ = some c1 ∧ w.cell? ⟨b, o + 2, none⟩ = some c2 ∧ w.cell? ⟨b, o + 3, none⟩ = some c3 := by
 match cs, hl with
 | [c0, c1, c2, c3], _ => exact ⟨c0, c1, c2, c3, rfl, h 0 (by omega), h 1 (by omega), h 2 (by omega), h 3 (by omega)⟩
theorem cells_five {w : World} {b o : Nat} {cs : List Value} (hl : cs.length = 5) (h : ∀ j, j < 5 → w.cell? ⟨b, o + j, none⟩ = cs[j]?) :
  ∃ c0 c1 c2 c3 c4, cs = [c0, c1, c2, c3, c4] ∧ w.cell? ⟨b, o, none⟩ = some c0 ∧ w.cell? ⟨b, o + 1, none⟩ = some c1 ∧ w.cell? ⟨b, o + 2, none⟩ = some c2 ∧ w.cell? ⟨b, o + 3, none⟩ = some c3 ∧ w.cell? ⟨b, o + 4, none⟩ = some c4 := by
 match cs, hl with
 | [c0, c1, c2, c3, c4], _ => exact ⟨c0, c1, c2, c3, c4, rfl, h 0 (by omega), h 1 (by omega), h 2 (by omega), h 3 (by omega), h 4 (by omega)⟩
theorem ptsAt_of {n₀ : Nat} {w : World} {b : Nat} : ∀ (ps : List Pt) (o : Nat), (∀ i (h : i < ps.length), ∃ cs' : List Value, cs'.length = 4 ∧ (∀ j, j < 4 → w.cell? ⟨b, o + i * 4 + j, none⟩ = cs'[j]?) ∧ PtAt n₀ w ps[i] (.agg cs'.toArray)) → PtsAt n₀ w ps b o
 | [], _, _ => by unfold PtsAt; trivial
 | p :: ps, o, h => by
  unfold PtsAt
  refine ⟨?_, ptsAt_of ps (o + 4) fun i hi => ?_⟩
  ·obtain ⟨cs, hl, hc, hp⟩ := h 0 (Nat.succ_pos _)
   rw [Nat.zero_mul, Nat.add_zero] at hc
   obtain ⟨c0, c1, c2, c3, rfl, h0, h1, h2, h3⟩ := cells_four hl hc
   exact ⟨c0, c1, c2, c3, h0, h1, h2, h3, hp⟩
  ·have := h (i + 1) (by simpa using hi)
   rw [show o + (i + 1) * 4 = o + 4 + i * 4 by omega] at this
   exact this
theorem tmsAt_of {n₀ : Nat} {w : World} {b : Nat} : ∀ (ps : List Tm) (o : Nat), (∀ i (h : i < ps.length), ∃ cs' : List Value, cs'.length = 5 ∧ (∀ j, j < 5 → w.cell? ⟨b, o + i * 5 + j, none⟩ = cs'[j]?) ∧ TmAt n₀ w ps[i] (.agg cs'.toArray)) → TmsAt n₀ w ps b o
 | [], _, _ => by unfold TmsAt; trivial
 | p :: ps, o, h => by
  unfold TmsAt
  refine ⟨?_, tmsAt_of ps (o + 5) fun i hi => ?_⟩
  ·obtain ⟨cs, hl, hc, hp⟩ := h 0 (Nat.succ_pos _)
   rw [Nat.zero_mul, Nat.add_zero] at hc
   obtain ⟨c0, c1, c2, c3, c4, rfl, h0, h1, h2, h3, h4⟩ := cells_five hl hc
   exact ⟨c0, c1, c2, c3, c4, h0, h1, h2, h3, h4, hp⟩
  ·have := h (i + 1) (by simpa using hi)
   rw [show o + (i + 1) * 5 = o + 5 + i * 5 by omega] at this
   exact this
theorem pt_open : ∀ (fuel : Nat) (cs : List Value) (x : DataW H × List MemPlace), DataW.trod enc Tryz.prog W 0 spare held fuel 35 cs = some x → ∃ p : Pt, PtAt W.heap.size W p (.agg cs.toArray) := by
 intro fuel
 induction fuel using Nat.strongRecOn with
 | _ fuel ih =>
 intro cs x h
 obtain ⟨xs, n, rfl, rfl, hl, hxl, hf⟩ := DataW.trod_struct Tryz.underlying35 h
 rw [Tz.cells35] at hl
 have hxl' : xs.length = 4 := hxl
 match cs, hl, xs, hxl', hf with
 | [c0, c1, c2, c3], _, [y0, y1, y2, y3], _, hf =>
  have f0 : DataW.trod enc Tryz.prog W 0 spare held n 33 (List.take (Tryz.prog.cellsOf 33) (List.drop 0 [c0, c1, c2, c3])) = some y0 := hf 0 _ rfl
  rw [Tz.cells33] at f0
  change DataW.trod enc Tryz.prog W 0 spare held n 33 [c0] = some y0 at f0
  have f1 : DataW.trod enc Tryz.prog W 0 spare held n 3 (List.take (Tryz.prog.cellsOf 3) (List.drop 1 [c0, c1, c2, c3])) = some y1 := hf 1 _ rfl
  rw [Tz.cells3] at f1
  change DataW.trod enc Tryz.prog W 0 spare held n 3 [c1] = some y1 at f1
  have f2 : DataW.trod enc Tryz.prog W 0 spare held n 9 (List.take (Tryz.prog.cellsOf 9) (List.drop 2 [c0, c1, c2, c3])) = some y2 := hf 2 _ rfl
  rw [Tz.cells9] at f2
  change DataW.trod enc Tryz.prog W 0 spare held n 9 [c2] = some y2 at f2
  have f3 : DataW.trod enc Tryz.prog W 0 spare held n 30 (List.take (Tryz.prog.cellsOf 30) (List.drop 3 [c0, c1, c2, c3])) = some y3 := hf 3 _ rfl
  rw [Tz.cells30] at f3
  change DataW.trod enc Tryz.prog W 0 spare held n 30 [c3] = some y3 at f3
  obtain ⟨m0, e0, -, -⟩ := DataW.trod_int Tryz.underlying33 f0
  obtain ⟨m1, e1, -, -⟩ := DataW.trod_int Tryz.underlying3 f1
  obtain ⟨s, e2, -, hs⟩ := DataW.trod_string Tryz.underlying9 f2
  obtain ⟨v, ps, e3, hsl⟩ := slice_open (α := Pt) Tryz.underlying30 Tz.cells35 (by decide) (fun p cs => PtAt W.heap.size W p (.agg cs.toArray)) (fun k cs' x' hk h' => ih k (by omega) cs' x' h') f3
  simp only [List.cons.injEq, and_true] at e0 e1 e2 e3
  subst e0 e1 e2 e3
  refine ⟨.mk m0 m1 s ps, ?_⟩
  unfold PtAt
  exact ⟨_, rfl, hs, hsl.mono (Nat.le_refl _) fun b o _ hr => ptsAt_of ps o hr⟩
theorem tm_open : ∀ (fuel : Nat) (cs : List Value) (x : DataW H × List MemPlace), DataW.trod enc Tryz.prog W 0 spare held fuel 32 cs = some x → ∃ p : Tm, TmAt W.heap.size W p (.agg cs.toArray) := by
 intro fuel
 induction fuel using Nat.strongRecOn with
 | _ fuel ih =>
 intro cs x h
 obtain ⟨xs, n, rfl, rfl, hl, hxl, hf⟩ := DataW.trod_struct Tryz.underlying32 h
 rw [Tz.cells32] at hl
 have hxl' : xs.length = 5 := hxl
 match cs, hl, xs, hxl', hf with
 | [c0, c1, c2, c3, c4], _, [y0, y1, y2, y3, y4], _, hf =>
  have f0 : DataW.trod enc Tryz.prog W 0 spare held n 28 (List.take (Tryz.prog.cellsOf 28) (List.drop 0 [c0, c1, c2, c3, c4])) = some y0 := hf 0 _ rfl
  rw [Tz.cells28] at f0
  change DataW.trod enc Tryz.prog W 0 spare held n 28 [c0] = some y0 at f0
  have f1 : DataW.trod enc Tryz.prog W 0 spare held n 3 (List.take (Tryz.prog.cellsOf 3) (List.drop 1 [c0, c1, c2, c3, c4])) = some y1 := hf 1 _ rfl
  rw [Tz.cells3] at f1
  change DataW.trod enc Tryz.prog W 0 spare held n 3 [c1] = some y1 at f1
  have f2 : DataW.trod enc Tryz.prog W 0 spare held n 9 (List.take (Tryz.prog.cellsOf 9) (List.drop 2 [c0, c1, c2, c3, c4])) = some y2 := hf 2 _ rfl
  rw [Tz.cells9] at f2
  change DataW.trod enc Tryz.prog W 0 spare held n 9 [c2] = some y2 at f2
  have f3 : DataW.trod enc Tryz.prog W 0 spare held n 29 (List.take (Tryz.prog.cellsOf 29) (List.drop 3 [c0, c1, c2, c3, c4])) = some y3 := hf 3 _ rfl
  rw [Tz.cells29] at f3
  change DataW.trod enc Tryz.prog W 0 spare held n 29 [c3] = some y3 at f3
  have f4 : DataW.trod enc Tryz.prog W 0 spare held n 30 (List.take (Tryz.prog.cellsOf 30) (List.drop 4 [c0, c1, c2, c3, c4])) = some y4 := hf 4 _ rfl
  rw [Tz.cells30] at f4
  change DataW.trod enc Tryz.prog W 0 spare held n 30 [c4] = some y4 at f4
  obtain ⟨m0, e0, -, -⟩ := DataW.trod_int Tryz.underlying28 f0
  obtain ⟨m1, e1, -, -⟩ := DataW.trod_int Tryz.underlying3 f1
  obtain ⟨s, e2, -, hs⟩ := DataW.trod_string Tryz.underlying9 f2
  obtain ⟨v, ps, e3, hsl⟩ := slice_open (α := Tm) Tryz.underlying29 Tz.cells32 (by decide) (fun p cs => TmAt W.heap.size W p (.agg cs.toArray)) (fun k cs' x' hk h' => ih k (by omega) cs' x' h') f3
  obtain ⟨v', qs, e4, hsl'⟩ := slice_open (α := Pt) Tryz.underlying30 Tz.cells35 (by decide) (fun p cs => PtAt W.heap.size W p (.agg cs.toArray)) (fun k cs' x' hk h' => pt_open k cs' x' h') f4
  simp only [List.cons.injEq, and_true] at e0 e1 e2 e3 e4
  subst e0 e1 e2 e3 e4
  refine ⟨.mk m0 m1 s ps qs, ?_⟩
  unfold TmAt
  exact ⟨_, _, rfl, hs, hsl.mono (Nat.le_refl _) fun b o _ hr => tmsAt_of ps o hr, hsl'.mono (Nat.le_refl _) fun b o _ hr => ptsAt_of qs o hr⟩
theorem open_tm {r : Reach} {b0 : Nat} {v : Value} {d : DataW H} {ps : List MemPlace} (hv : Value.okWide Tryz.prog W r b0 32 v) (h : DataW.Trod enc Tryz.prog W 0 spare held 32 v d ps) : ∃ T : Tm, TmAt W.heap.size W T v := by
 obtain ⟨cs, rfl, -⟩ := okWide_struct Tryz.underlying32 hv
 obtain ⟨fuel, hf⟩ := h
 obtain ⟨T, hT⟩ := tm_open fuel _ _ hf
 exact ⟨T, by simpa [Value.cells] using hT⟩
end
end Go.Proofs.YtjpahjfjpkbcnaaGreat
namespace Go.Proofs.YtjpahjfjpkbcnaaGreat
open Go.Proofs Go.RowKit
mutual
def weighP : Pt → Int → Int
 | .mk _ _ _ ps, left => if left < 1 then -1 else weighsP ps (left - 1)
def weighsP : List Pt → Int → Int
 | [], left => left
 | p :: ps, left => if left < 0 then left else weighsP ps (weighP p left)
end
mutual
theorem weighP_bound : ∀ (p : Pt) (left : Int), -1 ≤ weighP p left ∧ (1 ≤ left → weighP p left ≤ left - 1)
 | .mk _ _ _ ps, left => by
  unfold weighP
  split
  ·exact ⟨by omega, fun h => by omega⟩
  ·have := weighsP_bound ps (left - 1) (by omega)
   exact ⟨this.1, fun _ => this.2⟩
theorem weighsP_bound : ∀ (ps : List Pt) (left : Int), -1 ≤ left → -1 ≤ weighsP ps left ∧ weighsP ps left ≤ left
 | [], left, h => by unfold weighsP; exact ⟨h, Int.le_refl _⟩
 | p :: ps, left, h => by
  unfold weighsP
  split
  ·exact ⟨h, Int.le_refl _⟩
  ·have h1 := weighP_bound p left
   have h2 := weighsP_bound ps (weighP p left) h1.1
   refine ⟨h2.1, ?_⟩
   by_cases h3 : 1 ≤ left
   ·have := h1.2 h3; omega
   ·have h4 : weighP p left = -1 := by
     cases p with
     | mk a b c d => unfold weighP; rw [if_pos (by omega)]
    omega
end
theorem weighsP_neg : ∀ (ps : List Pt) (left : Int), left < 0 → weighsP ps left = left
 | [], left, _ => by unfold weighsP; rfl
 | p :: ps, left, h => by unfold weighsP; rw [if_pos h]
set_option maxHeartbeats 2000000 in
set_option maxRecDepth 100000 in
theorem WeighPat_any (p : Pt) : ∀ (left : Int) (v : Value) (w : World), PtAt w.heap.size w p v → -1 ≤ left → left ≤ 1000 →
  Calls Tryz.prog 68 #[v, .int .i64 left] w fun e w' => e = .returned (.int .i64 (weighP p left)) ∧ Below w.heap.size w w' := by
 induction hT : SizeOf.sizeOf p using Nat.strongRecOn generalizing p with
 | _ m ih =>
 subst hT
 intro left v w hv hl0 hl1
 have HIH := lh ih; clear ih
 cases p with
 | mk op n text parts =>
 unfold PtAt at hv
 obtain ⟨kv, rfl, htx, hk⟩ := hv
 obtain ⟨a, cap, rfl, hcap, hlc, hka⟩ := hk.split
 have hbx := heap_alloc_new w (.cells #[.int .i64 op, .int .i64 n, .string text, .slice a parts.length cap] 35)
 have hb0 := (Below.refl w.heap.size w).alloc (Nat.le_refl _) (.cells #[.int .i64 op, .int .i64 n, .string text, .slice a parts.length cap] 35)
 unfold maxLen at hcap
 by_cases h1 : left < 1
 ·have hr : weighP (.mk op n text parts) left = -1 := by unfold weighP; rw [if_pos h1]
  rw [hr]
  clear hr hk hka hbx HIH
  go_enter Tryz.func68, Tryz.ntmps68
  go_wp2
  go_ret
  exact ⟨rfl, hb0⟩
 ·have hr : weighP (.mk op n text parts) left = weighsP parts (left - 1) := by conv => lhs; unfold weighP; rw [if_neg h1]
  have HR := lh hr
  have HKA := lh hka; have HBX := lh hbx; have HB0 := lh hb0
  clear hk hka hbx hb0 hr
  have hw1 : IntKind.i64.wrap (left - 1) = left - 1 := by rw [IntKind.wrap_i64]; omega
  go_enter Tryz.func68, Tryz.ntmps68
  go_wp2
  go_loopw [1, 5] (fun l i wr => ∃ (k : Nat) (left' : Int), k ≤ parts.length ∧ i = .int .i64 k ∧ l = .int .i64 left' ∧ -1 ≤ left' ∧ left' ≤ 1000 ∧ Hid (weighP (.mk op n text parts) left = weighsP (parts.drop k) left') ∧ Below (w.heap.size + 1) (w.alloc (.cells #[.int .i64 op, .int .i64 n, .string text, .slice a parts.length cap] 35)) wr) (fun _ i _ => parts.length - (intOf i).toNat)
  case atStart => exact ⟨0, left - 1, Nat.zero_le _, rfl, (by first | rfl | rw [hw1]), by omega, by omega, HR.o, Below.refl _ _⟩
  case round =>
   obtain ⟨k, left', hk, rfl, rfl, hl0', hl1', HP, hB⟩ := hrel
   have hbx := bget hB HBX.o (by omega)
   obtain ⟨c0, c1, c2, c3⟩ := cells4 hbx
   have hbw : Below w.heap.size w wr := HB0.o.trans (hB.mono (by omega))
   have hsz : w.heap.size + 1 ≤ wr.heap.size := by have := hB.size; simp at this; omega
   by_cases hlt : k < parts.length
   ·by_cases hneg : left' < 0
    ·have hlt' : (k : Int) < (parts.length : Int) := by omega
     have hneg' : ¬ (0 ≤ left') := by omega
     have hend : weighP (.mk op n text parts) left = left' := by rw [HP.o, weighsP_neg _ _ hneg]
     have HEND := lh hend; have HBW := lh hbw
     clear hend hbw hbx
     go_wp2
     go_ret
     exact ⟨ret_int HEND.o.symm, HBW.o⟩
    ·have hlt' : (k : Int) < (parts.length : Int) := by omega
     have hneg' : 0 ≤ left' := by omega
     obtain ⟨b, o, rfl, hbn, hps⟩ := HKA.o (by omega)
     obtain ⟨e0, e1, e2, e3, g0, g1, g2, g3, ht⟩ := PtsAt.get parts b o hps k hlt
     obtain ⟨oo, nn, tt, ka, kn, kc, rfl, rfl, rfl, rfl⟩ := ht.shape
     have q0 := (hbw.cell (p := ⟨b, _, none⟩) hbn).trans g0
     have q1 := (hbw.cell (p := ⟨b, _, none⟩) hbn).trans g1
     have q2 := (hbw.cell (p := ⟨b, _, none⟩) hbn).trans g2
     have q3 := (hbw.cell (p := ⟨b, _, none⟩) hbn).trans g3
     have hcl := HIH.o _ (kid_ltP k hlt) parts[k] rfl left' _ wr (PtAt.keep hbw hbw.size _ _ ht) hl0' hl1'
     have hnx : weighP (.mk op n text parts) left = weighsP (parts.drop (k + 1)) (weighP parts[k] left') := by
      rw [HP.o, List.drop_eq_getElem_cons hlt]
      conv => lhs; unfold weighsP
      rw [if_neg hneg]
     have hbd := weighP_bound parts[k] left'
     have HC := lh hcl; have HB := lh hB; have HNX := lh hnx; have HBD := lh hbd
     clear hcl hB hbx hbw g0 g1 g2 g3 ht hps hnx hbd HP
     go_wp2_with fail
     refine HC.o.mono ?_
     rintro e w1 ⟨rfl, hb1⟩
     have HB1 := lh (HB.o.trans (hb1.mono hsz))
     clear hb1 HC c0 c1 c2 c3 q0 q1 q2 q3
     go_wp2
     go_roundw
     case rel =>
      refine ⟨k + 1, weighP parts[k] left', by omega, by go_num, rfl, HBD.o.1, ?_, HNX.o, HB1.o⟩
      by_cases h : 1 ≤ left'
      ·have := HBD.o.2 h; omega
      ·have h4 : weighP parts[k] left' = -1 := by
        generalize parts[k] = q
        cases q with
        | mk a b c d => unfold weighP; rw [if_pos (by omega)]
       omega
     case measure => simp [intOf]; omega
   ·have hlt' : ¬ ((k : Int) < (parts.length : Int)) := by omega
    have hend : weighP (.mk op n text parts) left = left' := by
     rw [HP.o, List.drop_eq_nil_of_le (by omega)]
     unfold weighsP; rfl
    have HEND := lh hend; have HBW := lh hbw
    clear hend hbw hbx
    go_wp2
    go_ret
    exact ⟨ret_int HEND.o.symm, HBW.o⟩
mutual
def weighM : Tm → Int → Int → Int
 | .mk _ _ _ ks _, left, depth => if left < 1 ∨ depth < 1 then -1 else weighsM ks (left - 1) (depth - 1)
def weighsM : List Tm → Int → Int → Int
 | [], left, _ => left
 | p :: ps, left, depth => if left < 0 then left else weighsM ps (weighM p left depth) depth
end
theorem weighM_low {p : Tm} {left depth : Int} (h : left < 1 ∨ depth < 1) : weighM p left depth = -1 := by
 cases p with
 | mk a b c d e => unfold weighM; rw [if_pos h]
mutual
theorem weighM_bound : ∀ (p : Tm) (left depth : Int), -1 ≤ weighM p left depth ∧ (1 ≤ left → weighM p left depth ≤ left - 1)
 | .mk _ _ _ ps _, left, depth => by
  unfold weighM
  split
  ·exact ⟨by omega, fun h => by omega⟩
  ·have := weighsM_bound ps (left - 1) (depth - 1) (by omega)
   exact ⟨this.1, fun _ => this.2⟩
theorem weighsM_bound : ∀ (ps : List Tm) (left depth : Int), -1 ≤ left → -1 ≤ weighsM ps left depth ∧ weighsM ps left depth ≤ left
 | [], left, depth, h => by unfold weighsM; exact ⟨h, Int.le_refl _⟩
 | p :: ps, left, depth, h => by
  unfold weighsM
  split
  ·exact ⟨h, Int.le_refl _⟩
  ·have h1 := weighM_bound p left depth
   have h2 := weighsM_bound ps (weighM p left depth) depth h1.1
   refine ⟨h2.1, ?_⟩
   by_cases h3 : 1 ≤ left
   ·have := h1.2 h3; omega
   ·have h4 : weighM p left depth = -1 := weighM_low (.inl (by omega))
    omega
end
theorem weighsM_neg : ∀ (ps : List Tm) (left depth : Int), left < 0 → weighsM ps left depth = left
 | [], left, _, _ => by unfold weighsM; rfl
 | p :: ps, left, _, h => by unfold weighsM; rw [if_pos h]
set_option maxHeartbeats 2000000 in
set_option maxRecDepth 100000 in
theorem Weigh_any (p : Tm) : ∀ (left depth : Int) (v : Value) (w : World), TmAt w.heap.size w p v → -1 ≤ left → left ≤ 1000 → -1 ≤ depth → depth ≤ 1000 →
  Calls Tryz.prog 66 #[v, .int .i64 left, .int .i64 depth] w fun e w' => e = .returned (.int .i64 (weighM p left depth)) ∧ Below w.heap.size w w' := by
 induction hT : SizeOf.sizeOf p using Nat.strongRecOn generalizing p with
 | _ m ih =>
 subst hT
 intro left depth v w hv hl0 hl1 hd0 hd1
 have HIH := lh ih; clear ih
 cases p with
 | mk op n text kids pats =>
 unfold TmAt at hv
 obtain ⟨kv, pv, rfl, htx, hk, hp⟩ := hv
 obtain ⟨a, cap, rfl, hcap, hlc, hka⟩ := hk.split
 obtain ⟨a', cap', rfl, -⟩ := hp.split
 have hbx := heap_alloc_new w (.cells #[.int .i64 op, .int .i64 n, .string text, .slice a kids.length cap, .slice a' pats.length cap'] 32)
 have hb0 := (Below.refl w.heap.size w).alloc (Nat.le_refl _) (.cells #[.int .i64 op, .int .i64 n, .string text, .slice a kids.length cap, .slice a' pats.length cap'] 32)
 unfold maxLen at hcap
 by_cases h1 : left < 1
 ·rw [weighM_low (.inl h1)]
  clear hk hp hka hbx HIH
  go_enter Tryz.func66, Tryz.ntmps66
  go_wp2
  go_ret
  exact ⟨rfl, hb0⟩
 by_cases h2 : depth < 1
 ·rw [weighM_low (.inr h2)]
  clear hk hp hka hbx HIH
  go_enter Tryz.func66, Tryz.ntmps66
  go_wp2
  go_ret
  exact ⟨rfl, hb0⟩
 ·have hr : weighM (.mk op n text kids pats) left depth = weighsM kids (left - 1) (depth - 1) := by conv => lhs; unfold weighM; rw [if_neg (by omega)]
  have HR := lh hr
  have HKA := lh hka; have HBX := lh hbx; have HB0 := lh hb0
  clear hk hp hka hbx hb0 hr
  have hw1 : IntKind.i64.wrap (left - 1) = left - 1 := by rw [IntKind.wrap_i64]; omega
  have hw2 : IntKind.i64.wrap (depth - 1) = depth - 1 := by rw [IntKind.wrap_i64]; omega
  go_enter Tryz.func66, Tryz.ntmps66
  go_wp2
  go_loopw [1, 7] (fun l i wr => ∃ (k : Nat) (left' : Int), k ≤ kids.length ∧ i = .int .i64 k ∧ l = .int .i64 left' ∧ -1 ≤ left' ∧ left' ≤ 1000 ∧ Hid (weighM (.mk op n text kids pats) left depth = weighsM (kids.drop k) left' (depth - 1)) ∧ Below (w.heap.size + 1) (w.alloc (.cells #[.int .i64 op, .int .i64 n, .string text, .slice a kids.length cap, .slice a' pats.length cap'] 32)) wr) (fun _ i _ => kids.length - (intOf i).toNat)
  case atStart => exact ⟨0, left - 1, Nat.zero_le _, rfl, (by first | rfl | rw [hw1]), by omega, by omega, HR.o, Below.refl _ _⟩
  case round =>
   obtain ⟨k, left', hk, rfl, rfl, hl0', hl1', HP, hB⟩ := hrel
   have hbx := bget hB HBX.o (by omega)
   obtain ⟨c0, c1, c2, c3, c4⟩ := cells5 hbx
   have hbw : Below w.heap.size w wr := HB0.o.trans (hB.mono (by omega))
   have hsz : w.heap.size + 1 ≤ wr.heap.size := by have := hB.size; simp at this; omega
   by_cases hlt : k < kids.length
   ·by_cases hneg : left' < 0
    ·have hlt' : (k : Int) < (kids.length : Int) := by omega
     have hneg' : ¬ (0 ≤ left') := by omega
     have hend : weighM (.mk op n text kids pats) left depth = left' := by rw [HP.o, weighsM_neg _ _ _ hneg]
     have HEND := lh hend; have HBW := lh hbw
     clear hend hbw hbx
     go_wp2
     go_ret
     exact ⟨ret_int HEND.o.symm, HBW.o⟩
    ·have hlt' : (k : Int) < (kids.length : Int) := by omega
     have hneg' : 0 ≤ left' := by omega
     obtain ⟨b, o, rfl, hbn, hps⟩ := HKA.o (by omega)
     obtain ⟨e0, e1, e2, e3, e4, g0, g1, g2, g3, g4, ht⟩ := TmsAt.get kids b o hps k hlt
     obtain ⟨oo, nn, tt, ka, kn, kc, pa, pn, pc, rfl, rfl, rfl, rfl, rfl⟩ := ht.shape
     have q0 := (hbw.cell (p := ⟨b, _, none⟩) hbn).trans g0
     have q1 := (hbw.cell (p := ⟨b, _, none⟩) hbn).trans g1
     have q2 := (hbw.cell (p := ⟨b, _, none⟩) hbn).trans g2
     have q3 := (hbw.cell (p := ⟨b, _, none⟩) hbn).trans g3
     have q4 := (hbw.cell (p := ⟨b, _, none⟩) hbn).trans g4
     have hcl := HIH.o _ (kid_lt k hlt) kids[k] rfl left' (depth - 1) _ wr (TmAt.keep hbw hbw.size _ _ ht) hl0' hl1' (by omega) (by omega)
     have hnx : weighM (.mk op n text kids pats) left depth = weighsM (kids.drop (k + 1)) (weighM kids[k] left' (depth - 1)) (depth - 1) := by
      rw [HP.o, List.drop_eq_getElem_cons hlt]
      conv => lhs; unfold weighsM
      rw [if_neg hneg]
     have hbd := weighM_bound kids[k] left' (depth - 1)
     have HC := lh hcl; have HB := lh hB; have HNX := lh hnx; have HBD := lh hbd
     clear hcl hB hbx hbw g0 g1 g2 g3 g4 ht hps hnx hbd HP
     go_wp2_with fail
     refine HC.o.mono ?_
     rintro e w1 ⟨rfl, hb1⟩
     have HB1 := lh (HB.o.trans (hb1.mono hsz))
     clear hb1 HC c0 c1 c2 c3 c4 q0 q1 q2 q3 q4
     go_wp2
     go_roundw
     case rel =>
      refine ⟨k + 1, weighM kids[k] left' (depth - 1), by omega, by go_num, rfl, HBD.o.1, ?_, HNX.o, HB1.o⟩
      by_cases h : 1 ≤ left'
      ·have := HBD.o.2 h; omega
      ·rw [weighM_low (.inl (by omega))]; omega
     case measure => simp [intOf]; omega
   ·have hlt' : ¬ ((k : Int) < (kids.length : Int)) := by omega
    have hend : weighM (.mk op n text kids pats) left depth = left' := by
     rw [HP.o, List.drop_eq_nil_of_le (by omega)]
     unfold weighsM; rfl
    have HEND := lh hend; have HBW := lh hbw
    clear hend hbw hbx
    go_wp2
    go_ret
    exact ⟨ret_int HEND.o.symm, HBW.o⟩
mutual
def smallP : Pt → Bool
 | .mk _ _ t ps => smallsP ps && decide (t.size ≤ 30)
def smallsP : List Pt → Bool
 | [] => true
 | p :: ps => smallP p && smallsP ps
end
theorem smallsP_drop (ps : List Pt) (k : Nat) (h : k < ps.length) : smallsP (ps.drop k) = (smallP ps[k] && smallsP (ps.drop (k + 1))) := by
 rw [List.drop_eq_getElem_cons h]
 conv => lhs; unfold smallsP
set_option maxHeartbeats 2000000 in
set_option maxRecDepth 100000 in
theorem smallPat_any (p : Pt) : ∀ (v : Value) (w : World), PtAt w.heap.size w p v →
  Calls Tryz.prog 69 #[v] w fun e w' => e = .returned (.bool (smallP p)) ∧ Below w.heap.size w w' := by
 induction hT : SizeOf.sizeOf p using Nat.strongRecOn generalizing p with
 | _ m ih =>
 subst hT
 intro v w hv
 have HIH := lh ih; clear ih
 cases p with
 | mk op n text parts =>
 unfold PtAt at hv
 obtain ⟨kv, rfl, htx, hk⟩ := hv
 obtain ⟨a, cap, rfl, hcap, hlc, hka⟩ := hk.split
 have hbx := heap_alloc_new w (.cells #[.int .i64 op, .int .i64 n, .string text, .slice a parts.length cap] 35)
 have hb0 := (Below.refl w.heap.size w).alloc (Nat.le_refl _) (.cells #[.int .i64 op, .int .i64 n, .string text, .slice a parts.length cap] 35)
 unfold maxLen at hcap htx
 have hr : smallP (.mk op n text parts) = (smallsP parts && decide (text.size ≤ 30)) := by conv => lhs; unfold smallP
 have HR := lh hr
 have HKA := lh hka; have HBX := lh hbx; have HB0 := lh hb0
 clear hk hka hbx hb0 hr
 go_enter Tryz.func69, Tryz.ntmps69
 go_wp2
 go_loopw [3] (fun i wr => ∃ (k : Nat), k ≤ parts.length ∧ i = .int .i64 k ∧ Hid (smallsP parts = smallsP (parts.drop k)) ∧ Below (w.heap.size + 1) (w.alloc (.cells #[.int .i64 op, .int .i64 n, .string text, .slice a parts.length cap] 35)) wr) (fun i _ => parts.length - (intOf i).toNat)
 case atStart => exact ⟨0, Nat.zero_le _, rfl, rfl, Below.refl _ _⟩
 case round =>
  obtain ⟨k, hk, rfl, HP, hB⟩ := hrel
  have hbx := bget hB HBX.o (by omega)
  obtain ⟨c0, c1, c2, c3⟩ := cells4 hbx
  have hbw : Below w.heap.size w wr := HB0.o.trans (hB.mono (by omega))
  have hsz : w.heap.size + 1 ≤ wr.heap.size := by have := hB.size; simp at this; omega
  by_cases hlt : k < parts.length
  ·have hlt' : (k : Int) < (parts.length : Int) := by omega
   obtain ⟨b, o, rfl, hbn, hps⟩ := HKA.o (by omega)
   obtain ⟨e0, e1, e2, e3, g0, g1, g2, g3, ht⟩ := PtsAt.get parts b o hps k hlt
   obtain ⟨oo, nn, tt, ka, kn, kc, rfl, rfl, rfl, rfl⟩ := ht.shape
   have q0 := (hbw.cell (p := ⟨b, _, none⟩) hbn).trans g0
   have q1 := (hbw.cell (p := ⟨b, _, none⟩) hbn).trans g1
   have q2 := (hbw.cell (p := ⟨b, _, none⟩) hbn).trans g2
   have q3 := (hbw.cell (p := ⟨b, _, none⟩) hbn).trans g3
   have hcl := HIH.o _ (kid_ltP k hlt) parts[k] rfl _ wr (PtAt.keep hbw hbw.size _ _ ht)
   have hd := smallsP_drop parts k hlt
   cases hx : smallP parts[k] with
   | true =>
    rw [hx, Bool.true_and] at hd
    rw [hx] at hcl
    have HC := lh hcl; have HB := lh hB; have HD := lh hd
    clear hcl hB hbx hbw g0 g1 g2 g3 ht hps hd hx
    go_wp2_with fail
    refine HC.o.mono ?_
    rintro e w1 ⟨rfl, hb1⟩
    have HB1 := lh (HB.o.trans (hb1.mono hsz))
    clear hb1 HC c0 c1 c2 c3 q0 q1 q2 q3
    go_wp2
    go_roundw
    case rel => exact ⟨k + 1, by omega, by go_num, by unfold Hid; rw [HP.o, HD.o], HB1.o⟩
    case measure => simp [intOf]; omega
   | false =>
    rw [hx, Bool.false_and] at hd
    rw [hx] at hcl
    have hend : smallP (.mk op n text parts) = false := by rw [HR.o, HP.o, hd]; rfl
    have HC := lh hcl; have HBW := lh hbw; have HEND := lh hend
    clear hcl hbx hbw g0 g1 g2 g3 ht hps hd hx hend
    go_wp2_with fail
    refine HC.o.mono ?_
    rintro e w1 ⟨rfl, hb1⟩
    have HB1 := lh (HBW.o.trans (hb1.mono HBW.o.size))
    clear hb1 HC c0 c1 c2 c3 q0 q1 q2 q3
    go_wp2
    go_ret
    exact ⟨ret_bool HEND.o.symm, HB1.o⟩
  ·have hlt' : ¬ ((k : Int) < (parts.length : Int)) := by omega
   have hend : smallP (.mk op n text parts) = decide (text.size ≤ 30) := by
    rw [HR.o, HP.o, List.drop_eq_nil_of_le (by omega)]
    unfold smallsP; rfl
   have HEND := lh hend; have HBW := lh hbw
   clear hend hbw hbx
   go_wp2
   go_ret
   exact ⟨ret_bool (by rw [HEND.o, Bool.eq_iff_iff]; simp; omega), HBW.o⟩
def SmallPatB (p : Pt) : Bool := decide (0 ≤ weighP p 16) && smallP p
set_option maxHeartbeats 1000000 in
theorem SmallPat_any (p : Pt) (v : Value) (w : World) (hv : PtAt w.heap.size w p v) :
  Calls Tryz.prog 22 #[v] w fun e w' => e = .returned (.bool (SmallPatB p)) ∧ Below w.heap.size w w' := by
 obtain ⟨a, cap, rfl, -⟩ := hv.parts
 have hb0 := (Below.refl w.heap.size w).alloc (Nat.le_refl _) (.cells #[.int .i64 p.form, .int .i64 p.n, .string p.text, .slice a p.parts.length cap] 35)
 have hbx := heap_alloc_new w (.cells #[.int .i64 p.form, .int .i64 p.n, .string p.text, .slice a p.parts.length cap] 35)
 have HV := lh hv; have HBX := lh hbx; have HB0 := lh hb0
 have hc1 := WeighPat_any p 16 _ _ (PtAt.keep hb0 hb0.size _ _ hv) (by omega) (by omega)
 have HC1 := lh hc1
 obtain ⟨c0, c1, c2, c3⟩ := cells4 hbx
 have hs0 := hb0.size
 clear hv hc1 hb0
 by_cases h0 : 0 ≤ weighP p 16
 ·have hr : SmallPatB p = smallP p := by unfold SmallPatB; rw [decide_eq_true h0, Bool.true_and]
  have HR := lh hr; clear hr
  go_enter Tryz.func22, Tryz.ntmps22
  go_wp2_with fail
  refine HC1.o.mono ?_
  rintro e w1 ⟨rfl, hb1⟩
  have hbx1 := bget' hb1 hbx
  have HB1 := lh (HB0.o.trans (hb1.mono hs0))
  have hc2 := smallPat_any p _ w1 (PtAt.keep HB1.o HB1.o.size _ _ HV.o)
  have HC2 := lh hc2
  clear c0 c1 c2 c3 hb1 hc2 hbx
  obtain ⟨c0, c1, c2, c3⟩ := cells4 hbx1
  go_wp2_with fail
  refine HC2.o.mono ?_
  rintro e w2 ⟨rfl, hb2⟩
  go_wp2
  go_ret
  exact ⟨ret_bool HR.o.symm, HB1.o.trans (hb2.mono HB1.o.size)⟩
 ·have hr : SmallPatB p = false := by unfold SmallPatB; rw [decide_eq_false h0, Bool.false_and]
  have HR := lh hr; clear hr
  go_enter Tryz.func22, Tryz.ntmps22
  go_wp2_with fail
  refine HC1.o.mono ?_
  rintro e w1 ⟨rfl, hb1⟩
  go_wp2
  go_ret
  exact ⟨ret_bool HR.o.symm, HB0.o.trans (hb1.mono hs0)⟩
mutual
def smallT : Tm → Bool
 | .mk _ _ t ks ps => (decide (t.size ≤ 30) && decide (ps.length ≤ 8)) && ps.all SmallPatB && smallsT ks
def smallsT : List Tm → Bool
 | [] => true
 | p :: ps => smallT p && smallsT ps
end
theorem smallsT_drop (ps : List Tm) (k : Nat) (h : k < ps.length) : smallsT (ps.drop k) = (smallT ps[k] && smallsT (ps.drop (k + 1))) := by
 rw [List.drop_eq_getElem_cons h]
 conv => lhs; unfold smallsT
set_option maxHeartbeats 4000000 in
set_option maxRecDepth 100000 in
theorem smallTerm_any (p : Tm) : ∀ (v : Value) (w : World), TmAt w.heap.size w p v → 
  Calls Tryz.prog 67 #[v] w fun e w' => e = .returned (.bool (smallT p)) ∧ Below w.heap.size w w' := by
 induction hT : SizeOf.sizeOf p using Nat.strongRecOn generalizing p with
 | _ m ih =>
 subst hT
 intro v w hv
 have HIH := lh ih; clear ih
 cases p with
 | mk op n text kids pats =>
 unfold TmAt at hv
 obtain ⟨kv, pv, rfl, htx, hk, hp⟩ := hv
 obtain ⟨a, cap, rfl, hcap, hlc, hka⟩ := hk.split
 obtain ⟨a', cap', rfl, hcap', hlc', hpa⟩ := hp.split
 have hbx := heap_alloc_new w (.cells #[.int .i64 op, .int .i64 n, .string text, .slice a kids.length cap, .slice a' pats.length cap'] 32)
 have hb0 := (Below.refl w.heap.size w).alloc (Nat.le_refl _) (.cells #[.int .i64 op, .int .i64 n, .string text, .slice a kids.length cap, .slice a' pats.length cap'] 32)
 unfold maxLen at hcap hcap' htx
 have hr : smallT (.mk op n text kids pats) = ((decide (text.size ≤ 30) && decide (pats.length ≤ 8)) && pats.all SmallPatB && smallsT kids) := by conv => lhs; unfold smallT
 have HR := lh hr
 have HKA := lh hka; have HPA := lh hpa; have HBX := lh hbx; have HB0 := lh hb0
 have hszA : (w.alloc (.cells #[.int .i64 op, .int .i64 n, .string text, .slice a kids.length cap, .slice a' pats.length cap'] 32)).heap.size = w.heap.size + 1 := by simp
 clear hk hp hka hpa hr hb0
 obtain ⟨c0, c1, c2, c3, c4⟩ := cells5 hbx
 by_cases h30 : text.size ≤ 30
 case neg =>
  have h30' : 30 < ((text.size : Nat) : Int) := by omega
  have hend : smallT (.mk op n text kids pats) = false := by rw [HR.o, decide_eq_false h30, Bool.false_and, Bool.false_and, Bool.false_and]
  have HEND := lh hend
  clear hend hbx
  go_enter Tryz.func67, Tryz.ntmps67
  go_wp2
  go_ret
  exact ⟨ret_bool HEND.o.symm, HB0.o⟩
 have h30' : ((text.size : Nat) : Int) ≤ 30 := by omega
 by_cases h8 : pats.length ≤ 8
 case neg =>
  have h8' : 8 < (pats.length : Int) := by omega
  have hend : smallT (.mk op n text kids pats) = false := by rw [HR.o, decide_eq_false h8, Bool.and_false, Bool.false_and, Bool.false_and]
  have HEND := lh hend
  clear hend hbx
  go_enter Tryz.func67, Tryz.ntmps67
  go_wp2
  go_ret
  exact ⟨ret_bool HEND.o.symm, HB0.o⟩
 have h8' : (pats.length : Int) ≤ 8 := by omega
 clear hbx
 go_enter Tryz.func67, Tryz.ntmps67
 go_wp2
 clear c0 c1 c2 c3 c4
 go_loopw [3] (fun i wr => ∃ (k : Nat), k ≤ pats.length ∧ i = .int .i64 k ∧ Hid (pats.all SmallPatB = (pats.drop k).all SmallPatB) ∧ Below (w.heap.size + 1) (w.alloc (.cells #[.int .i64 op, .int .i64 n, .string text, .slice a kids.length cap, .slice a' pats.length cap'] 32)) wr) (fun i _ => pats.length - (intOf i).toNat)
 case atStart => exact ⟨0, Nat.zero_le _, rfl, rfl, Below.refl _ _⟩
 case round =>
  obtain ⟨k, hk, rfl, HP, hB⟩ := hrel
  have hbx := bget hB HBX.o (by omega)
  obtain ⟨c0, c1, c2, c3, c4⟩ := cells5 hbx
  have hbw : Below w.heap.size w wr := HB0.o.trans (hB.mono (by omega))
  have hsz : w.heap.size + 1 ≤ wr.heap.size := by have := hB.size; simp at this; omega
  by_cases hlt : k < pats.length
  ·have hlt' : (k : Int) < (pats.length : Int) := by omega
   obtain ⟨b, o, rfl, hbn, hps⟩ := HPA.o (by omega)
   obtain ⟨e0, e1, e2, e3, g0, g1, g2, g3, ht⟩ := PtsAt.get pats b o hps k hlt
   obtain ⟨oo, nn, tt, ka, kn, kc, rfl, rfl, rfl, rfl⟩ := ht.shape
   have q0 := (hbw.cell (p := ⟨b, _, none⟩) hbn).trans g0
   have q1 := (hbw.cell (p := ⟨b, _, none⟩) hbn).trans g1
   have q2 := (hbw.cell (p := ⟨b, _, none⟩) hbn).trans g2
   have q3 := (hbw.cell (p := ⟨b, _, none⟩) hbn).trans g3
   have hcl := SmallPat_any pats[k] _ wr (PtAt.keep hbw hbw.size _ _ ht)
   have hd : (pats.drop k).all SmallPatB = (SmallPatB pats[k] && (pats.drop (k + 1)).all SmallPatB) := by rw [List.drop_eq_getElem_cons hlt, List.all_cons]
   cases hx : SmallPatB pats[k] with
   | true =>
    rw [hx, Bool.true_and] at hd
    rw [hx] at hcl
    have HC := lh hcl; have HB := lh hB; have HD := lh hd
    clear hcl hB hbx hbw g0 g1 g2 g3 ht hps hd hx
    go_wp2_with fail
    refine HC.o.mono ?_
    rintro e w1 ⟨rfl, hb1⟩
    have HB1 := lh (HB.o.trans (hb1.mono hsz))
    clear hb1 HC c0 c1 c2 c3 c4 q0 q1 q2 q3
    go_wp2
    go_roundw
    case rel => exact ⟨k + 1, by omega, by go_num, by unfold Hid; rw [HP.o, HD.o], HB1.o⟩
    case measure => simp [intOf]; omega
   | false =>
    rw [hx, Bool.false_and] at hd
    rw [hx] at hcl
    have hend : smallT (.mk op n text kids pats) = false := by rw [HR.o, HP.o, hd, Bool.and_false, Bool.false_and]
    have HC := lh hcl; have HBW := lh hbw; have HEND := lh hend
    clear hcl hbx hbw g0 g1 g2 g3 ht hps hd hx hend
    go_wp2_with fail
    refine HC.o.mono ?_
    rintro e w1 ⟨rfl, hb1⟩
    have HB1 := lh (HBW.o.trans (hb1.mono HBW.o.size))
    clear hb1 HC c0 c1 c2 c3 c4 q0 q1 q2 q3
    go_wp2
    go_ret
    exact ⟨ret_bool HEND.o.symm, HB1.o⟩
  ·have hlt' : ¬ ((k : Int) < (pats.length : Int)) := by omega
   have hpt : pats.all SmallPatB = true := by rw [HP.o, List.drop_eq_nil_of_le (by omega)]; rfl
   have HPT := lh hpt; have HB1 := lh hB
   have hkl : ∀ x : Nat, (x : Int) = x := fun _ => rfl
   clear hpt hB hbw hbx hsz hkl
   generalize wr = wc at *
   go_wp2
   go_loopw [4] (fun i wr => ∃ (k : Nat), k ≤ kids.length ∧ i = .int .i64 k ∧ Hid (smallsT kids = smallsT (kids.drop k)) ∧ Below (w.heap.size + 1) (w.alloc (.cells #[.int .i64 op, .int .i64 n, .string text, .slice a kids.length cap, .slice a' pats.length cap'] 32)) wr) (fun i _ => kids.length - (intOf i).toNat)
   case atStart => exact ⟨0, Nat.zero_le _, rfl, rfl, HB1.o⟩
   case round =>
    obtain ⟨k, hk, rfl, HP, hB⟩ := hrel
    have hbx := bget hB HBX.o (by omega)
    clear c0 c1 c2 c3 c4
    obtain ⟨c0, c1, c2, c3, c4⟩ := cells5 hbx
    have hbw : Below w.heap.size w wr := HB0.o.trans (hB.mono (by omega))
    have hsz : w.heap.size + 1 ≤ wr.heap.size := by have := hB.size; simp at this; omega
    by_cases hlt : k < kids.length
    ·have hlt' : (k : Int) < (kids.length : Int) := by omega
     obtain ⟨b, o, rfl, hbn, hps⟩ := HKA.o (by omega)
     obtain ⟨e0, e1, e2, e3, e4, g0, g1, g2, g3, g4, ht⟩ := TmsAt.get kids b o hps k hlt
     obtain ⟨oo, nn, tt, ka, kn, kc, pa, pn, pc, rfl, rfl, rfl, rfl, rfl⟩ := ht.shape
     have q0 := (hbw.cell (p := ⟨b, _, none⟩) hbn).trans g0
     have q1 := (hbw.cell (p := ⟨b, _, none⟩) hbn).trans g1
     have q2 := (hbw.cell (p := ⟨b, _, none⟩) hbn).trans g2
     have q3 := (hbw.cell (p := ⟨b, _, none⟩) hbn).trans g3
     have q4 := (hbw.cell (p := ⟨b, _, none⟩) hbn).trans g4
     have hcl := HIH.o _ (kid_lt k hlt) kids[k] rfl _ wr (TmAt.keep hbw hbw.size _ _ ht)
     have hd := smallsT_drop kids k hlt
     cases hx : smallT kids[k] with
     | true =>
      rw [hx, Bool.true_and] at hd
      rw [hx] at hcl
      have HC := lh hcl; have HB := lh hB; have HD := lh hd
      clear hcl hB hbx hbw g0 g1 g2 g3 g4 ht hps hd hx
      go_wp2_with fail
      refine HC.o.mono ?_
      rintro e w1 ⟨rfl, hb1⟩
      have HB1 := lh (HB.o.trans (hb1.mono hsz))
      clear hb1 HC c0 c1 c2 c3 c4 q0 q1 q2 q3 q4
      go_wp2
      go_roundw
      case rel => exact ⟨k + 1, by omega, by go_num, by unfold Hid; rw [HP.o, HD.o], HB1.o⟩
      case measure => simp [intOf]; omega
     | false =>
      rw [hx, Bool.false_and] at hd
      rw [hx] at hcl
      have hend : smallT (.mk op n text kids pats) = false := by rw [HR.o, HP.o, hd, Bool.and_false]
      have HC := lh hcl; have HBW := lh hbw; have HEND := lh hend
      clear hcl hbx hbw g0 g1 g2 g3 g4 ht hps hd hx hend
      go_wp2_with fail
      refine HC.o.mono ?_
      rintro e w1 ⟨rfl, hb1⟩
      have HB1 := lh (HBW.o.trans (hb1.mono HBW.o.size))
      clear hb1 HC c0 c1 c2 c3 c4 q0 q1 q2 q3 q4
      go_wp2
      go_ret
      exact ⟨ret_bool HEND.o.symm, HB1.o⟩
    ·have hlt' : ¬ ((k : Int) < (kids.length : Int)) := by omega
     have hend : smallT (.mk op n text kids pats) = true := by
      rw [HR.o, HPT.o, HP.o, List.drop_eq_nil_of_le (by omega)]
      unfold smallsT; rw [decide_eq_true h30, decide_eq_true h8]; rfl
     have HEND := lh hend; have HBW := lh hbw
     clear hend hbw hbx
     go_wp2
     go_ret
     exact ⟨ret_bool HEND.o.symm, HBW.o⟩
def SmallTermB (p : Tm) : Bool := decide (0 ≤ weighM p 80 16) && smallT p
set_option maxHeartbeats 1000000 in
theorem SmallTerm_any (p : Tm) (v : Value) (w : World) (hv : TmAt w.heap.size w p v) :
  Calls Tryz.prog 21 #[v] w fun e w' => e = .returned (.bool (SmallTermB p)) ∧ Below w.heap.size w w' := by
 obtain ⟨a, cap, a', cap', rfl, -⟩ := hv.parts
 have hb0 := (Below.refl w.heap.size w).alloc (Nat.le_refl _) (.cells #[.int .i64 p.op, .int .i64 p.n, .string p.text, .slice a p.kids.length cap, .slice a' p.pats.length cap'] 32)
 have hbx := heap_alloc_new w (.cells #[.int .i64 p.op, .int .i64 p.n, .string p.text, .slice a p.kids.length cap, .slice a' p.pats.length cap'] 32)
 have HV := lh hv; have HBX := lh hbx; have HB0 := lh hb0
 have hc1 := Weigh_any p 80 16 _ _ (TmAt.keep hb0 hb0.size _ _ hv) (by omega) (by omega) (by omega) (by omega)
 have HC1 := lh hc1
 obtain ⟨c0, c1, c2, c3, c4⟩ := cells5 hbx
 have hs0 := hb0.size
 clear hv hc1 hb0
 by_cases h0 : 0 ≤ weighM p 80 16
 ·have hr : SmallTermB p = smallT p := by unfold SmallTermB; rw [decide_eq_true h0, Bool.true_and]
  have HR := lh hr; clear hr
  go_enter Tryz.func21, Tryz.ntmps21
  go_wp2_with fail
  refine HC1.o.mono ?_
  rintro e w1 ⟨rfl, hb1⟩
  have hbx1 := bget' hb1 hbx
  have HB1 := lh (HB0.o.trans (hb1.mono hs0))
  have hc2 := smallTerm_any p _ w1 (TmAt.keep HB1.o HB1.o.size _ _ HV.o)
  have HC2 := lh hc2
  clear c0 c1 c2 c3 c4 hb1 hc2 hbx
  obtain ⟨c0, c1, c2, c3, c4⟩ := cells5 hbx1
  go_wp2_with fail
  refine HC2.o.mono ?_
  rintro e w2 ⟨rfl, hb2⟩
  go_wp2
  go_ret
  exact ⟨ret_bool HR.o.symm, HB1.o.trans (hb2.mono HB1.o.size)⟩
 ·have hr : SmallTermB p = false := by unfold SmallTermB; rw [decide_eq_false h0, Bool.false_and]
  have HR := lh hr; clear hr
  go_enter Tryz.func21, Tryz.ntmps21
  go_wp2_with fail
  refine HC1.o.mono ?_
  rintro e w1 ⟨rfl, hb1⟩
  go_wp2
  go_ret
  exact ⟨ret_bool HR.o.symm, HB0.o.trans (hb1.mono hs0)⟩
def inB (n low high : Int) : Bool := decide (low ≤ n) && decide (n ≤ high)
theorem in_any' (n low high : Int) (w : World) :
  Calls Tryz.prog 97 #[.int .i64 n, .int .i64 low, .int .i64 high] w fun e w' => e = .returned (.bool (inB n low high)) ∧ Below w.heap.size w w' := by
 by_cases h1 : low ≤ n
 ·go_enter Tryz.func97, Tryz.ntmps97
  go_wp2
  go_ret
  exact ⟨ret_bool (by simp [inB, h1]), Below.refl _ _⟩
 ·have h2 : inB n low high = false := by simp [inB]; omega
  have H2 := lh h2; clear h2
  go_enter Tryz.func97, Tryz.ntmps97
  go_wp2
  go_ret
  exact ⟨ret_bool H2.o.symm, Below.refl _ _⟩
def spareB (nb tb pb : Bool) (n : Int) (text : ByteArray) (pn : Nat) : Bool := (nb || n == 0) && (tb || text.toList.isEmpty) && (pb || decide (pn = 0))
set_option maxHeartbeats 4000000 in
set_option maxRecDepth 100000 in
theorem spare_any (nb tb pb : Bool) (op n : Int) (text : ByteArray) (ka : Option Addr) (kn kc : Nat) (pa : Option Addr) (pn pc : Nat) (w : World) :
  Calls Tryz.prog 157 #[.agg #[.int .i64 op, .int .i64 n, .string text, .slice ka kn kc, .slice pa pn pc], .bool nb, .bool tb, .bool pb] w fun e w' => e = .returned (.bool (spareB nb tb pb n text pn)) ∧ Below w.heap.size w w' := by
 cases nb <;> cases tb <;> cases pb
 all_goals go_enter Tryz.func157, Tryz.ntmps157
 all_goals go_wp2
 all_goals (go_ret; refine ⟨ret_bool ?_, (Below.refl _ _).alloc (Nat.le_refl _) _⟩; rw [Bool.eq_iff_iff]; simp_all [spareB]; try omega)
def nodeB (op n : Int) (text : ByteArray) (k p : Nat) : Bool :=
 if op = 1 then decide (k = 0) && spareB true false false n text p && inB n (-1000000000) 1000000000
 else if op = 2 then decide (k = 0) && spareB true false false n text p && inB n 0 1
 else if op = 3 ∨ op = 21 ∨ op = 25 ∨ op = 28 then decide (k = 0) && spareB false false false n text p
 else if op = 4 then decide (k = 0) && spareB false true false n text p && nameB text
 else if op = 5 ∨ op = 27 then decide (k = 1) && spareB false true false n text p && nameB text
 else if op = 7 then decide (k = 2) && spareB false true false n text p && nameB text
 else if op = 8 then decide (k = 3) && spareB false false false n text p
 else if op = 14 then decide (k ≤ 3) && spareB false true false n text p && greatB text
 else if op = 15 then inB p 1 5 && decide (k = 1 + p) && spareB false false true n text p
 else if op = 16 ∨ op = 17 ∨ op = 19 ∨ op = 20 ∨ op = 23 ∨ op = 26 then decide (k = 1) && spareB false false false n text p
 else if op = 24 then decide (k = 1) && spareB true false false n text p && inB n 0 3
 else if op = 6 ∨ op = 9 ∨ op = 10 ∨ op = 11 ∨ op = 12 ∨ op = 13 ∨ op = 18 ∨ op = 22 then decide (k = 2) && spareB false false false n text p
 else false
set_option maxHeartbeats 8000000 in
set_option maxRecDepth 100000 in
theorem node_any (op n : Int) (text : ByteArray) (ka : Option Addr) (kn kc : Nat) (pa : Option Addr) (pn pc : Nat) (w : World) (hs : text.size ≤ maxLen) (hp : pn ≤ 1000000) :
  Calls Tryz.prog 123 #[.agg #[.int .i64 op, .int .i64 n, .string text, .slice ka kn kc, .slice pa pn pc]] w fun e w' => e = .returned (.bool (nodeB op n text kn pn)) ∧ Below w.heap.size w w' := by
 have hb0 := (Below.refl w.heap.size w).alloc (Nat.le_refl _) (.cells #[.int .i64 op, .int .i64 n, .string text, .slice ka kn kc, .slice pa pn pc] 32)
 have hbx := heap_alloc_new w (.cells #[.int .i64 op, .int .i64 n, .string text, .slice ka kn kc, .slice pa pn pc] 32)
 have hsz : (w.alloc (.cells #[.int .i64 op, .int .i64 n, .string text, .slice ka kn kc, .slice pa pn pc] 32)).heap.size = w.heap.size + 1 := by simp
 have HB0 := lh hb0; have HBX := lh hbx
 clear hb0 hbx hsz
 go_enter Tryz.func123, Tryz.ntmps123
 go_upto_region 1 with fail
 generalize (w.alloc (.cells #[.int .i64 op, .int .i64 n, .string text, .slice ka kn kc, .slice pa pn pc] 32)) = W at *
 obtain ⟨c0, c1, c2, c3, c4⟩ := cells5 HBX.o
 go_wp2_with (first | (go_at_call 157; refine (spare_any _ _ _ _ _ _ _ _ _ _ _ _ _).mono ?_; rintro e w1 ⟨rfl, hb1⟩; first | obtain ⟨k0, k1, k2, k3, k4⟩ := cells5 (bget' hb1 HBX.o) | skip) | (go_at_call 97; refine (in_any' _ _ _ _).mono ?_; rintro e w2 ⟨rfl, hb2⟩; first | obtain ⟨k0, k1, k2, k3, k4⟩ := cells5 (bget' hb2 HBX.o) | skip) | (go_at_call 16; refine (refName_any _ _ hs).mono ?_; rintro e w2 ⟨rfl, hb2⟩) | (go_at_call 18; refine (refGreat_any _ _ hs).mono ?_; rintro e w2 ⟨rfl, hb2⟩))
 all_goals (go_ret; refine ⟨ret_bool ?_, ?_⟩; (first | (simp_all [nodeB]; done) | (rw [Bool.eq_iff_iff]; simp_all [nodeB]; try omega)); (first | exact HB0.o | exact HB0.o.trans (hb1.mono HB0.o.size) | exact HB0.o.trans (hb2.mono HB0.o.size) | exact (HB0.o.trans (hb1.mono HB0.o.size)).trans (hb2.mono (HB0.o.trans (hb1.mono HB0.o.size)).size) | exact (HB0.o.trans (hb2.mono HB0.o.size)).trans (hb1.mono (HB0.o.trans (hb2.mono HB0.o.size)).size)))
mutual
def patsB : Pt → Bool
 | .mk f n t ps => patFitB f n t ps.length && patssB ps
def patssB : List Pt → Bool
 | [] => true
 | p :: ps => patsB p && patssB ps
end
theorem patssB_drop (ps : List Pt) (k : Nat) (h : k < ps.length) : patssB (ps.drop k) = (patsB ps[k] && patssB (ps.drop (k + 1))) := by
 rw [List.drop_eq_getElem_cons h]
 conv => lhs; unfold patssB
set_option maxHeartbeats 8000000 in
set_option maxRecDepth 100000 in
theorem pats_any (p : Pt) : ∀ (v : Value) (w : World), PtAt w.heap.size w p v →
  Calls Tryz.prog 73 #[v] w fun e w' => e = .returned (.bool (patsB p)) ∧ Below w.heap.size w w' := by
 induction hT : SizeOf.sizeOf p using Nat.strongRecOn generalizing p with
 | _ m ih =>
 subst hT
 intro v w hv
 have HIH := lh ih; clear ih
 cases p with
 | mk op n text parts =>
 unfold PtAt at hv
 obtain ⟨kv, rfl, htx, hk⟩ := hv
 obtain ⟨a, cap, rfl, hcap, hlc, hka⟩ := hk.split
 have hbx := heap_alloc_new w (.cells #[.int .i64 op, .int .i64 n, .string text, .slice a parts.length cap] 35)
 have hb0 := (Below.refl w.heap.size w).alloc (Nat.le_refl _) (.cells #[.int .i64 op, .int .i64 n, .string text, .slice a parts.length cap] 35)
 have hsz : (w.alloc (.cells #[.int .i64 op, .int .i64 n, .string text, .slice a parts.length cap] 35)).heap.size = w.heap.size + 1 := by simp
 unfold maxLen at hcap
 have hr : patsB (.mk op n text parts) = (patFitB op n text parts.length && patssB parts) := by conv => lhs; unfold patsB
 have HR := lh hr
 have HKA := lh hka; have HBX := lh hbx; have HB0 := lh hb0; have HSZ := lh hsz
 clear hk hka hbx hb0 hr hsz
 go_enter Tryz.func73, Tryz.ntmps73
 go_upto_block 0 with fail
 generalize (w.alloc (.cells #[.int .i64 op, .int .i64 n, .string text, .slice a parts.length cap] 35)) = W at *
 generalize (Value.agg #[.int .i64 op, .int .i64 n, .string text, .slice a parts.length cap]) = av
 generalize hkl : parts.length = kl at *
 generalize hsv : Value.slice a kl cap = sv at *
 go_cut [3, 8, 4] from 11 to 81 (fun s3 s8 s4 wx => s3 = .int .i64 kl ∧ s8 = .int .i64 kl ∧ s4 = .bool (patFitB op n text kl) ∧ Below (w.heap.size + 1) W wx)
 case first =>
  obtain ⟨c0, c1, c2, c3⟩ := cells4 HBX.o
  go_wp2_with (first | (go_at_call 97; refine (in_any' _ _ _ _).mono ?_; rintro e w2 ⟨rfl, hb2⟩) | (go_at_call 16; refine (refName_any _ _ htx).mono ?_; rintro e w2 ⟨rfl, hb2⟩) | (go_at_call 18; refine (refGreat_any _ _ htx).mono ?_; rintro e w2 ⟨rfl, hb2⟩))
  all_goals go_meet
  all_goals
   refine ⟨?_, ?_, ?_, ?_⟩
   ·simp_all
   ·simp_all
   ·refine congrArg Value.bool ?_
    clear HR HKA HB0 HBX HIH
    first | (simp_all [patFitB, inB]; done) | (rw [Bool.eq_iff_iff]; simp_all [patFitB, inB, integerB]; try omega)
   ·first | exact Below.refl _ _ | exact hb2.mono (by rw [HSZ.o]; omega)
 case rest =>
  obtain ⟨rfl, rfl, rfl, hbc⟩ := hcut
  subst hkl
  have HBC := lh hbc
  clear hbc
  go_wp2
  go_loopw [4, 5] (fun s4 i wr => ∃ (k : Nat) (b : Bool), k ≤ parts.length ∧ i = .int .i64 k ∧ s4 = .bool b ∧ Hid (patsB (.mk op n text parts) = (b && patssB (parts.drop k))) ∧ Below (w.heap.size + 1) W wr) (fun _ i _ => parts.length - (intOf i).toNat)
  case atStart => exact ⟨0, _, Nat.zero_le _, rfl, rfl, HR.o, HBC.o⟩
  case round =>
   obtain ⟨k, bb, hk, rfl, rfl, HP, hB⟩ := hrel
   have hbx := bget hB HBX.o (by omega)
   obtain ⟨c0, c1, c2, c3⟩ := cells4 hbx
   have hbw : Below w.heap.size w wr := HB0.o.trans (hB.mono (by omega))
   have hsz : w.heap.size + 1 ≤ wr.heap.size := by have := hB.size; have := HSZ.out; omega
   by_cases hlt : k < parts.length
   ·have hlt' : (k : Int) < (parts.length : Int) := by omega
    cases bb with
    | true =>
     obtain ⟨b, o, rfl, hbn, hps⟩ := HKA.o (by omega)
     obtain ⟨e0, e1, e2, e3, g0, g1, g2, g3, ht⟩ := PtsAt.get parts b o hps k hlt
     obtain ⟨oo, nn, tt, ka, kn, kc, rfl, rfl, rfl, rfl⟩ := ht.shape
     have q0 := (hbw.cell (p := ⟨b, _, none⟩) hbn).trans g0
     have q1 := (hbw.cell (p := ⟨b, _, none⟩) hbn).trans g1
     have q2 := (hbw.cell (p := ⟨b, _, none⟩) hbn).trans g2
     have q3 := (hbw.cell (p := ⟨b, _, none⟩) hbn).trans g3
     have hcl := HIH.o _ (kid_ltP k hlt) parts[k] rfl _ wr (PtAt.keep hbw hbw.size _ _ ht)
     have hd := patssB_drop parts k hlt
     have HC := lh hcl; have HB := lh hB; have HD := lh hd
     clear hcl hB hbx hbw g0 g1 g2 g3 ht hps hd
     subst hsv
     go_wp2_with fail
     refine HC.o.mono ?_
     rintro e w1 ⟨rfl, hb1⟩
     have HB1 := lh (HB.o.trans (hb1.mono hsz))
     clear hb1 HC c0 c1 c2 c3 q0 q1 q2 q3
     go_wp2
     go_roundw
     case rel => exact ⟨k + 1, _, by omega, by go_num, rfl, by unfold Hid; rw [HP.o, HD.o, Bool.true_and], HB1.o⟩
     case measure => simp [intOf]; omega
    | false =>
     have hend : patsB (.mk op n text parts) = false := by rw [HP.o, Bool.false_and]
     have HBW := lh hbw; have HEND := lh hend
     clear hbx hbw hend
     go_wp2
     go_ret
     exact ⟨ret_bool HEND.o.symm, HBW.o⟩
   ·have hlt' : ¬ ((k : Int) < (parts.length : Int)) := by omega
    have hend : patsB (.mk op n text parts) = bb := by
     rw [HP.o, List.drop_eq_nil_of_le (by omega)]
     unfold patssB; rw [Bool.and_true]
    have HEND := lh hend; have HBW := lh hbw
    clear hend hbw hbx
    go_wp2
    go_ret
    exact ⟨ret_bool HEND.o.symm, HBW.o⟩
def differL : List ByteArray → List ByteArray → Bool
 | _, [] => true
 | seen, s :: ss => !hasB seen s && differL (seen ++ [s]) ss
theorem differL_drop (l : List ByteArray) (k : Nat) (h : k < l.length) : differL (l.take k) (l.drop k) = (!hasB (l.take k) l[k] && differL (l.take (k + 1)) (l.drop (k + 1))) := by
 rw [List.drop_eq_getElem_cons h, List.take_succ_eq_append_getElem h]
 conv => lhs; unfold differL
theorem StrsAt.take {w : World} : ∀ (ss : List ByteArray) (k b o : Nat), StrsAt w ss b o → StrsAt w (ss.take k) b o
 | _, 0, _, _, _ => by rw [List.take_zero]; trivial
 | [], _ + 1, _, _, _ => by rw [List.take_nil]; trivial
 | s :: ss, k + 1, b, o, h => ⟨h.1, StrsAt.take ss k b (o + 1) h.2⟩
set_option maxHeartbeats 2000000 in
theorem Differ_any (l : List ByteArray) (v : Value) (w : World) (hv : SsAt w.heap.size w l v) :
  Calls Tryz.prog 74 #[v] w fun e w' => e = .returned (.bool (differL [] l)) ∧ Below w.heap.size w w' := by
 obtain ⟨a, cap, rfl, hcap, hlc, hka⟩ := SlV.split hv
 clear hv
 unfold maxLen at hcap
 have HKA := lh hka; clear hka
 go_enter Tryz.func74, Tryz.ntmps74
 go_wp2
 go_loopw [3] (fun i wr => ∃ k : Nat, k ≤ l.length ∧ i = .int .i64 k ∧ Hid (differL [] l = differL (l.take k) (l.drop k)) ∧ Below w.heap.size w wr) (fun i _ => l.length - (intOf i).toNat)
 case atStart => exact ⟨0, Nat.zero_le _, rfl, rfl, Below.refl _ _⟩
 case round =>
  obtain ⟨k, hk, rfl, HP, hB⟩ := hrel
  by_cases hlt : k < l.length
  ·have hlt' : (k : Int) < (l.length : Int) := by omega
   obtain ⟨b, o, rfl, hbn, hss⟩ := HKA.o (by omega)
   have hss2 := StrsAt.keep hB _ _ _ hbn hss
   obtain ⟨hg, -⟩ := StrsAt.get l b o hss2 k hlt
   have hsl : SsAt wr.heap.size wr (l.take k) (.slice (some ⟨b, o, none⟩) k cap) := by
    refine .inr ⟨b, o, cap, ?_, ?_, by unfold maxLen; omega, by have := hB.size; omega, StrsAt.take l k b o hss2⟩
    ·rw [List.length_take, Nat.min_eq_left (by omega)]
    ·rw [List.length_take]; omega
   have hd := differL_drop l k hlt
   have hks : (k : Int) ≤ (cap : Int) := by omega
   have HSL := lh hsl; have HD := lh hd; have HB := lh hB
   clear hss2 hss hsl hd hB
   go_wp2_with fail
   go_region_with (go_at_call 51; refine (Has_any (l.take k) _ l[k] _ (by first | exact HSL.o | exact HSL.o.keep (below_drew _ _) (Nat.le_refl _) | exact HSL.o.keep (below_drewN (Below.refl _ _) _) (Nat.le_refl _))).mono ?_; rintro e w1 ⟨rfl, hb1⟩)
   have hb : Below w.heap.size w w1 := by first | exact (below_drewN HB.o _).trans (hb1.mono HB.o.size) | exact (HB.o.trans (below_drew _ _)).trans (hb1.mono HB.o.size)
   have HB1 := lh hb
   clear hb hb1 hg
   cases hx : hasB (l.take k) l[k]
   ·have HX := lh hx
    clear hx
    go_wp2
    go_roundw
    case rel => exact ⟨k + 1, by omega, by go_num, by unfold Hid; rw [HP.o, HD.o, HX.o]; rfl, HB1.o⟩
    case measure => simp [intOf]; omega
   ·have HX := lh hx
    clear hx
    go_wp2
    go_ret
    exact ⟨ret_bool (by rw [HP.o, HD.o, HX.o]; rfl), HB1.o⟩
  ·go_wp2
   go_ret
   exact ⟨ret_bool (by rw [HP.o, List.drop_eq_nil_of_le (by omega)]; unfold differL; rfl), hB⟩
mutual
theorem weighP_eq : ∀ (p : Pt) (left d : Int), weighP p left = if ((partsP d p).length : Int) ≤ left then left - (partsP d p).length else -1
 | .mk f n t ps, left, d => by
  unfold weighP partsP
  rw [List.length_cons]
  by_cases h : left < 1
  ·rw [if_pos h, if_neg (by omega)]
  ·rw [if_neg h, weighsP_eq ps (left - 1) (d + 1) (by omega)]
   by_cases h2 : ((partssP (d + 1) ps).length : Int) ≤ left - 1
   ·rw [if_pos h2, if_pos (by omega)]; omega
   ·rw [if_neg h2, if_neg (by omega)]
theorem weighsP_eq : ∀ (ps : List Pt) (left d : Int), -1 ≤ left → weighsP ps left = if ((partssP d ps).length : Int) ≤ left then left - (partssP d ps).length else -1
 | [], left, d, h => by
  unfold weighsP partssP
  simp
  omega
 | p :: ps, left, d, h => by
  unfold weighsP partssP
  rw [List.length_append]
  by_cases hn : left < 0
  ·rw [if_pos hn, if_neg (by omega)]; omega
  ·rw [if_neg hn, weighP_eq p left d]
   by_cases h2 : ((partsP d p).length : Int) ≤ left
   ·rw [if_pos h2, weighsP_eq ps _ d (by omega)]
    by_cases h3 : ((partssP d ps).length : Int) ≤ left - (partsP d p).length
    ·rw [if_pos h3, if_pos (by omega)]; omega
    ·rw [if_neg h3, if_neg (by omega)]
   ·rw [if_neg h2, weighsP_neg _ _ (by omega), if_neg (by omega)]
end
theorem weighP_nonneg (p : Pt) (left d : Int) : decide (0 ≤ weighP p left) = decide (((partsP d p).length : Int) ≤ left) := by
 rw [weighP_eq p left d]
 split
 ·rename_i h; rw [decide_eq_true h, decide_eq_true (by omega)]
 ·rename_i h; rw [decide_eq_false h]; rfl
mutual
theorem partsP_lens : ∀ (p : Pt) (d : Int), (partsP d p).length ≤ 1000000 → lensP p
 | .mk f n t ps, d, h => by
  unfold partsP at h
  rw [List.length_cons] at h
  unfold lensP
  exact ⟨by have := partssP_ge ps (d + 1); omega, partssP_lens ps (d + 1) (by omega)⟩
theorem partssP_lens : ∀ (ps : List Pt) (d : Int), (partssP d ps).length ≤ 1000000 → lenssP ps
 | [], _, _ => by unfold lenssP; trivial
 | p :: ps, d, h => by
  unfold partssP at h
  rw [List.length_append] at h
  unfold lenssP
  exact ⟨partsP_lens p d (by omega), partssP_lens ps d (by omega)⟩
theorem partssP_ge : ∀ (ps : List Pt) (d : Int), ps.length ≤ (partssP d ps).length
 | [], _ => Nat.zero_le _
 | p :: ps, d => by
  unfold partssP
  rw [List.length_append, List.length_cons]
  have := partssP_ge ps d
  have : 1 ≤ (partsP d p).length := by cases p; unfold partsP; simp
  omega
end
mutual
theorem patN_le : ∀ (p : Pt) (d : Int), (patN p).length ≤ (partsP d p).length
 | .mk f n t ps, d => by
  unfold patN partsP
  rw [List.length_cons]
  split
  ·simp
  ·have := patNs_le ps (d + 1); omega
theorem patNs_le : ∀ (ps : List Pt) (d : Int), (patNs ps).length ≤ (partssP d ps).length
 | [], _ => Nat.zero_le _
 | p :: ps, d => by
  unfold patNs partssP
  rw [List.length_append, List.length_append]
  have := patN_le p d
  have := patNs_le ps d
  omega
end
def refPatB (p : Pt) : Bool := decide (0 ≤ weighP p 12) && patsB p && differL [] (patN p)
set_option maxHeartbeats 2000000 in
theorem Pat_any (p : Pt) (v : Value) (w : World) (hv : PtAt w.heap.size w p v) :
  Calls Tryz.prog 26 #[v] w fun e w' => e = .returned (.bool (refPatB p)) ∧ Below w.heap.size w w' := by
 obtain ⟨a, cap, rfl, -⟩ := hv.parts
 have hb0 := (Below.refl w.heap.size w).alloc (Nat.le_refl _) (.cells #[.int .i64 p.form, .int .i64 p.n, .string p.text, .slice a p.parts.length cap] 35)
 have hbx := heap_alloc_new w (.cells #[.int .i64 p.form, .int .i64 p.n, .string p.text, .slice a p.parts.length cap] 35)
 have HV := lh hv; have HBX := lh hbx; have HB0 := lh hb0
 have hc1 := WeighPat_any p 12 _ _ (PtAt.keep hb0 hb0.size _ _ hv) (by omega) (by omega)
 have HC1 := lh hc1
 obtain ⟨c0, c1, c2, c3⟩ := cells4 hbx
 have hs0 := hb0.size
 clear hv hc1 hb0
 by_cases h0 : 0 ≤ weighP p 12
 case neg =>
  have hr : refPatB p = false := by unfold refPatB; rw [decide_eq_false h0, Bool.false_and, Bool.false_and]
  have HR := lh hr; clear hr
  go_enter Tryz.func26, Tryz.ntmps26
  go_wp2_with fail
  refine HC1.o.mono ?_
  rintro e w1 ⟨rfl, hb1⟩
  go_wp2
  go_ret
  exact ⟨ret_bool HR.o.symm, HB0.o.trans (hb1.mono hs0)⟩
 have hlen : (partsP 1 p).length ≤ 12 := by
  have h := weighP_nonneg p 12 1
  rw [decide_eq_true h0] at h
  have := of_decide_eq_true h.symm
  omega
 have hnl : (patN p).length ≤ 1000000 := by have := patN_le p 1; omega
 have hle : lensP p := partsP_lens p 1 (by omega)
 have HNL := lh hnl; have HLE := lh hle
 clear hnl hle hlen
 cases hps : patsB p with
 | false =>
  have hr : refPatB p = false := by unfold refPatB; rw [hps, Bool.and_false, Bool.false_and]
  have HR := lh hr; have HPS := lh hps; clear hr hps
  go_enter Tryz.func26, Tryz.ntmps26
  go_wp2_with fail
  refine HC1.o.mono ?_
  rintro e w1 ⟨rfl, hb1⟩
  have hbx1 := bget' hb1 hbx
  have HB1 := lh (HB0.o.trans (hb1.mono hs0))
  have hc2 := pats_any p _ w1 (PtAt.keep HB1.o HB1.o.size _ _ HV.o)
  rw [HPS.o] at hc2
  have HC2 := lh hc2
  clear c0 c1 c2 c3 hb1 hc2 hbx
  obtain ⟨c0, c1, c2, c3⟩ := cells4 hbx1
  go_wp2_with fail
  refine HC2.o.mono ?_
  rintro e w2 ⟨rfl, hb2⟩
  go_wp2
  go_ret
  exact ⟨ret_bool HR.o.symm, HB1.o.trans (hb2.mono HB1.o.size)⟩
 | true =>
  have hr : refPatB p = differL [] (patN p) := by unfold refPatB; rw [hps, decide_eq_true h0]; rfl
  have HR := lh hr; have HPS := lh hps; clear hr hps
  go_enter Tryz.func26, Tryz.ntmps26
  go_wp2_with fail
  refine HC1.o.mono ?_
  rintro e w1 ⟨rfl, hb1⟩
  have hbx1 := bget' hb1 hbx
  have HB1 := lh (HB0.o.trans (hb1.mono hs0))
  have hc2 := pats_any p _ w1 (PtAt.keep HB1.o HB1.o.size _ _ HV.o)
  rw [HPS.o] at hc2
  have HC2 := lh hc2
  clear c0 c1 c2 c3 hb1 hc2 hbx
  obtain ⟨c0, c1, c2, c3⟩ := cells4 hbx1
  go_wp2_with fail
  refine HC2.o.mono ?_
  rintro e w2 ⟨rfl, hb2⟩
  have hbx2 := bget' hb2 hbx1
  have HB2 := lh (HB1.o.trans (hb2.mono HB1.o.size))
  have hc3 := PatNames_any p _ w2 (PtAt.keep HB2.o HB2.o.size _ _ HV.o) HLE.o HNL.o
  have HC3 := lh hc3
  clear c0 c1 c2 c3 hb2 hc3 hbx1 HC2
  obtain ⟨c0, c1, c2, c3⟩ := cells4 hbx2
  go_wp2_with fail
  refine HC3.o.mono ?_
  rintro e w3 ⟨⟨v3, rfl, hv3⟩, hb3⟩
  have hc4 := Differ_any (patN p) v3 w3 (hv3.to (fun b h => h.2) fun _ _ h => h)
  have HB3 := lh (HB2.o.trans (hb3.mono HB2.o.size))
  have HC4 := lh hc4
  clear c0 c1 c2 c3 hb3 hc4 hbx2 HC3 hv3
  go_wp2_with fail
  refine HC4.o.mono ?_
  rintro e w4 ⟨rfl, hb4⟩
  go_wp2
  go_ret
  exact ⟨ret_bool HR.o.symm, HB3.o.trans (hb4.mono HB3.o.size)⟩
def diffM : (List UInt8 → Bool) → List ByteArray → Bool
 | _, [] => true
 | met, s :: ss => !met s.toList && diffM (fun k => met k || k == s.toList) ss
theorem diffM_cons (met : List UInt8 → Bool) (s : ByteArray) (ss : List ByteArray) : diffM met (s :: ss) = (!met s.toList && diffM (fun k => met k || k == s.toList) ss) := rfl
theorem goP_eq : ∀ (xs : List Pt) (n : Nat) (met : List UInt8 → Bool), n ≤ 12 → goP xs n met = (decide (n + xs.length ≤ 12) && xs.all Pt.fits && diffM met (namesL xs))
 | [], n, met, h => by simp [goP, namesL, diffM, h]
 | p :: xs, n, met, h => by
  unfold goP
  rw [List.all_cons, List.length_cons]
  by_cases h1 : n + 1 ≤ 12
  ·rw [decide_eq_true h1, Bool.true_and, goP_eq xs (n + 1) _ h1, goP_eq xs (n + 1) met h1]
   have e : n + 1 + xs.length = n + (xs.length + 1) := by omega
   rw [e]
   by_cases h2 : p.form = 2
   ·rw [if_pos h2, show namesL (p :: xs) = p.text :: namesL xs by simp [namesL, h2], diffM_cons]
    cases p.fits <;> cases met p.text.toList <;> cases decide (n + (xs.length + 1) ≤ 12) <;> cases xs.all Pt.fits <;> simp
   ·rw [if_neg h2, show namesL (p :: xs) = namesL xs by simp [namesL, h2]]
    cases p.fits <;> cases decide (n + (xs.length + 1) ≤ 12) <;> simp
  ·rw [decide_eq_false h1, decide_eq_false (by omega)]
   simp
mutual
theorem patsB_parts : ∀ (p : Pt) (d : Int), patsB p = ((partsP d p).map (·.2)).all Pt.fits
 | .mk f n t ps, d => by
  unfold patsB partsP
  rw [List.map_cons, List.all_cons, patssB_parts ps (d + 1)]
  rfl
theorem patssB_parts : ∀ (ps : List Pt) (d : Int), patssB ps = ((partssP d ps).map (·.2)).all Pt.fits
 | [], _ => rfl
 | p :: ps, d => by
  unfold patssB partssP
  rw [List.map_append, List.all_append, patsB_parts p d, patssB_parts ps d]
end
mutual
theorem patN_names : ∀ (p : Pt) (d : Int), patsB p = true → patN p = namesL ((partsP d p).map (·.2))
 | .mk f n t ps, d, h => by
  unfold patsB at h
  simp only [Bool.and_eq_true] at h
  unfold patN partsP
  rw [List.map_cons]
  by_cases h2 : f = 2
  ·subst h2
   have hp : ps = [] := by
    have := h.1
    simp [patFitB] at this
    exact this.2
   subst hp
   rfl
  ·rw [if_neg h2, patNs_names ps (d + 1) h.2]
   simp [namesL, Pt.form, h2]
theorem patNs_names : ∀ (ps : List Pt) (d : Int), patssB ps = true → patNs ps = namesL ((partssP d ps).map (·.2))
 | [], _, _ => rfl
 | p :: ps, d, h => by
  unfold patssB at h
  simp only [Bool.and_eq_true] at h
  unfold patNs partssP
  rw [patN_names p d h.1, patNs_names ps d h.2]
  simp [namesL]
end
theorem differL_eq : ∀ (ss seen : List ByteArray), differL seen ss = diffM (inL seen) ss
 | [], _ => rfl
 | s :: ss, seen => by
  unfold differL diffM
  rw [differL_eq ss, show inL (seen ++ [s]) = fun k => inL seen k || k == s.toList from funext fun k => inL_snoc seen s k]
  rfl
theorem refPatB_eq (p : Pt) : refPatB p = patB p := by
 unfold refPatB patB
 rw [goP_eq _ 0 _ (by omega), weighP_nonneg p 12 1, patsB_parts p 1]
 cases h : ((partsP 1 p).map (·.2)).all Pt.fits with
 | false => simp
 | true =>
  rw [patN_names p 1 (by rw [patsB_parts p 1]; exact h), differL_eq]
  have e : (fun _ : List UInt8 => false) = inL [] := rfl
  rw [e, List.length_map]
  congr 2
  rw [Bool.eq_iff_iff]
  simp
  omega
mutual
def nodesB : Tm → Bool
 | .mk op n t ks ps => nodeB op n t ks.length ps.length && ps.all refPatB && nodessB ks
def nodessB : List Tm → Bool
 | [] => true
 | p :: ps => nodesB p && nodessB ps
end
theorem nodessB_drop (ps : List Tm) (k : Nat) (h : k < ps.length) : nodessB (ps.drop k) = (nodesB ps[k] && nodessB (ps.drop (k + 1))) := by
 rw [List.drop_eq_getElem_cons h]
 conv => lhs; unfold nodessB
set_option maxHeartbeats 4000000 in
set_option maxRecDepth 100000 in
theorem refnodes_any (p : Tm) : ∀ (v : Value) (w : World), TmAt w.heap.size w p v → okM p →
  Calls Tryz.prog 84 #[v] w fun e w' => e = .returned (.bool (nodesB p)) ∧ Below w.heap.size w w' := by
 induction hT : SizeOf.sizeOf p using Nat.strongRecOn generalizing p with
 | _ m ih =>
 subst hT
 intro v w hv hok
 have HIH := lh ih; clear ih
 cases p with
 | mk op n text kids pats =>
 unfold TmAt at hv
 obtain ⟨kv, pv, rfl, htx, hk, hp⟩ := hv
 obtain ⟨a, cap, rfl, hcap, hlc, hka⟩ := hk.split
 obtain ⟨a', cap', rfl, hcap', hlc', hpa⟩ := hp.split
 have hbx := heap_alloc_new w (.cells #[.int .i64 op, .int .i64 n, .string text, .slice a kids.length cap, .slice a' pats.length cap'] 32)
 have hb0 := (Below.refl w.heap.size w).alloc (Nat.le_refl _) (.cells #[.int .i64 op, .int .i64 n, .string text, .slice a kids.length cap, .slice a' pats.length cap'] 32)
 unfold maxLen at hcap hcap' htx
 have hr : nodesB (.mk op n text kids pats) = (nodeB op n text kids.length pats.length && pats.all refPatB && nodessB kids) := by conv => lhs; unfold nodesB
 have HR := lh hr
 have HKA := lh hka; have HPA := lh hpa; have HBX := lh hbx; have HB0 := lh hb0
 have hszA : (w.alloc (.cells #[.int .i64 op, .int .i64 n, .string text, .slice a kids.length cap, .slice a' pats.length cap'] 32)).heap.size = w.heap.size + 1 := by simp
 unfold okM at hok
 have hcl := node_any op n text a kids.length cap a' pats.length cap' (w.alloc (.cells #[.int .i64 op, .int .i64 n, .string text, .slice a kids.length cap, .slice a' pats.length cap'] 32)) (show text.size ≤ maxLen by unfold maxLen; omega) hok.1
 clear hk hp hka hpa hr hb0
 obtain ⟨c0, c1, c2, c3, c4⟩ := cells5 hbx
 cases hnd : nodeB op n text kids.length pats.length with
 | false =>
  rw [hnd] at hcl
  have hend : nodesB (.mk op n text kids pats) = false := by rw [HR.o, hnd, Bool.false_and, Bool.false_and]
  have HEND := lh hend; have HC := lh hcl
  clear hend hbx hcl hnd
  go_enter Tryz.func84, Tryz.ntmps84
  go_wp2_with fail
  refine HC.o.mono ?_
  rintro e w1 ⟨rfl, hb1⟩
  go_wp2
  go_ret
  exact ⟨ret_bool HEND.o.symm, HB0.o.trans (hb1.mono (by omega))⟩
 | true =>
 rw [hnd] at hcl
 have HC := lh hcl; have HND := lh hnd
 clear hbx hcl hnd
 go_enter Tryz.func84, Tryz.ntmps84
 go_wp2_with fail
 refine HC.o.mono ?_
 rintro e w0 ⟨rfl, hb00⟩
 rw [hszA] at hb00
 have HB00 := lh hb00
 clear c0 c1 c2 c3 c4 hb00 HC
 go_wp2
 go_loopw [3] (fun i wr => ∃ (k : Nat), k ≤ pats.length ∧ i = .int .i64 k ∧ Hid (pats.all refPatB = (pats.drop k).all refPatB) ∧ Below (w.heap.size + 1) (w.alloc (.cells #[.int .i64 op, .int .i64 n, .string text, .slice a kids.length cap, .slice a' pats.length cap'] 32)) wr) (fun i _ => pats.length - (intOf i).toNat)
 case atStart => exact ⟨0, Nat.zero_le _, rfl, rfl, HB00.o⟩
 case round =>
  obtain ⟨k, hk, rfl, HP, hB⟩ := hrel
  have hbx := bget hB HBX.o (by omega)
  obtain ⟨c0, c1, c2, c3, c4⟩ := cells5 hbx
  have hbw : Below w.heap.size w wr := HB0.o.trans (hB.mono (by omega))
  have hsz : w.heap.size + 1 ≤ wr.heap.size := by have := hB.size; simp at this; omega
  by_cases hlt : k < pats.length
  ·have hlt' : (k : Int) < (pats.length : Int) := by omega
   obtain ⟨b, o, rfl, hbn, hps⟩ := HPA.o (by omega)
   obtain ⟨e0, e1, e2, e3, g0, g1, g2, g3, ht⟩ := PtsAt.get pats b o hps k hlt
   obtain ⟨oo, nn, tt, ka, kn, kc, rfl, rfl, rfl, rfl⟩ := ht.shape
   have q0 := (hbw.cell (p := ⟨b, _, none⟩) hbn).trans g0
   have q1 := (hbw.cell (p := ⟨b, _, none⟩) hbn).trans g1
   have q2 := (hbw.cell (p := ⟨b, _, none⟩) hbn).trans g2
   have q3 := (hbw.cell (p := ⟨b, _, none⟩) hbn).trans g3
   have hcl := Pat_any pats[k] _ wr (PtAt.keep hbw hbw.size _ _ ht)
   have hd : (pats.drop k).all refPatB = (refPatB pats[k] && (pats.drop (k + 1)).all refPatB) := by rw [List.drop_eq_getElem_cons hlt, List.all_cons]
   cases hx : refPatB pats[k] with
   | true =>
    rw [hx, Bool.true_and] at hd
    rw [hx] at hcl
    have HC := lh hcl; have HB := lh hB; have HD := lh hd
    clear hcl hB hbx hbw g0 g1 g2 g3 ht hps hd hx
    go_wp2_with fail
    refine HC.o.mono ?_
    rintro e w1 ⟨rfl, hb1⟩
    have HB1 := lh (HB.o.trans (hb1.mono hsz))
    clear hb1 HC c0 c1 c2 c3 c4 q0 q1 q2 q3
    go_wp2
    go_roundw
    case rel => exact ⟨k + 1, by omega, by go_num, by unfold Hid; rw [HP.o, HD.o], HB1.o⟩
    case measure => simp [intOf]; omega
   | false =>
    rw [hx, Bool.false_and] at hd
    rw [hx] at hcl
    have hend : nodesB (.mk op n text kids pats) = false := by rw [HR.o, HP.o, hd, Bool.and_false, Bool.false_and]
    have HC := lh hcl; have HBW := lh hbw; have HEND := lh hend
    clear hcl hbx hbw g0 g1 g2 g3 ht hps hd hx hend
    go_wp2_with fail
    refine HC.o.mono ?_
    rintro e w1 ⟨rfl, hb1⟩
    have HB1 := lh (HBW.o.trans (hb1.mono HBW.o.size))
    clear hb1 HC c0 c1 c2 c3 c4 q0 q1 q2 q3
    go_wp2
    go_ret
    exact ⟨ret_bool HEND.o.symm, HB1.o⟩
  ·have hlt' : ¬ ((k : Int) < (pats.length : Int)) := by omega
   have hpt : pats.all refPatB = true := by rw [HP.o, List.drop_eq_nil_of_le (by omega)]; rfl
   have HPT := lh hpt; have HB1 := lh hB
   have hkl : ∀ x : Nat, (x : Int) = x := fun _ => rfl
   clear hpt hB hbw hbx hsz hkl
   generalize wr = wc at *
   go_wp2
   go_loopw [4] (fun i wr => ∃ (k : Nat), k ≤ kids.length ∧ i = .int .i64 k ∧ Hid (nodessB kids = nodessB (kids.drop k)) ∧ Below (w.heap.size + 1) (w.alloc (.cells #[.int .i64 op, .int .i64 n, .string text, .slice a kids.length cap, .slice a' pats.length cap'] 32)) wr) (fun i _ => kids.length - (intOf i).toNat)
   case atStart => exact ⟨0, Nat.zero_le _, rfl, rfl, HB1.o⟩
   case round =>
    obtain ⟨k, hk, rfl, HP, hB⟩ := hrel
    have hbx := bget hB HBX.o (by omega)
    clear c0 c1 c2 c3 c4
    obtain ⟨c0, c1, c2, c3, c4⟩ := cells5 hbx
    have hbw : Below w.heap.size w wr := HB0.o.trans (hB.mono (by omega))
    have hsz : w.heap.size + 1 ≤ wr.heap.size := by have := hB.size; simp at this; omega
    by_cases hlt : k < kids.length
    ·have hlt' : (k : Int) < (kids.length : Int) := by omega
     obtain ⟨b, o, rfl, hbn, hps⟩ := HKA.o (by omega)
     obtain ⟨e0, e1, e2, e3, e4, g0, g1, g2, g3, g4, ht⟩ := TmsAt.get kids b o hps k hlt
     obtain ⟨oo, nn, tt, ka, kn, kc, pa, pn, pc, rfl, rfl, rfl, rfl, rfl⟩ := ht.shape
     have q0 := (hbw.cell (p := ⟨b, _, none⟩) hbn).trans g0
     have q1 := (hbw.cell (p := ⟨b, _, none⟩) hbn).trans g1
     have q2 := (hbw.cell (p := ⟨b, _, none⟩) hbn).trans g2
     have q3 := (hbw.cell (p := ⟨b, _, none⟩) hbn).trans g3
     have q4 := (hbw.cell (p := ⟨b, _, none⟩) hbn).trans g4
     have hcl := HIH.o _ (kid_lt k hlt) kids[k] rfl _ wr (TmAt.keep hbw hbw.size _ _ ht) (oksM_get hok.2.2 k hlt)
     have hd := nodessB_drop kids k hlt
     cases hx : nodesB kids[k] with
     | true =>
      rw [hx, Bool.true_and] at hd
      rw [hx] at hcl
      have HC := lh hcl; have HB := lh hB; have HD := lh hd
      clear hcl hB hbx hbw g0 g1 g2 g3 g4 ht hps hd hx
      go_wp2_with fail
      refine HC.o.mono ?_
      rintro e w1 ⟨rfl, hb1⟩
      have HB1 := lh (HB.o.trans (hb1.mono hsz))
      clear hb1 HC c0 c1 c2 c3 c4 q0 q1 q2 q3 q4
      go_wp2
      go_roundw
      case rel => exact ⟨k + 1, by omega, by go_num, by unfold Hid; rw [HP.o, HD.o], HB1.o⟩
      case measure => simp [intOf]; omega
     | false =>
      rw [hx, Bool.false_and] at hd
      rw [hx] at hcl
      have hend : nodesB (.mk op n text kids pats) = false := by rw [HR.o, HP.o, hd, Bool.and_false]
      have HC := lh hcl; have HBW := lh hbw; have HEND := lh hend
      clear hcl hbx hbw g0 g1 g2 g3 g4 ht hps hd hx hend
      go_wp2_with fail
      refine HC.o.mono ?_
      rintro e w1 ⟨rfl, hb1⟩
      have HB1 := lh (HBW.o.trans (hb1.mono HBW.o.size))
      clear hb1 HC c0 c1 c2 c3 c4 q0 q1 q2 q3 q4
      go_wp2
      go_ret
      exact ⟨ret_bool HEND.o.symm, HB1.o⟩
    ·have hlt' : ¬ ((k : Int) < (kids.length : Int)) := by omega
     have hend : nodesB (.mk op n text kids pats) = true := by
      rw [HR.o, HPT.o, HP.o, List.drop_eq_nil_of_le (by omega)]
      unfold nodessB; rw [HND.o]; rfl
     have HEND := lh hend; have HBW := lh hbw
     clear hend hbw hbx
     go_wp2
     go_ret
     exact ⟨ret_bool HEND.o.symm, HBW.o⟩
def refTermB (p : Tm) : Bool := decide (0 ≤ weighM p 60 14) && nodesB p
set_option maxHeartbeats 1000000 in
theorem Term_any (p : Tm) (v : Value) (w : World) (hv : TmAt w.heap.size w p v) (hok : okM p) :
  Calls Tryz.prog 30 #[v] w fun e w' => e = .returned (.bool (refTermB p)) ∧ Below w.heap.size w w' := by
 obtain ⟨a, cap, a', cap', rfl, -⟩ := hv.parts
 have hb0 := (Below.refl w.heap.size w).alloc (Nat.le_refl _) (.cells #[.int .i64 p.op, .int .i64 p.n, .string p.text, .slice a p.kids.length cap, .slice a' p.pats.length cap'] 32)
 have hbx := heap_alloc_new w (.cells #[.int .i64 p.op, .int .i64 p.n, .string p.text, .slice a p.kids.length cap, .slice a' p.pats.length cap'] 32)
 have HV := lh hv; have HBX := lh hbx; have HB0 := lh hb0
 have hc1 := Weigh_any p 60 14 _ _ (TmAt.keep hb0 hb0.size _ _ hv) (by omega) (by omega) (by omega) (by omega)
 have HC1 := lh hc1
 obtain ⟨c0, c1, c2, c3, c4⟩ := cells5 hbx
 have hs0 := hb0.size
 clear hv hc1 hb0
 by_cases h0 : 0 ≤ weighM p 60 14
 ·have hr : refTermB p = nodesB p := by unfold refTermB; rw [decide_eq_true h0, Bool.true_and]
  have HR := lh hr; clear hr
  go_enter Tryz.func30, Tryz.ntmps30
  go_wp2_with fail
  refine HC1.o.mono ?_
  rintro e w1 ⟨rfl, hb1⟩
  have hbx1 := bget' hb1 hbx
  have HB1 := lh (HB0.o.trans (hb1.mono hs0))
  have hc2 := refnodes_any p _ w1 (TmAt.keep HB1.o HB1.o.size _ _ HV.o) hok
  have HC2 := lh hc2
  clear c0 c1 c2 c3 c4 hb1 hc2 hbx
  obtain ⟨c0, c1, c2, c3, c4⟩ := cells5 hbx1
  go_wp2_with fail
  refine HC2.o.mono ?_
  rintro e w2 ⟨rfl, hb2⟩
  go_wp2
  go_ret
  exact ⟨ret_bool HR.o.symm, HB1.o.trans (hb2.mono HB1.o.size)⟩
 ·have hr : refTermB p = false := by unfold refTermB; rw [decide_eq_false h0, Bool.false_and]
  have HR := lh hr; clear hr
  go_enter Tryz.func30, Tryz.ntmps30
  go_wp2_with fail
  refine HC1.o.mono ?_
  rintro e w1 ⟨rfl, hb1⟩
  go_wp2
  go_ret
  exact ⟨ret_bool HR.o.symm, HB0.o.trans (hb1.mono hs0)⟩
def deepB (xs : List (Int × Tm)) (m : Int) : Bool := xs.all fun x => decide (x.1 ≤ m)
theorem deepB_append (xs ys : List (Int × Tm)) (m : Int) : deepB (xs ++ ys) m = (deepB xs m && deepB ys m) := List.all_append
mutual
theorem weighM_eq : ∀ (p : Tm) (left depth d : Int), weighM p left depth = if ((partsM d p).length : Int) ≤ left ∧ deepB (partsM d p) (d + depth - 1) = true then left - (partsM d p).length else -1
 | .mk op n t ks ps, left, depth, d => by
  unfold weighM partsM
  rw [List.length_cons]
  by_cases h : left < 1 ∨ depth < 1
  ·rw [if_pos h, if_neg]
   rintro ⟨h1, h2⟩
   simp only [deepB, List.all_cons, Bool.and_eq_true, decide_eq_true_eq] at h2
   omega
  ·rw [if_neg h, weighsM_eq ks (left - 1) (depth - 1) (d + 1) (by omega)]
   have e : d + 1 + (depth - 1) - 1 = d + depth - 1 := by omega
   rw [e]
   have hd : deepB ((d, Tm.mk op n t ks ps) :: partssM (d + 1) ks) (d + depth - 1) = deepB (partssM (d + 1) ks) (d + depth - 1) := by
    unfold deepB
    rw [List.all_cons, decide_eq_true (by omega), Bool.true_and]
   rw [hd]
   by_cases h2 : ((partssM (d + 1) ks).length : Int) ≤ left - 1 ∧ deepB (partssM (d + 1) ks) (d + depth - 1) = true
   ·rw [if_pos h2, if_pos ⟨by omega, h2.2⟩]; omega
   ·rw [if_neg h2, if_neg (fun h => h2 ⟨by omega, h.2⟩)]
theorem weighsM_eq : ∀ (ps : List Tm) (left depth d : Int), -1 ≤ left → weighsM ps left depth = if ((partssM d ps).length : Int) ≤ left ∧ deepB (partssM d ps) (d + depth - 1) = true then left - (partssM d ps).length else -1
 | [], left, depth, d, h => by
  unfold weighsM partssM
  simp [deepB]
  omega
 | p :: ps, left, depth, d, h => by
  unfold weighsM partssM
  rw [List.length_append, deepB_append]
  by_cases hn : left < 0
  ·rw [if_pos hn, if_neg (fun h => by omega)]; omega
  ·rw [if_neg hn, weighM_eq p left depth d]
   by_cases h2 : ((partsM d p).length : Int) ≤ left ∧ deepB (partsM d p) (d + depth - 1) = true
   ·rw [if_pos h2, weighsM_eq ps _ depth d (by omega)]
    by_cases h3 : ((partssM d ps).length : Int) ≤ left - (partsM d p).length ∧ deepB (partssM d ps) (d + depth - 1) = true
    ·rw [if_pos h3, if_pos ⟨by omega, by rw [h2.2, h3.2]; rfl⟩]; omega
    ·rw [if_neg h3, if_neg]
     rintro ⟨h4, h5⟩
     rw [Bool.and_eq_true] at h5
     exact h3 ⟨by omega, h5.2⟩
   ·rw [if_neg h2, weighsM_neg _ _ _ (by omega), if_neg]
    rintro ⟨h4, h5⟩
    rw [Bool.and_eq_true] at h5
    exact h2 ⟨by omega, h5.1⟩
end
theorem weighM_nonneg (p : Tm) (left depth : Int) : decide (0 ≤ weighM p left depth) = (decide (((partsM 1 p).length : Int) ≤ left) && deepB (partsM 1 p) depth) := by
 rw [weighM_eq p left depth 1, show 1 + depth - 1 = depth by omega]
 split
 ·rename_i h; rw [decide_eq_true h.1, h.2, decide_eq_true (by omega)]; rfl
 ·rename_i h
  rw [decide_eq_false (by omega)]
  symm
  rw [Bool.eq_false_iff]
  intro h2
  rw [Bool.and_eq_true] at h2
  exact h ⟨of_decide_eq_true h2.1, h2.2⟩
theorem goM_eq : ∀ (xs : List (Int × Tm)) (n : Nat), n ≤ 60 → goM xs n = (decide (n + xs.length ≤ 60) && deepB xs 14 && (xs.map (·.2)).all Tm.fits)
 | [], n, h => by simp [goM, deepB, h]
 | x :: xs, n, h => by
  unfold goM
  by_cases h1 : n + 1 ≤ 60
  ·rw [decide_eq_true h1, Bool.true_and, goM_eq xs (n + 1) h1, List.map_cons, List.all_cons, List.length_cons, show n + 1 + xs.length = n + (xs.length + 1) by omega]
   show (decide (x.1 ≤ 14) && x.2.fits && (decide (n + (xs.length + 1) ≤ 60) && deepB xs 14 && (xs.map (·.2)).all Tm.fits)) = (decide (n + (xs.length + 1) ≤ 60) && deepB (x :: xs) 14 && (x.2.fits && (xs.map (·.2)).all Tm.fits))
   rw [show deepB (x :: xs) 14 = (decide (x.1 ≤ 14) && deepB xs 14) from rfl]
   cases decide (x.1 ≤ 14) <;> cases x.2.fits <;> cases decide (n + (xs.length + 1) ≤ 60) <;> cases deepB xs 14 <;> simp
  ·have e1 : decide (n + 1 ≤ 60) = false := decide_eq_false h1
   have e2 : decide (n + (xs.length + 1) ≤ 60) = false := decide_eq_false (by omega)
   rw [e1, List.length_cons, e2]
   simp
set_option maxHeartbeats 4000000 in
set_option linter.unusedSimpArgs false in
theorem fits_node (op n : Int) (t : ByteArray) (ks : List Tm) (ps : List Pt) : (Tm.mk op n t ks ps).fits = (nodeB op n t ks.length ps.length && ps.all patB) := by
 show (kidsFitB op ks.length ps.length && numberFitsB op n && textFitsB op t && patsFitB op ps) = _
 unfold nodeB kidsFitB numberFitsB textFitsB patsFitB allP spareB inB integerB
 have e2 : (n == 0 || n == 1) = (decide (0 ≤ n) && decide (n ≤ 1)) := by rw [Bool.eq_iff_iff]; simp; omega
 have e4 : decide (n < 4) = decide (n ≤ 3) := by rw [Bool.eq_iff_iff]; simp; omega
 have e5 : decide ((1 : Int) ≤ (ps.length : Int)) = decide (1 ≤ ps.length) := by rw [Bool.eq_iff_iff]; simp; omega
 have e6 : decide ((ps.length : Int) ≤ 5) = decide (ps.length ≤ 5) := by rw [Bool.eq_iff_iff]; simp; omega
 have e7 : decide (ks.length = ps.length + 1) = decide (ks.length = 1 + ps.length) := by rw [Bool.eq_iff_iff]; simp; omega
 have e8 : decide (ps.length = 0) = (decide (ps.length = 0) && ps.all patB) := by
  cases ps with
  | nil => rfl
  | cons p ps => rfl
 rw [e2, e4, e5, e6, e7]
 generalize decide (n ≤ 3) = b1
 generalize decide (n ≤ 1) = b2
 generalize decide (0 ≤ n) = b3
 generalize decide (ps.length ≤ 5) = b4
 generalize decide (1 ≤ ps.length) = b5
 generalize decide (ks.length = 1 + ps.length) = b6
 generalize nameB t = b7
 generalize greatB t = b8
 generalize t.toList.isEmpty = b9
 generalize (n == 0) = b10
 generalize decide (ks.length = 0) = b11
 generalize decide (ks.length = 1) = b12
 generalize decide (ks.length = 2) = b13
 generalize decide (ks.length = 3) = b14
 generalize decide (ks.length ≤ 3) = b15
 generalize decide (-1000000000 ≤ n) = b16
 generalize decide (n ≤ 1000000000) = b17
 generalize decide (ps.length = 0) = b18 at *
 generalize ps.all patB = b19 at *
 by_cases h1 : op = 1
 ·subst h1; simp only [reduceIte, Int.reduceEq, or_self, or_true, true_or, or_false, false_or, Bool.true_or, Bool.false_or, Bool.true_and, Bool.and_true]
  cases b18 with
  | false => simp
  | true =>
   obtain rfl : b19 = true := by simpa using e8.symm
   simp only [Bool.and_true, Bool.true_and]
   try ac_rfl
 by_cases h2 : op = 2
 ·subst h2; simp only [reduceIte, Int.reduceEq, or_self, or_true, true_or, or_false, false_or, Bool.true_or, Bool.false_or, Bool.true_and, Bool.and_true]
  cases b18 with
  | false => simp
  | true =>
   obtain rfl : b19 = true := by simpa using e8.symm
   simp only [Bool.and_true, Bool.true_and]
   try ac_rfl
 by_cases h3 : op = 3
 ·subst h3; simp only [reduceIte, Int.reduceEq, or_self, or_true, true_or, or_false, false_or, Bool.true_or, Bool.false_or, Bool.true_and, Bool.and_true]
  cases b18 with
  | false => simp
  | true =>
   obtain rfl : b19 = true := by simpa using e8.symm
   simp only [Bool.and_true, Bool.true_and]
   try ac_rfl
 by_cases h21 : op = 21
 ·subst h21; simp only [reduceIte, Int.reduceEq, or_self, or_true, true_or, or_false, false_or, Bool.true_or, Bool.false_or, Bool.true_and, Bool.and_true]
  cases b18 with
  | false => simp
  | true =>
   obtain rfl : b19 = true := by simpa using e8.symm
   simp only [Bool.and_true, Bool.true_and]
   try ac_rfl
 by_cases h25 : op = 25
 ·subst h25; simp only [reduceIte, Int.reduceEq, or_self, or_true, true_or, or_false, false_or, Bool.true_or, Bool.false_or, Bool.true_and, Bool.and_true]
  cases b18 with
  | false => simp
  | true =>
   obtain rfl : b19 = true := by simpa using e8.symm
   simp only [Bool.and_true, Bool.true_and]
   try ac_rfl
 by_cases h28 : op = 28
 ·subst h28; simp only [reduceIte, Int.reduceEq, or_self, or_true, true_or, or_false, false_or, Bool.true_or, Bool.false_or, Bool.true_and, Bool.and_true]
  cases b18 with
  | false => simp
  | true =>
   obtain rfl : b19 = true := by simpa using e8.symm
   simp only [Bool.and_true, Bool.true_and]
   try ac_rfl
 by_cases h4 : op = 4
 ·subst h4; simp only [reduceIte, Int.reduceEq, or_self, or_true, true_or, or_false, false_or, Bool.true_or, Bool.false_or, Bool.true_and, Bool.and_true]
  cases b18 with
  | false => simp
  | true =>
   obtain rfl : b19 = true := by simpa using e8.symm
   simp only [Bool.and_true, Bool.true_and]
   try ac_rfl
 by_cases h5 : op = 5
 ·subst h5; simp only [reduceIte, Int.reduceEq, or_self, or_true, true_or, or_false, false_or, Bool.true_or, Bool.false_or, Bool.true_and, Bool.and_true]
  cases b18 with
  | false => simp
  | true =>
   obtain rfl : b19 = true := by simpa using e8.symm
   simp only [Bool.and_true, Bool.true_and]
   try ac_rfl
 by_cases h27 : op = 27
 ·subst h27; simp only [reduceIte, Int.reduceEq, or_self, or_true, true_or, or_false, false_or, Bool.true_or, Bool.false_or, Bool.true_and, Bool.and_true]
  cases b18 with
  | false => simp
  | true =>
   obtain rfl : b19 = true := by simpa using e8.symm
   simp only [Bool.and_true, Bool.true_and]
   try ac_rfl
 by_cases h7 : op = 7
 ·subst h7; simp only [reduceIte, Int.reduceEq, or_self, or_true, true_or, or_false, false_or, Bool.true_or, Bool.false_or, Bool.true_and, Bool.and_true]
  cases b18 with
  | false => simp
  | true =>
   obtain rfl : b19 = true := by simpa using e8.symm
   simp only [Bool.and_true, Bool.true_and]
   try ac_rfl
 by_cases h8 : op = 8
 ·subst h8; simp only [reduceIte, Int.reduceEq, or_self, or_true, true_or, or_false, false_or, Bool.true_or, Bool.false_or, Bool.true_and, Bool.and_true]
  cases b18 with
  | false => simp
  | true =>
   obtain rfl : b19 = true := by simpa using e8.symm
   simp only [Bool.and_true, Bool.true_and]
   try ac_rfl
 by_cases h14 : op = 14
 ·subst h14; simp only [reduceIte, Int.reduceEq, or_self, or_true, true_or, or_false, false_or, Bool.true_or, Bool.false_or, Bool.true_and, Bool.and_true]
  cases b18 with
  | false => simp
  | true =>
   obtain rfl : b19 = true := by simpa using e8.symm
   simp only [Bool.and_true, Bool.true_and]
   try ac_rfl
 by_cases h15 : op = 15
 ·subst h15; simp only [reduceIte, Int.reduceEq, or_self, or_true, true_or, or_false, false_or, Bool.true_or, Bool.false_or, Bool.true_and, Bool.and_true]
  ac_rfl
 by_cases h16 : op = 16
 ·subst h16; simp only [reduceIte, Int.reduceEq, or_self, or_true, true_or, or_false, false_or, Bool.true_or, Bool.false_or, Bool.true_and, Bool.and_true]
  cases b18 with
  | false => simp
  | true =>
   obtain rfl : b19 = true := by simpa using e8.symm
   simp only [Bool.and_true, Bool.true_and]
   try ac_rfl
 by_cases h17 : op = 17
 ·subst h17; simp only [reduceIte, Int.reduceEq, or_self, or_true, true_or, or_false, false_or, Bool.true_or, Bool.false_or, Bool.true_and, Bool.and_true]
  cases b18 with
  | false => simp
  | true =>
   obtain rfl : b19 = true := by simpa using e8.symm
   simp only [Bool.and_true, Bool.true_and]
   try ac_rfl
 by_cases h19 : op = 19
 ·subst h19; simp only [reduceIte, Int.reduceEq, or_self, or_true, true_or, or_false, false_or, Bool.true_or, Bool.false_or, Bool.true_and, Bool.and_true]
  cases b18 with
  | false => simp
  | true =>
   obtain rfl : b19 = true := by simpa using e8.symm
   simp only [Bool.and_true, Bool.true_and]
   try ac_rfl
 by_cases h20 : op = 20
 ·subst h20; simp only [reduceIte, Int.reduceEq, or_self, or_true, true_or, or_false, false_or, Bool.true_or, Bool.false_or, Bool.true_and, Bool.and_true]
  cases b18 with
  | false => simp
  | true =>
   obtain rfl : b19 = true := by simpa using e8.symm
   simp only [Bool.and_true, Bool.true_and]
   try ac_rfl
 by_cases h23 : op = 23
 ·subst h23; simp only [reduceIte, Int.reduceEq, or_self, or_true, true_or, or_false, false_or, Bool.true_or, Bool.false_or, Bool.true_and, Bool.and_true]
  cases b18 with
  | false => simp
  | true =>
   obtain rfl : b19 = true := by simpa using e8.symm
   simp only [Bool.and_true, Bool.true_and]
   try ac_rfl
 by_cases h26 : op = 26
 ·subst h26; simp only [reduceIte, Int.reduceEq, or_self, or_true, true_or, or_false, false_or, Bool.true_or, Bool.false_or, Bool.true_and, Bool.and_true]
  cases b18 with
  | false => simp
  | true =>
   obtain rfl : b19 = true := by simpa using e8.symm
   simp only [Bool.and_true, Bool.true_and]
   try ac_rfl
 by_cases h24 : op = 24
 ·subst h24; simp only [reduceIte, Int.reduceEq, or_self, or_true, true_or, or_false, false_or, Bool.true_or, Bool.false_or, Bool.true_and, Bool.and_true]
  cases b18 with
  | false => simp
  | true =>
   obtain rfl : b19 = true := by simpa using e8.symm
   simp only [Bool.and_true, Bool.true_and]
   try ac_rfl
 by_cases h6 : op = 6
 ·subst h6; simp only [reduceIte, Int.reduceEq, or_self, or_true, true_or, or_false, false_or, Bool.true_or, Bool.false_or, Bool.true_and, Bool.and_true]
  cases b18 with
  | false => simp
  | true =>
   obtain rfl : b19 = true := by simpa using e8.symm
   simp only [Bool.and_true, Bool.true_and]
   try ac_rfl
 by_cases h9 : op = 9
 ·subst h9; simp only [reduceIte, Int.reduceEq, or_self, or_true, true_or, or_false, false_or, Bool.true_or, Bool.false_or, Bool.true_and, Bool.and_true]
  cases b18 with
  | false => simp
  | true =>
   obtain rfl : b19 = true := by simpa using e8.symm
   simp only [Bool.and_true, Bool.true_and]
   try ac_rfl
 by_cases h10 : op = 10
 ·subst h10; simp only [reduceIte, Int.reduceEq, or_self, or_true, true_or, or_false, false_or, Bool.true_or, Bool.false_or, Bool.true_and, Bool.and_true]
  cases b18 with
  | false => simp
  | true =>
   obtain rfl : b19 = true := by simpa using e8.symm
   simp only [Bool.and_true, Bool.true_and]
   try ac_rfl
 by_cases h11 : op = 11
 ·subst h11; simp only [reduceIte, Int.reduceEq, or_self, or_true, true_or, or_false, false_or, Bool.true_or, Bool.false_or, Bool.true_and, Bool.and_true]
  cases b18 with
  | false => simp
  | true =>
   obtain rfl : b19 = true := by simpa using e8.symm
   simp only [Bool.and_true, Bool.true_and]
   try ac_rfl
 by_cases h12 : op = 12
 ·subst h12; simp only [reduceIte, Int.reduceEq, or_self, or_true, true_or, or_false, false_or, Bool.true_or, Bool.false_or, Bool.true_and, Bool.and_true]
  cases b18 with
  | false => simp
  | true =>
   obtain rfl : b19 = true := by simpa using e8.symm
   simp only [Bool.and_true, Bool.true_and]
   try ac_rfl
 by_cases h13 : op = 13
 ·subst h13; simp only [reduceIte, Int.reduceEq, or_self, or_true, true_or, or_false, false_or, Bool.true_or, Bool.false_or, Bool.true_and, Bool.and_true]
  cases b18 with
  | false => simp
  | true =>
   obtain rfl : b19 = true := by simpa using e8.symm
   simp only [Bool.and_true, Bool.true_and]
   try ac_rfl
 by_cases h18 : op = 18
 ·subst h18; simp only [reduceIte, Int.reduceEq, or_self, or_true, true_or, or_false, false_or, Bool.true_or, Bool.false_or, Bool.true_and, Bool.and_true]
  cases b18 with
  | false => simp
  | true =>
   obtain rfl : b19 = true := by simpa using e8.symm
   simp only [Bool.and_true, Bool.true_and]
   try ac_rfl
 by_cases h22 : op = 22
 ·subst h22; simp only [reduceIte, Int.reduceEq, or_self, or_true, true_or, or_false, false_or, Bool.true_or, Bool.false_or, Bool.true_and, Bool.and_true]
  cases b18 with
  | false => simp
  | true =>
   obtain rfl : b19 = true := by simpa using e8.symm
   simp only [Bool.and_true, Bool.true_and]
   try ac_rfl
 simp [h1, h2, h3, h21, h25, h28, h4, h5, h27, h7, h8, h14, h15, h16, h17, h19, h20, h23, h26, h24, h6, h9, h10, h11, h12, h13, h18, h22]
mutual
theorem nodesB_parts : ∀ (p : Tm) (d : Int), nodesB p = ((partsM d p).map (·.2)).all Tm.fits
 | .mk op n t ks ps, d => by
  unfold nodesB partsM
  rw [List.map_cons, List.all_cons, nodessB_parts ks (d + 1)]
  show _ = ((Tm.mk op n t ks ps).fits && _)
  rw [fits_node, show (ps.all refPatB) = ps.all patB from by rw [funext refPatB_eq]]
theorem nodessB_parts : ∀ (ps : List Tm) (d : Int), nodessB ps = ((partssM d ps).map (·.2)).all Tm.fits
 | [], _ => rfl
 | p :: ps, d => by
  unfold nodessB partssM
  rw [List.map_append, List.all_append, nodesB_parts p d, nodessB_parts ps d]
end
theorem refTermB_eq (T : Tm) : refTermB T = termB T := by
 unfold refTermB termB
 rw [goM_eq _ 0 (by omega), weighM_nonneg, nodesB_parts T 1]
 congr 2
 rw [Bool.eq_iff_iff]
 simp
 omega
mutual
theorem smHeightP : ∀ (p : Pt) (d : Int), heightP p ≤ (partsP d p).length
 | .mk _ _ _ ps, d => by
  unfold heightP partsP
  rw [List.length_cons]
  have := smHeightsP ps (d + 1)
  omega
theorem smHeightsP : ∀ (ps : List Pt) (d : Int), heightsP ps ≤ (partssP d ps).length
 | [], _ => Nat.zero_le _
 | p :: ps, d => by
  unfold heightsP partssP
  rw [List.length_append]
  have := smHeightP p d
  have := smHeightsP ps d
  omega
end
mutual
theorem smHeightM : ∀ (p : Tm) (d : Int), heightM p ≤ (partsM d p).length
 | .mk _ _ _ ps _, d => by
  unfold heightM partsM
  rw [List.length_cons]
  have := smHeightsM ps (d + 1)
  omega
theorem smHeightsM : ∀ (ps : List Tm) (d : Int), heightsM ps ≤ (partssM d ps).length
 | [], _ => Nat.zero_le _
 | p :: ps, d => by
  unfold heightsM partssM
  rw [List.length_append]
  have := smHeightM p d
  have := smHeightsM ps d
  omega
end
theorem SmallPat_len {p : Pt} (h : SmallPatB p = true) : (partsP 1 p).length ≤ 16 := by
 unfold SmallPatB at h
 rw [Bool.and_eq_true, weighP_nonneg p 16 1] at h
 have := of_decide_eq_true h.1
 omega
theorem smalls_height : ∀ (ps : List Pt), ps.all SmallPatB = true → heightsP ps ≤ 16
 | [], _ => Nat.zero_le _
 | p :: ps, h => by
  rw [List.all_cons, Bool.and_eq_true] at h
  unfold heightsP
  have h1 := smHeightP p 1
  have h2 := SmallPat_len h.1
  have h3 := smalls_height ps h.2
  omega
mutual
theorem smallT_ok : ∀ (p : Tm), smallT p = true → okM p
 | .mk _ _ _ ks ps, h => by
  unfold smallT at h
  simp only [Bool.and_eq_true, decide_eq_true_eq] at h
  unfold okM
  exact ⟨by omega, by have := smalls_height ps h.1.2; omega, smallsT_ok ks h.2⟩
theorem smallsT_ok : ∀ (ps : List Tm), smallsT ps = true → oksM ps
 | [], _ => by unfold oksM; trivial
 | p :: ps, h => by
  unfold smallsT at h
  rw [Bool.and_eq_true] at h
  unfold oksM
  exact ⟨smallT_ok p h.1, smallsT_ok ps h.2⟩
end
theorem SmallTerm_ok {T : Tm} (h : SmallTermB T = true) : okM T ∧ heightM T ≤ 1000 ∧ (partsM 1 T).length ≤ 80 := by
 unfold SmallTermB at h
 rw [Bool.and_eq_true, weighM_nonneg, Bool.and_eq_true] at h
 have := of_decide_eq_true h.1.1
 have := smHeightM T 1
 exact ⟨smallT_ok T h.2, by omega, by omega⟩
end Go.Proofs.YtjpahjfjpkbcnaaGreat
