/- Contracts of the program's functions. -/
import Derived.Test.YtjpahjfjpkbcnaaGreatB03
import Derived.Test.YtjpahjfjpkbcnaaGreatB04
import Derived.Test.YtjpahjfjpkbcnaaGreatB02

namespace Go.Proofs.YtjpahjfjpkbcnaaGreat
open Go.Proofs Go.RowKit
theorem put_get {a : Act} {d k : Nat} {v : Value} (h : d ≠ k) : (a.put (some d) v).tmps[k]? = a.tmps[k]? := by simp [Act.put, Array.getElem?_setIfInBounds_ne h]
theorem put_same {a : Act} {d : Nat} {v : Value} (h : d < a.tmps.size) : (a.put (some d) v).tmps[d]? = some v := by simp [Act.put, h]
theorem tmp_get {a : Act} {k : Nat} {x : Value} (h : a.tmps[k]? = some x) (hk : k < a.tmps.size) : a.tmps[k] = x := by
 rw [Array.getElem?_eq_getElem hk] at h; exact Option.some.inj h
theorem StrsIn_keep {w w' : World} (hb : Below w.heap.size w w') {sv : Value} {ss : List ByteArray} (h : SlIn (fun b => b < w.heap.size) sv ss.length fun b o => StrsAt w ss b o) : SlIn (fun b => b < w'.heap.size) sv ss.length fun b o => StrsAt w' ss b o :=
 h.mono (fun b h => by have := hb.size; omega) fun b o hb' hr => StrsAt.keep hb _ _ _ hb' hr
def r140x0 : Oper := { dst := some 6, op := Op.fieldAddr 126 (Operand.tmp 2) 2, type := 0, pos := "bound.go:186", after := #[], guard := none }
def r140x1 : Oper := { dst := some 7, op := Op.load 22 (Operand.tmp 6), type := 22, pos := "bound.go:186", after := #[{ on := 0, ground := Ground.data }], guard := none }
def r140x2 : Oper := { dst := some 8, op := Op.fieldAddr 126 (Operand.tmp 2) 0, type := 0, pos := "bound.go:186", after := #[], guard := none }
def r140x3 : Oper := { dst := some 9, op := Op.load 9 (Operand.tmp 8), type := 9, pos := "bound.go:186", after := #[{ on := 2, ground := Ground.data }], guard := none }
def r140x4 : Oper := { dst := some 10, op := Op.buildSlice 22 1 #[(0, Operand.tmp 9)], type := 22, pos := "bound.go:186", after := #[{ on := 3, ground := Ground.data }], guard := none }
def r140x5 : Oper := { dst := some 11, op := Op.load 32 (Operand.tmp 3), type := 32, pos := "bound.go:186", after := #[], guard := none }
def r140x6 : Oper := { dst := some 12, op := Op.call { callee := Callee.value (Operand.func 165), args := #[Operand.tmp 11], argTypes := #[32] }, type := 22, pos := "bound.go:186", after := #[{ on := 5, ground := Ground.data }], guard := none }
def r140x7 : Oper := { dst := some 13, op := Op.buildSlice 132 3 #[(0, Operand.tmp 7), (1, Operand.tmp 10), (2, Operand.tmp 12)], type := 132, pos := "bound.go:186", after := #[{ on := 1, ground := Ground.data }, { on := 4, ground := Ground.data }, { on := 6, ground := Ground.data }], guard := none }
def r140x8 : Oper := { dst := some 14, op := Op.call { callee := Callee.value (Operand.func 63), args := #[Operand.tmp 13], argTypes := #[132] }, type := 87, pos := "bound.go:186", after := #[{ on := 7, ground := Ground.data }, { on := 6, ground := Ground.chain }], guard := none }
def r140x9 : Oper := { dst := some 5, op := Op.alloc 87, type := 0, pos := "bound.go:186", after := #[], guard := none }
def r140x10 : Oper := { dst := none, op := Op.store 87 (Operand.tmp 5) (Operand.tmp 14), type := 0, pos := "bound.go:186", after := #[{ on := 9, ground := Ground.data }, { on := 8, ground := Ground.data }, { on := 8, ground := Ground.chain }, { on := 0, ground := Ground.phase }, { on := 1, ground := Ground.phase }, { on := 2, ground := Ground.phase }, { on := 3, ground := Ground.phase }, { on := 4, ground := Ground.phase }, { on := 5, ground := Ground.phase }, { on := 6, ground := Ground.phase }, { on := 7, ground := Ground.phase }, { on := 8, ground := Ground.phase }, { on := 9, ground := Ground.phase }], guard := none }
def ops140 : Array Oper := #[r140x0, r140x1, r140x2, r140x3, r140x4, r140x5, r140x6, r140x7, r140x8, r140x9, r140x10]
attribute [local go_sem] r140x0 r140x1 r140x2 r140x3 r140x4 r140x5 r140x6 r140x7 r140x8 r140x9 r140x10
def dst140 (i : Nat) : Nat := [6, 7, 8, 9, 10, 11, 12, 13, 14, 5].getD i 0
theorem dst140_eq : ∀ i, i < 10 → (ops140[i]?.bind (·.dst)) = some (dst140 i) := by
 intro i hi
 have h : i = 0 ∨ i = 1 ∨ i = 2 ∨ i = 3 ∨ i = 4 ∨ i = 5 ∨ i = 6 ∨ i = 7 ∨ i = 8 ∨ i = 9 := by omega
 rcases h with rfl | rfl | rfl | rfl | rfl | rfl | rfl | rfl | rfl | rfl <;> rfl
theorem dst140_inj : ∀ i j, i < 10 → j < 10 → i ≠ j → dst140 i ≠ dst140 j := by
 intro i j hi hj
 have h : i = 0 ∨ i = 1 ∨ i = 2 ∨ i = 3 ∨ i = 4 ∨ i = 5 ∨ i = 6 ∨ i = 7 ∨ i = 8 ∨ i = 9 := by omega
 have h' : j = 0 ∨ j = 1 ∨ j = 2 ∨ j = 3 ∨ j = 4 ∨ j = 5 ∨ j = 6 ∨ j = 7 ∨ j = 8 ∨ j = 9 := by omega
 rcases h with rfl | rfl | rfl | rfl | rfl | rfl | rfl | rfl | rfl | rfl <;> rcases h' with rfl | rfl | rfl | rfl | rfl | rfl | rfl | rfl | rfl | rfl <;> simp [dst140]
section
variable (U : World) (Bx Bt : Nat) (nm : ByteArray) (fv : Value) (fr : List ByteArray) (T : Tm) (tv : Value)
def B140 (d0 : List Deferred) (a : Act) (w : World) : Prop := a.tmps.size = 16 ∧ a.defers = d0 ∧ a.tmps[2]? = some (.pointer (some ⟨Bx, 0, none⟩)) ∧ a.tmps[3]? = some (.pointer (some ⟨Bt, 0, none⟩)) ∧ Below U.heap.size U w
def F140 (j : Nat) (a : Act) (w : World) : Prop :=
 match j with
 | 0 => a.tmps[6]? = some (.pointer (some ⟨Bx, 6, none⟩))
 | 1 => a.tmps[7]? = some fv
 | 2 => a.tmps[8]? = some (.pointer (some ⟨Bx, 0, none⟩))
 | 3 => a.tmps[9]? = some (.string nm)
 | 4 => ∃ c, a.tmps[10]? = some (.slice (some ⟨c, 0, none⟩) 1 1) ∧ w.heap[c]? = some (.cells #[.string nm] 9 (0, 0))
 | 5 => a.tmps[11]? = some tv
 | 6 => ∃ sa sc, a.tmps[12]? = some (.slice sa (standL T).length sc) ∧ SlIn (fun b => b < w.heap.size) (.slice sa (standL T).length sc) (standL T).length fun b o => StrsAt w (standL T) b o
 | 7 => ∃ b c sa sc, a.tmps[13]? = some (.slice (some ⟨b, 0, none⟩) 3 3) ∧ w.heap[b]? = some (.cells #[fv, .slice (some ⟨c, 0, none⟩) 1 1, .slice sa (standL T).length sc] 22 (0, 0)) ∧ w.heap[c]? = some (.cells #[.string nm] 9 (0, 0)) ∧ SlIn (fun b => b < w.heap.size) (.slice sa (standL T).length sc) (standL T).length fun b o => StrsAt w (standL T) b o
 | 8 => ∃ mb, a.tmps[14]? = some (.agg #[.map (some mb)]) ∧ U.heap.size ≤ mb ∧ SetAt w mb (fr ++ [nm] ++ standL T).length (inL (fr ++ [nm] ++ standL T))
 | _ => ∃ q, a.tmps[5]? = some (.pointer (some ⟨q, 0, none⟩)) ∧ U.heap.size ≤ q ∧ w.heap[q]? = some (.cells #[.map none] 87 (0, 0))
theorem F140_stab (i j : Nat) (a : Act) (w : World) (a' : Act) (w' : World) (hij : i ≠ j) (hi : i < 10) (hj : j < 10) (h : F140 U Bx nm fv fr T tv j a w) (hx : Ext ops140 i a w a' w') : F140 U Bx nm fv fr T tv j a' w' := by
 obtain ⟨⟨o, d, v, ho, hd, rfl⟩, hb⟩ := hx
 have he := dst140_eq i hi
 rw [ho] at he
 have hd' : d = dst140 i := by simp [hd] at he; exact he
 have hne : d ≠ dst140 j := by rw [hd']; exact dst140_inj i j hi hj hij
 have hjj : j = 0 ∨ j = 1 ∨ j = 2 ∨ j = 3 ∨ j = 4 ∨ j = 5 ∨ j = 6 ∨ j = 7 ∨ j = 8 ∨ j = 9 := by omega
 rcases hjj with rfl | rfl | rfl | rfl | rfl | rfl | rfl | rfl | rfl | rfl
 ·exact (put_get hne).trans h
 ·exact (put_get hne).trans h
 ·exact (put_get hne).trans h
 ·exact (put_get hne).trans h
 ·obtain ⟨c, h1, h2⟩ := h; exact ⟨c, (put_get hne).trans h1, bget' hb h2⟩
 ·exact (put_get hne).trans h
 ·obtain ⟨sa, sc, h1, h2⟩ := h; exact ⟨sa, sc, (put_get hne).trans h1, StrsIn_keep hb h2⟩
 ·obtain ⟨b, c, sa, sc, h1, h2, h3, h4⟩ := h; exact ⟨b, c, sa, sc, (put_get hne).trans h1, bget' hb h2, bget' hb h3, StrsIn_keep hb h4⟩
 ·obtain ⟨mb, h1, h2, h3⟩ := h; exact ⟨mb, (put_get hne).trans h1, h2, h3.here hb⟩
 ·obtain ⟨q, h1, h2, h3⟩ := h; exact ⟨q, (put_get hne).trans h1, h2, bget' hb h3⟩
theorem B140_put {d0 : List Deferred} {a : Act} {w w' : World} (d : Nat) (v : Value) (h : B140 U Bx Bt d0 a w) (h2 : d ≠ 2) (h3 : d ≠ 3) (hb : Below w.heap.size w w') : B140 U Bx Bt d0 (a.put (some d) v) w' := by
 obtain ⟨g1, g2, g3, g4, g5⟩ := h
 exact ⟨by rw [size_put]; exact g1, g2, (put_get h2).trans g3, (put_get h3).trans g4, g5.trans (hb.mono g5.size)⟩
end
theorem rep_true {n j : Nat} (h : (Array.replicate n false).getD j true = false) : j < n := by
 rcases Nat.lt_or_ge j n with h' | h'
 ·exact h'
 ·simp [Array.getD, Nat.not_lt.2 h'] at h
theorem rep_false {n j : Nat} (h : (Array.replicate n false).getD j false = true) : False := by
 rcases Nat.lt_or_ge j n with h' | h'
 ·simp [Array.getD, h'] at h
 ·simp [Array.getD, Nat.not_lt.2 h'] at h
theorem waits140 (j : Nat) (hj : j < 10) : waitsB .any ops140 10 j = true := by
 have h : (List.range 10).all (fun j => waitsB .any ops140 10 j) = true := by kernel_rfl
 exact List.all_eq_true.1 h j (List.mem_range.2 hj)
set_option maxHeartbeats 4000000 in
set_option maxRecDepth 100000 in
theorem reg140 {Q : Exit → Act → World → Prop} {a : Act} {U : World} {Bx Bt : Nat} {nm : ByteArray} {y1 y2 y3 y4 y5 : Value} {fa : Option Addr} {fcap : Nat} {fr : List ByteArray} {T : Tm} {on tn : Int} {tt : ByteArray} {ka : Option Addr} {kn kc : Nat} {pa : Option Addr} {pn pc : Nat}
  (hsz : a.tmps.size = 16) (h2 : a.tmps[2]? = some (.pointer (some ⟨Bx, 0, none⟩))) (h3 : a.tmps[3]? = some (.pointer (some ⟨Bt, 0, none⟩)))
  (hbx : U.heap[Bx]? = some (.cells #[.string nm, y1, y2, y3, y4, y5, .slice fa fr.length fcap] 126 (0, 0))) (hbt : U.heap[Bt]? = some (.cells #[.int .i64 on, .int .i64 tn, .string tt, .slice ka kn kc, .slice pa pn pc] 32 (0, 0)))
  (hnm : nm.size ≤ maxLen) (hfv : SlV U.heap.size (.slice fa fr.length fcap) fr.length fun b o => StrsAt U fr b o)
  (hT : TmAt U.heap.size U T (.agg #[.int .i64 on, .int .i64 tn, .string tt, .slice ka kn kc, .slice pa pn pc])) (hh : heightM T ≤ 1000) (hok : okN T) (hl : (standL T).length + fr.length ≤ 900000)
  (hK : ∀ (a' : Act) (w' : World) (q mb : Nat), a'.tmps.size = 16 → a'.defers = a.defers → a'.tmps[2]? = some (.pointer (some ⟨Bx, 0, none⟩)) → a'.tmps[5]? = some (.pointer (some ⟨q, 0, none⟩)) → U.heap.size ≤ q → U.heap.size ≤ mb → q ≠ mb →
   w'.heap[q]? = some (.cells #[.map (some mb)] 87 (0, 0)) → SetAt w' mb (fr ++ [nm] ++ standL T).length (inL (fr ++ [nm] ++ standL T)) → Below U.heap.size U w' → Q .normal a' w') :
  (Code.region 1 ops140 true).wp Tryz.prog Q a U := by
 refine wp_region_any (by kernel_rfl) ?_
 have HBX := lh hbx; have HBT := lh hbt; have HK := lh hK; have HFV := lh hfv; have HT := lh hT; have HH2 := lh h2; have HH3 := lh h3; have HSZ := lh hsz; have HL := lh hl
 clear hbx hbt hK hfv hT h2 h3 hsz hl
 refine wpAny_inv (by kernel_rfl) 10 ?hz rfl (F140 U Bx nm (.slice fa fr.length fcap) fr T (.agg #[.int .i64 on, .int .i64 tn, .string tt, .slice ka kn kc, .slice pa pn pc])) (B140 U Bx Bt a.defers) (Ext ops140) ?hstep (fun i j a w a' w' h1 h2 h3 _ h5 h6 => F140_stab _ _ _ _ _ _ _ i j a w a' w' h1 h2 h3 h5 h6) ?hlast _ (List.range 11) _ a _ (by decide) (by decide) ?hu (by decide) ?hB ?hF
 case hz =>
  intro j hj
  exact waits140 j hj
 case hu => exact fun j hj => List.mem_range.2 (rep_true hj)
 case hB => exact ⟨HSZ.o, rfl, HH2.o, HH3.o, below_drew _ _⟩
 case hF => exact fun j hj => (rep_false hj).elim
 case hstep =>
  intro i a1 w1 hi hB hF
  obtain ⟨hsz, -, g2, g3, hbw⟩ := id hB
  have hcx := bget' hbw HBX.o
  have hct := bget' hbw HBT.o
  have g2' := tmp_get g2 (by omega)
  have g3' := tmp_get g3 (by omega)
  have h : i = 0 ∨ i = 1 ∨ i = 2 ∨ i = 3 ∨ i = 4 ∨ i = 5 ∨ i = 6 ∨ i = 7 ∨ i = 8 ∨ i = 9 := by omega
  rcases h with rfl | rfl | rfl | rfl | rfl | rfl | rfl | rfl | rfl | rfl
  ·refine wpOp_step (o := r140x0) rfl fun KK hKK => ?_
   go_simp
   exact hKK _ _ ⟨B140_put _ _ _ 6 _ hB (by decide) (by decide) (Below.refl _ _), put_same (by omega), ⟨_, 6, _, rfl, rfl, rfl⟩, Below.refl _ _⟩
  ·refine wpOp_step (o := r140x1) rfl fun KK hKK => ?_
   have g6 := tmp_get (hF 0 (by kernel_rfl)) (by omega)
   have hc := cell_box (j := 6) hcx
   go_simp
   exact hKK _ _ ⟨B140_put _ _ _ 7 _ hB (by decide) (by decide) (Below.refl _ _), put_same (by omega), ⟨_, 7, _, rfl, rfl, rfl⟩, Below.refl _ _⟩
  ·refine wpOp_step (o := r140x2) rfl fun KK hKK => ?_
   go_simp
   exact hKK _ _ ⟨B140_put _ _ _ 8 _ hB (by decide) (by decide) (Below.refl _ _), put_same (by omega), ⟨_, 8, _, rfl, rfl, rfl⟩, Below.refl _ _⟩
  ·refine wpOp_step (o := r140x3) rfl fun KK hKK => ?_
   have g8 := tmp_get (hF 2 (by kernel_rfl)) (by omega)
   have hc := cell_box (j := 0) hcx
   go_simp
   exact hKK _ _ ⟨B140_put _ _ _ 9 _ hB (by decide) (by decide) (Below.refl _ _), put_same (by omega), ⟨_, 9, _, rfl, rfl, rfl⟩, Below.refl _ _⟩
  ·refine wpOp_step (o := r140x4) rfl fun KK hKK => ?_
   have g9 := tmp_get (hF 3 (by kernel_rfl)) (by omega)
   have hba : Below w1.heap.size w1 (w1.alloc (.cells #[.string nm] 9)) := (Below.refl _ _).alloc (Nat.le_refl _) _
   go_simp
   exact hKK _ _ ⟨B140_put _ _ _ 10 _ hB (by decide) (by decide) hba, ⟨w1.heap.size, put_same (by omega), heap_alloc_new _ _⟩, ⟨_, 10, _, rfl, rfl, rfl⟩, hba⟩
  ·refine wpOp_step (o := r140x5) rfl fun KK hKK => ?_
   obtain ⟨k0, k1, k2, k3, k4⟩ := cells5 hct
   go_simp
   exact hKK _ _ ⟨B140_put _ _ _ 11 _ hB (by decide) (by decide) (Below.refl _ _), put_same (by omega), ⟨_, 11, _, rfl, rfl, rfl⟩, Below.refl _ _⟩
  ·refine wpOp_step (o := r140x6) rfl fun KK hKK => ?_
   have g11 := tmp_get (hF 5 (by kernel_rfl)) (by omega)
   have hst := callsIn_wide.1 (standing_any T (.agg #[.int .i64 on, .int .i64 tn, .string tt, .slice ka kn kc, .slice pa pn pc]) w1 (TmAt.keep hbw hbw.size _ _ HT.o) hh hok (by have := HL.out; omega))
   have HST := lh hst
   clear hst
   go_simp
   refine HST.o.mono ?_
   rintro e w2 ⟨⟨sv, rfl, hsv⟩, hb2⟩
   obtain ⟨sa, sc, rfl⟩ := hsv.split
   exact hKK _ _ ⟨B140_put _ _ _ 12 _ hB (by decide) (by decide) hb2, ⟨sa, sc, put_same (by omega), hsv.mono (fun b h => h.2) fun _ _ _ h => h⟩, ⟨_, 12, _, rfl, rfl, rfl⟩, hb2⟩
  ·refine wpOp_step (o := r140x7) rfl fun KK hKK => ?_
   have g7 := tmp_get (hF 1 (by kernel_rfl)) (by omega)
   obtain ⟨c, k10, hc10⟩ := hF 4 (by kernel_rfl)
   obtain ⟨sa, sc, k12, hs12⟩ := hF 6 (by kernel_rfl)
   have g10 := tmp_get k10 (by omega)
   have g12 := tmp_get k12 (by omega)
   have hba : Below w1.heap.size w1 (w1.alloc (.cells #[.slice fa fr.length fcap, .slice (some ⟨c, 0, none⟩) 1 1, .slice sa (standL T).length sc] 22)) := (Below.refl _ _).alloc (Nat.le_refl _) _
   have HC10 := lh hc10; have HS12 := lh hs12
   clear k10 k12 hc10 hs12
   go_simp
   exact hKK _ _ ⟨B140_put _ _ _ 13 _ hB (by decide) (by decide) hba, ⟨w1.heap.size, c, sa, sc, put_same (by omega), heap_alloc_new _ _, bget' hba HC10.o, StrsIn_keep hba HS12.o⟩, ⟨_, 13, _, rfl, rfl, rfl⟩, hba⟩
  ·refine wpOp_step (o := r140x8) rfl fun KK hKK => ?_
   obtain ⟨b, c, sa, sc, k13, hb13, hc13, hs13⟩ := hF 7 (by kernel_rfl)
   have g13 := tmp_get k13 (by omega)
   have hrs := reserve_any [fr, [nm], standL T] b 0 3 w1 (lt_of_block hb13) (fun i hi => by
    have h : i = 0 ∨ i = 1 ∨ i = 2 := by simp at hi; omega
    rcases h with rfl | rfl | rfl
    ·exact ⟨_, cell_box hb13, HFV.o.mono hbw.size fun b o hlt hr => StrsAt.keep hbw _ _ _ hlt hr⟩
    ·refine ⟨_, cell_box hb13, .inr ⟨c, 0, 1, rfl, Nat.le_refl _, by unfold maxLen; omega, lt_of_block hc13, ⟨⟨cell_box hc13, hnm⟩, trivial⟩⟩⟩
    ·exact ⟨_, cell_box hb13, hs13.to (fun b h => h) fun _ _ h => h⟩) (by simp; have := HL.out; omega) (by simp)
   rw [show [fr, [nm], standL T].flatten = fr ++ [nm] ++ standL T by simp] at hrs
   have HRS := lh hrs
   clear hrs hb13 hc13 hs13 k13
   go_simp
   refine HRS.o.mono ?_
   rintro e w2 ⟨rfl, hset, hb2⟩
   exact hKK _ _ ⟨B140_put _ _ _ 14 _ hB (by decide) (by decide) hb2, ⟨w1.heap.size + 1, put_same (by omega), by have := hbw.size; omega, hset⟩, ⟨_, 14, _, rfl, rfl, rfl⟩, hb2⟩
  ·refine wpOp_step (o := r140x9) rfl fun KK hKK => ?_
   have hba : Below w1.heap.size w1 (w1.alloc (.cells #[.map none] 87)) := (Below.refl _ _).alloc (Nat.le_refl _) _
   go_simp
   exact hKK _ _ ⟨B140_put _ _ _ 5 _ hB (by decide) (by decide) hba, ⟨w1.heap.size, put_same (by omega), hbw.size, heap_alloc_new _ _⟩, ⟨_, 5, _, rfl, rfl, rfl⟩, hba⟩
 case hlast =>
  intro a1 w1 hB hF
  obtain ⟨hsz, hdf, g2, g3, hbw⟩ := hB
  obtain ⟨mb, k14, hm14, hset⟩ := hF 8 (by omega)
  obtain ⟨q, k5, hq5, hbq⟩ := hF 9 (by omega)
  have g14 := tmp_get k14 (by omega)
  have g5 := tmp_get k5 (by omega)
  have hc := cell_box (j := 0) hbq
  have hf := free_box hbq 0
  have hne : q ≠ mb := by
   rintro rfl
   obtain ⟨D, ⟨es, clock, h1, h2⟩, h3⟩ := hset
   rw [hbq] at h1
   cases h1
  have hks : Kept (fun b => b = q) w1 (w1.setCell ⟨q, 0, none⟩ (.map (some mb))) := .setCell (S := fun b => b = q) _ rfl _
  have hend := HK.o a1 (w1.setCell ⟨q, 0, none⟩ (.map (some mb))) q mb hsz hdf g2 k5 hq5 hm14 hne (one_setCell hbq) (hset.kept hks (fun h => hne h.symm)) (hbw.trans (hks.below hbw.size (by rintro b rfl; exact hq5)))
  have HEND := lh hend
  clear hend hdf hbq hset k14 k5 hks HK
  refine wpOp_step (o := r140x10) rfl fun KK hKK => ?_
  go_simp
  exact hKK _ _ HEND.o
theorem arr16 {l : Array Value} (h : l.size = 16) : ∃ u0 u1 u2 u3 u4 u5 u6 u7 u8 u9 u10 u11 u12 u13 u14 u15, l = #[u0, u1, u2, u3, u4, u5, u6, u7, u8, u9, u10, u11, u12, u13, u14, u15] := by
 obtain ⟨l⟩ := l
 match l, h with
 | [u0, u1, u2, u3, u4, u5, u6, u7, u8, u9, u10, u11, u12, u13, u14, u15], _ => exact ⟨u0, u1, u2, u3, u4, u5, u6, u7, u8, u9, u10, u11, u12, u13, u14, u15, rfl⟩
def ChoEnd (fr : List ByteArray) (nm : ByteArray) (T : Tm) (fv : Value) (w : World) (e : Ending) (w' : World) : Prop :=
 ∃ Bx q mb : Nat, e = .returned (.func (.func 166) #[] #[.pointer (some ⟨Bx, 0, none⟩), .pointer (some ⟨q, 0, none⟩)]) ∧ w.heap.size ≤ Bx ∧ w.heap.size ≤ q ∧ w.heap.size ≤ mb ∧ q ≠ mb ∧ Bx ≠ mb ∧ w'.cell? ⟨Bx, 6, none⟩ = some fv ∧
  w'.heap[q]? = some (.cells #[.map (some mb)] 87 (0, 0)) ∧ SetAt w' mb (fr ++ [nm] ++ standL T).length (inL (fr ++ [nm] ++ standL T)) ∧ Below w.heap.size w w'
set_option maxHeartbeats 4000000 in
set_option maxRecDepth 100000 in
theorem chooser_any (fr : List ByteArray) (nm : ByteArray) (y1 y2 y3 y4 y5 : Value) (fv : Value) (T : Tm) (v : Value) (w : World) (hnm : nm.size ≤ maxLen) (hfv : SlV w.heap.size fv fr.length fun b o => StrsAt w fr b o)
  (hT : TmAt w.heap.size w T v) (hh : heightM T ≤ 1000) (hok : okN T) (hl : (standL T).length + fr.length ≤ 900000) :
  Calls Tryz.prog 140 #[.agg #[.string nm, y1, y2, y3, y4, y5, fv], v] w fun e w' => ChoEnd fr nm T fv w e w' := by
 obtain ⟨fa, fcap, rfl, -⟩ := hfv.split
 obtain ⟨a, cap, a', cap', rfl, htx, -, -⟩ := hT.parts
 have HT := lh hT; have HFV := lh hfv; have HL := lh hl
 clear hT hfv hl
 go_enter Tryz.func140, Tryz.ntmps140
 go_wp2
 have hb2 : Below w.heap.size w ((w.alloc (.cells #[.string nm, y1, y2, y3, y4, y5, .slice fa fr.length fcap] 126)).alloc (.cells #[.int .i64 T.op, .int .i64 T.n, .string T.text, .slice a T.kids.length cap, .slice a' T.pats.length cap'] 32)) := ((Below.refl _ w).alloc (Nat.le_refl _) _).alloc (by simp) _
 have hs2 : ((w.alloc (.cells #[.string nm, y1, y2, y3, y4, y5, .slice fa fr.length fcap] 126)).alloc (.cells #[.int .i64 T.op, .int .i64 T.n, .string T.text, .slice a T.kids.length cap, .slice a' T.pats.length cap'] 32)).heap.size = w.heap.size + 2 := by simp
 have hx0 : ((w.alloc (.cells #[.string nm, y1, y2, y3, y4, y5, .slice fa fr.length fcap] 126)).alloc (.cells #[.int .i64 T.op, .int .i64 T.n, .string T.text, .slice a T.kids.length cap, .slice a' T.pats.length cap'] 32)).heap[w.heap.size]? = some (.cells #[.string nm, y1, y2, y3, y4, y5, .slice fa fr.length fcap] 126 (0, 0)) := by
  rw [Below.heap_alloc _ _ _ (by simp)]; exact heap_alloc_new _ _
 have hx1 : ((w.alloc (.cells #[.string nm, y1, y2, y3, y4, y5, .slice fa fr.length fcap] 126)).alloc (.cells #[.int .i64 T.op, .int .i64 T.n, .string T.text, .slice a T.kids.length cap, .slice a' T.pats.length cap'] 32)).heap[w.heap.size + 1]? = some (.cells #[.int .i64 T.op, .int .i64 T.n, .string T.text, .slice a T.kids.length cap, .slice a' T.pats.length cap'] 32 (0, 0)) := by
  have := heap_alloc_new (w.alloc (.cells #[.string nm, y1, y2, y3, y4, y5, .slice fa fr.length fcap] 126)) (.cells #[.int .i64 T.op, .int .i64 T.n, .string T.text, .slice a T.kids.length cap, .slice a' T.pats.length cap'] 32); simpa using this
 generalize ((w.alloc (.cells #[.string nm, y1, y2, y3, y4, y5, .slice fa fr.length fcap] 126)).alloc (.cells #[.int .i64 T.op, .int .i64 T.n, .string T.text, .slice a T.kids.length cap, .slice a' T.pats.length cap'] 32)) = V at *
 refine reg140 (Bx := w.heap.size) (Bt := w.heap.size + 1) rfl rfl rfl hx0 hx1 hnm (HFV.o.mono hb2.size fun b o hlt hr => StrsAt.keep hb2 _ _ _ hlt hr) (TmAt.keep hb2 hb2.size _ _ HT.o) hh hok HL.o ?_
 intro a1 w1 q mb h1 h2 h3 h4 h5 h6 h7 h8 h9 h10
 obtain ⟨ts, ds⟩ := a1
 obtain ⟨u0, u1, u2, u3, u4, u5, u6, u7, u8, u9, u10, u11, u12, u13, u14, u15, rfl⟩ := arr16 h1
 simp at h2 h3 h4
 subst h2 h3 h4
 have hbw := hb2.trans (h10.mono (by omega))
 have hend : ChoEnd fr nm T (.slice fa fr.length fcap) w (.returned (.func (.func 166) #[] #[.pointer (some ⟨w.heap.size, 0, none⟩), .pointer (some ⟨q, 0, none⟩)])) w1 :=
  ⟨w.heap.size, q, mb, rfl, Nat.le_refl _, by omega, by omega, h7, by omega, cell_box (bget' h10 hx0), h8, h9, hbw⟩
 have HEND := lh hend
 clear hend h8 h9 h10 hbw hx0 hx1 hb2
 go_wp2
 go_ret
 exact HEND.o
end Go.Proofs.YtjpahjfjpkbcnaaGreat
namespace Go.Proofs.YtjpahjfjpkbcnaaGreat
open Go.Proofs Go.RowKit
structure Fit (T : Tm) : Prop where
 h : heightM T ≤ 1000
 ok : okM T
 len : lensM T
theorem oksM_get : ∀ {ps : List Tm}, oksM ps → ∀ (k : Nat) (h : k < ps.length), okM ps[k]
 | p :: ps, h, 0, _ => by unfold oksM at h; exact h.1
 | p :: ps, h, k + 1, hk => by unfold oksM at h; exact oksM_get h.2 k (by simpa using hk)
theorem Fit.kid {T : Tm} (h : Fit T) (k : Nat) (hk : k < T.kids.length) : Fit T.kids[k] := by
 cases T with
 | mk op n text kids pats =>
  obtain ⟨h1, h2, h3⟩ := h
  unfold okM at h2
  unfold lensM at h3
  have h4 := heightsM_get kids k hk
  unfold heightM at h1
  exact ⟨by show heightM kids[k] ≤ 1000; omega, oksM_get h2.2.2 k hk, lensM_get h3.2.2.2 k hk⟩
def zeroV : Value := .agg #[.int .i64 0, .int .i64 0, .string ⟨#[]⟩, .slice none 0 0, .slice none 0 0]
theorem kept1 (W : World) (b j : Nat) (u : Value) : Kept (fun k => k = b) W (W.setCell ⟨b, j, none⟩ u) := .setCell (S := fun k => k = b) _ rfl _
theorem kept5 (W : World) (b : Nat) (u0 u1 u2 u3 u4 : Value) : Kept (fun k => k = b) W (((((W.setCell ⟨b, 0, none⟩ u0).setCell ⟨b, 1, none⟩ u1).setCell ⟨b, 2, none⟩ u2).setCell ⟨b, 3, none⟩ u3).setCell ⟨b, 4, none⟩ u4) :=
 ((((kept1 _ b 0 u0).trans (kept1 _ b 1 u1)).trans (kept1 _ b 2 u2)).trans (kept1 _ b 3 u3)).trans (kept1 _ b 4 u4)
theorem box_set5 {W : World} {b : Nat} {c0 c1 c2 c3 c4 : Value} {t : TypeId} (h : W.heap[b]? = some (.cells #[c0, c1, c2, c3, c4] t (0, 0))) (u0 u1 u2 u3 u4 : Value) :
  (((((W.setCell ⟨b, 0, none⟩ u0).setCell ⟨b, 1, none⟩ u1).setCell ⟨b, 2, none⟩ u2).setCell ⟨b, 3, none⟩ u3).setCell ⟨b, 4, none⟩ u4).heap[b]? = some (.cells #[u0, u1, u2, u3, u4] t (0, 0)) :=
 box_setCell (box_setCell (box_setCell (box_setCell (box_setCell h 0 u0) 1 u1) 2 u2) 3 u3) 4 u4
def IntsAt (w : World) : List Int → Nat → Nat → Prop
 | [], _, _ => True
 | x :: xs, b, o => w.cell? ⟨b, o, none⟩ = some (.int .i64 x) ∧ IntsAt w xs b (o + 1)
theorem IntsAt.keep {n₀ : Nat} {w w' : World} (hb : Below n₀ w w') : ∀ (xs : List Int) (b o : Nat), b < n₀ → IntsAt w xs b o → IntsAt w' xs b o
 | [], _, _, _, _ => trivial
 | _ :: xs, b, o, hlt, ⟨h, hr⟩ => ⟨(hb.cell (p := ⟨b, o, none⟩) hlt).trans h, IntsAt.keep hb xs b _ hlt hr⟩
theorem IntsAt.get {w : World} : ∀ (xs : List Int) (b o : Nat), IntsAt w xs b o → ∀ (i : Nat) (h : i < xs.length), w.cell? ⟨b, o + i, none⟩ = some (.int .i64 xs[i])
 | x :: xs, b, o, h, 0, _ => by simpa using h.1
 | x :: xs, b, o, h, i + 1, hi => by
  have := IntsAt.get xs b (o + 1) h.2 i (by simpa using hi)
  rw [show o + (i + 1) = o + 1 + i by omega]
  simpa using this
def atM : Tm → List Int → Option Tm
 | t, [] => some t
 | t, k :: ks => if h : 0 ≤ k ∧ k.toNat < t.kids.length then atM t.kids[k.toNat] ks else none
theorem atM_yes (t : Tm) (path : List Int) (k n : Nat) (h : k < path.length) (hx : path[k] = (n : Int)) (hn : n < t.kids.length) : atM t (path.drop k) = atM t.kids[n] (path.drop (k + 1)) := by
 rw [drop_cons path k h]
 show (if h : _ then _ else _) = _
 rw [dif_pos (by rw [hx]; exact ⟨by omega, by simpa using hn⟩)]
 simp [hx]
theorem atM_no (t : Tm) (path : List Int) (k : Nat) (h : k < path.length) (hx : ¬ (0 ≤ path[k] ∧ path[k].toNat < t.kids.length)) : atM t (path.drop k) = none := by
 rw [drop_cons path k h]
 show (if h : _ then _ else _) = _
 rw [dif_neg hx]
set_option maxHeartbeats 2000000 in
theorem fitting_any (p : Tm) (v : Value) (w : World) (hp : TmAt w.heap.size w p v) (hf : Fit p) :
  Calls Tryz.prog 103 #[v] w fun e w' => e = .returned (if termB p then .tuple #[v, .int .i64 0] else .tuple #[zeroV, .int .i64 3]) ∧ Below w.heap.size w w' := by
 obtain ⟨a, cap, a', cap', rfl, htx, -, -⟩ := hp.parts
 have hb1 := ((Below.refl w.heap.size w).alloc (Nat.le_refl _) (.cells #[.int .i64 p.op, .int .i64 p.n, .string p.text, .slice a p.kids.length cap, .slice a' p.pats.length cap'] 32)).alloc (by simp) (.cells #[.int .i64 0, .int .i64 0, .string ⟨#[]⟩, .slice none 0 0, .slice none 0 0] 32)
 have hc := Check_any p _ _ (TmAt.keep (n₁ := ((w.alloc (.cells #[.int .i64 p.op, .int .i64 p.n, .string p.text, .slice a p.kids.length cap, .slice a' p.pats.length cap'] 32)).alloc (.cells #[.int .i64 0, .int .i64 0, .string ⟨#[]⟩, .slice none 0 0, .slice none 0 0] 32)).heap.size) hb1 (by simp; omega) _ _ hp) hf.h hf.ok
 cases hb : termB p
 all_goals
  rw [hb] at hc
  have HC := lh hc; clear hc hb
  go_enter Tryz.func103, Tryz.ntmps103
  go_wp2_with fail
  refine HC.o.mono ?_
  rintro e w1 ⟨rfl, hbb⟩
  have x1 := bget' hbb ((Below.heap_alloc _ (.cells #[.int .i64 0, .int .i64 0, .string ⟨#[]⟩, .slice none 0 0, .slice none 0 0] 32) _ (by simp)).trans (heap_alloc_new w (.cells #[.int .i64 p.op, .int .i64 p.n, .string p.text, .slice a p.kids.length cap, .slice a' p.pats.length cap'] 32)))
  have x2 := bget' hbb (heap_alloc_new (w.alloc (.cells #[.int .i64 p.op, .int .i64 p.n, .string p.text, .slice a p.kids.length cap, .slice a' p.pats.length cap'] 32)) (.cells #[.int .i64 0, .int .i64 0, .string ⟨#[]⟩, .slice none 0 0, .slice none 0 0] 32))
  rw [World.size_alloc] at x2
  obtain ⟨y0, y1, y2, y3, y4⟩ := cells5 x1
  obtain ⟨z0, z1, z2, z3, z4⟩ := cells5 x2
  have f2 := free_box x2
  have hs1 := hbb.size
  simp at hs1
  have hB := hb1.trans (hbb.mono (by simp; omega))
  have HB := lh hB
  clear x1 x2 hbb hB
 ·have h2 : errOf false = 2 := rfl
  rw [h2]
  go_wp2
  have hkp := kept5 w1 (w.heap.size + 1)
  refine bodyPost_ret (v := .tuple #[zeroV, .int .i64 3]) (by simp [results, Tryz.results103, go_sem, z0, z1, z2, z3, z4, zeroV]) rfl ⟨rfl, HB.o.trans ((hkp _ _ _ _ _).below (by omega) (by rintro k rfl; omega))⟩
 ·have h2 : errOf true = 0 := rfl
  rw [h2]
  go_wp2
  have hkp := kept5 w1 (w.heap.size + 1)
  refine bodyPost_ret (v := .tuple #[.agg #[.int .i64 p.op, .int .i64 p.n, .string p.text, .slice a p.kids.length cap, .slice a' p.pats.length cap'], .int .i64 0]) (by simp [results, Tryz.results103, go_sem, z0, z1, z2, z3, z4]) rfl ⟨rfl, HB.o.trans ((hkp _ _ _ _ _).below (by omega) (by rintro k rfl; omega))⟩
set_option maxHeartbeats 4000000 in
set_option maxRecDepth 100000 in
theorem leads_any (p : Tm) (v pv : Value) (path : List Int) (w : World) (hp : TmAt w.heap.size w p v) (hpv : SlV w.heap.size pv path.length fun b o => IntsAt w path b o) (hl : path.length ≤ 1000000) :
  Calls Tryz.prog 101 #[v, pv] w fun e w' => e = .returned (.bool (atM p path).isSome) ∧ Below w.heap.size w w' := by
 obtain ⟨a, cap, a', cap', rfl, htx, -, -⟩ := hp.parts
 obtain ⟨pa, pcap, rfl, hpc, hplc, hpa⟩ := hpv.split
 have hb1 := (Below.refl w.heap.size w).alloc (Nat.le_refl _) (.cells #[.int .i64 p.op, .int .i64 p.n, .string p.text, .slice a p.kids.length cap, .slice a' p.pats.length cap'] 32)
 have hp1 := TmAt.keep hb1 (Nat.le_refl _) _ _ hp
 have hbx := heap_alloc_new w (.cells #[.int .i64 p.op, .int .i64 p.n, .string p.text, .slice a p.kids.length cap, .slice a' p.pats.length cap'] 32)
 have HP := lh hp1; have HPA := lh hpa; have HB1 := lh hb1; have HBX := lh hbx
 clear hp hpv hpa hp1 hb1 hbx
 unfold maxLen at hpc
 go_enter Tryz.func101, Tryz.ntmps101
 go_wp2
 go_loopw [9] (fun i wr => ∃ (k : Nat) (q : Tm) (qa : Option Addr) (qc : Nat) (qa' : Option Addr) (qc' : Nat), k ≤ path.length ∧ i = .int .i64 k ∧ Hid (atM p path = atM q (path.drop k)) ∧
  wr.heap[w.heap.size]? = some (.cells #[.int .i64 q.op, .int .i64 q.n, .string q.text, .slice qa q.kids.length qc, .slice qa' q.pats.length qc'] 32 (0, 0)) ∧
  Hid (TmAt w.heap.size wr q (.agg #[.int .i64 q.op, .int .i64 q.n, .string q.text, .slice qa q.kids.length qc, .slice qa' q.pats.length qc'])) ∧ Below w.heap.size w wr) (fun i _ => path.length - (intOf i).toNat)
 case atStart => exact ⟨0, p, a, cap, a', cap', Nat.zero_le _, rfl, rfl, HBX.o, HP.o, HB1.o⟩
 case round =>
  obtain ⟨k, q, qa, qc, qa', qc', hk, rfl, HA, hbox, HQ, hB⟩ := hrel
  have hwlt := lt_of_block hbox
  by_cases hlt : k < path.length
  ·obtain ⟨b, o, rfl, hbn, hss⟩ := HPA.o (by omega)
   have hg := (hB.cell (p := ⟨b, _, none⟩) hbn).trans (IntsAt.get path b o hss k hlt)
   obtain ⟨y0, y1, y2, y3, y4⟩ := cells5 hbox
   have ff := free_box hbox
   obtain ⟨_, _, _, _, heq, -, hqk, -⟩ := HQ.o.parts
   have hqk' : SlV w.heap.size (.slice qa q.kids.length qc) q.kids.length fun b o => TmsAt w.heap.size wr q.kids b o := by
    simp only [Value.agg.injEq, Array.mk.injEq, List.cons.injEq, Value.slice.injEq] at heq
    obtain ⟨-, -, -, ⟨rfl, -, rfl⟩, -⟩ := heq
    exact hqk
   obtain ⟨qb, qcap, heq2, hqc, hqlc, hqka⟩ := hqk'.split
   cases heq2
   unfold maxLen at hqc
   have HBOX := lh hbox; have HB := lh hB; have HQK := lh hqka
   clear hbox hB heq hqk hqk' hqka hss
   obtain ⟨x, hx⟩ : ∃ x, path[k] = x := ⟨_, rfl⟩
   have HXK := lh hx
   rw [hx] at hg
   clear hx
   by_cases hx0 : 0 ≤ x
   ·obtain ⟨n, rfl⟩ := Int.eq_ofNat_of_zero_le hx0
    by_cases hx1 : n < q.kids.length
    ·have HD := lh (atM_yes q path k n hlt HXK.o hx1)
     obtain ⟨kb, ko, rfl, hkb, hks⟩ := HQK.o (by omega)
     obtain ⟨c0, c1, c2, c3, c4, g0, g1, g2, g3, g4, ht⟩ := TmsAt.get q.kids kb ko hks n hx1
     obtain ⟨ra, rc, ra', rc', hre, -, -, -⟩ := ht.parts
     simp only [Value.agg.injEq, Array.mk.injEq, List.cons.injEq] at hre
     obtain ⟨rfl, rfl, rfl, rfl, rfl, -⟩ := hre
     have HT := lh ht; clear ht hks
     go_wp2
     go_roundw
     case rel =>
      have hkp := kept5 wr w.heap.size (.int .i64 q.kids[n].op) (.int .i64 q.kids[n].n) (.string q.kids[n].text) (.slice ra q.kids[n].kids.length rc) (.slice ra' q.kids[n].pats.length rc')
      have hkb' := hkp.below (n₀ := w.heap.size) (by omega) (by rintro k rfl; omega)
      exact ⟨k + 1, q.kids[n], ra, rc, ra', rc', by omega, by go_num, by unfold Hid; rw [HA.o, HD.o], box_set5 HBOX.o _ _ _ _ _, TmAt.keep hkb' (Nat.le_refl _) _ _ HT.o, HB.o.trans hkb'⟩
     case measure => simp [intOf]; omega
    ·have HD := lh (atM_no q path k hlt (by rw [HXK.o]; simp; omega))
     go_wp2
     go_ret
     exact ⟨ret_bool (by rw [HA.o, HD.o]; rfl), HB.o⟩
   ·have HD := lh (atM_no q path k hlt (by rw [HXK.o]; omega))
    go_wp2
    go_ret
    exact ⟨ret_bool (by rw [HA.o, HD.o]; rfl), HB.o⟩
  ·go_wp2
   go_ret
   exact ⟨ret_bool (by rw [HA.o, List.drop_eq_nil_of_le (by omega)]; rfl), hB⟩
def AtEnd (p : Tm) (path : List Int) (W : World) (e : Ending) (W' : World) : Prop :=
 if termB p = true then match atM p path with
  | some q => ∃ v, e = .returned (.tuple #[v, .int .i64 0]) ∧ TmNew W W' q v
  | none => e = .returned (.tuple #[zeroV, .int .i64 2])
 else e = .returned (.tuple #[zeroV, .int .i64 2])
theorem Fit.at : ∀ (path : List Int) (p q : Tm), Fit p → atM p path = some q → Fit q
 | [], p, q, h, he => by cases he; exact h
 | k :: ks, p, q, h, he => by
  unfold atM at he
  split at he
  ·rename_i hk
   exact Fit.at ks _ q (h.kid _ hk.2) he
  ·cases he
set_option maxHeartbeats 4000000 in
set_option maxRecDepth 100000 in
theorem At_any (p : Tm) (v pv : Value) (path : List Int) (w : World) (hp : TmAt w.heap.size w p v) (hpv : SlV w.heap.size pv path.length fun b o => IntsAt w path b o) (hl : path.length ≤ 1000000) (hf : Fit p) :
  Calls Tryz.prog 39 #[v, pv] w fun e w' => AtEnd p path w e w' ∧ Below w.heap.size w w' := by
 obtain ⟨a, cap, a', cap', rfl, htx, -, -⟩ := hp.parts
 have hb1 := ((Below.refl w.heap.size w).alloc (Nat.le_refl _) (.cells #[.int .i64 p.op, .int .i64 p.n, .string p.text, .slice a p.kids.length cap, .slice a' p.pats.length cap'] 32)).alloc (by simp) (.cells #[.int .i64 0, .int .i64 0, .string ⟨#[]⟩, .slice none 0 0, .slice none 0 0] 32)
 have hp1 := TmAt.keep (n₁ := ((w.alloc (.cells #[.int .i64 p.op, .int .i64 p.n, .string p.text, .slice a p.kids.length cap, .slice a' p.pats.length cap'] 32)).alloc (.cells #[.int .i64 0, .int .i64 0, .string ⟨#[]⟩, .slice none 0 0, .slice none 0 0] 32)).heap.size) hb1 (by simp; omega) _ _ hp
 have hc := Check_any p _ _ hp1 hf.h hf.ok
 cases hb : termB p
 ·have he : ∀ W', AtEnd p path w (.returned (.tuple #[zeroV, .int .i64 2])) W' := fun W' => by simp [AtEnd, hb]
  rw [hb] at hc
  have HC := lh hc; have HE := lh he; clear hc hb he hp hp1 hpv
  go_enter Tryz.func39, Tryz.ntmps39
  go_wp2_with fail
  refine HC.o.mono ?_
  rintro e w1 ⟨rfl, hbb⟩
  have x2 := bget' hbb (heap_alloc_new (w.alloc (.cells #[.int .i64 p.op, .int .i64 p.n, .string p.text, .slice a p.kids.length cap, .slice a' p.pats.length cap'] 32)) (.cells #[.int .i64 0, .int .i64 0, .string ⟨#[]⟩, .slice none 0 0, .slice none 0 0] 32))
  rw [World.size_alloc] at x2
  obtain ⟨z0, z1, z2, z3, z4⟩ := cells5 x2
  have f2 := free_box x2
  have hs1 := hbb.size
  simp at hs1
  have HB := lh (hb1.trans (hbb.mono (by simp; omega)))
  clear x2 hbb
  have h2 : errOf false = 2 := rfl
  rw [h2]
  go_wp2
  have hkp := kept5 w1 (w.heap.size + 1)
  refine bodyPost_ret (v := .tuple #[zeroV, .int .i64 2]) (by simp [results, Tryz.results39, go_sem, z0, z1, z2, z3, z4, zeroV]) rfl ⟨HE.o _, HB.o.trans ((hkp _ _ _ _ _).below (by omega) (by rintro k rfl; omega))⟩
 ·have hld : ∀ W, Below ((w.alloc (.cells #[.int .i64 p.op, .int .i64 p.n, .string p.text, .slice a p.kids.length cap, .slice a' p.pats.length cap'] 32)).alloc (.cells #[.int .i64 0, .int .i64 0, .string ⟨#[]⟩, .slice none 0 0, .slice none 0 0] 32)).heap.size ((w.alloc (.cells #[.int .i64 p.op, .int .i64 p.n, .string p.text, .slice a p.kids.length cap, .slice a' p.pats.length cap'] 32)).alloc (.cells #[.int .i64 0, .int .i64 0, .string ⟨#[]⟩, .slice none 0 0, .slice none 0 0] 32)) W → Calls Tryz.prog 101 #[.agg #[.int .i64 p.op, .int .i64 p.n, .string p.text, .slice a p.kids.length cap, .slice a' p.pats.length cap'], pv] W fun e w' => e = .returned (.bool (atM p path).isSome) ∧ Below W.heap.size W w' := fun W hW =>
   leads_any p _ pv path W (TmAt.keep hW hW.size _ _ hp1) (hpv.mono (by have := hW.size; simp at this; omega) fun b o hlt hr => IntsAt.keep ((hb1.trans (hW.mono (by simp; omega)))) _ b o hlt hr) hl
  rw [hb] at hc
  obtain ⟨pa, pcap, rfl, hpc, hplc, hpa⟩ := hpv.split
  have HC := lh hc; have HPB := lh hb; have HLD := lh hld; have HPA := lh hpa; have HP := lh hp
  clear hc hb hp1 hpv hld hpa hp
  unfold maxLen at hpc
  have h2 : errOf true = 0 := rfl
  cases hat : atM p path with
  | none =>
   have he : ∀ W', AtEnd p path w (.returned (.tuple #[zeroV, .int .i64 2])) W' := fun W' => by simp [AtEnd, HPB.o, hat]
   have HE := lh he; have HAT := lh hat; clear he hat
   go_enter Tryz.func39, Tryz.ntmps39
   go_wp2_with fail
   refine HC.o.mono ?_
   rintro e w1 ⟨rfl, hbb⟩
   rw [h2]
   have x1 := bget' hbb ((Below.heap_alloc _ (.cells #[.int .i64 0, .int .i64 0, .string ⟨#[]⟩, .slice none 0 0, .slice none 0 0] 32) _ (by simp)).trans (heap_alloc_new w (.cells #[.int .i64 p.op, .int .i64 p.n, .string p.text, .slice a p.kids.length cap, .slice a' p.pats.length cap'] 32)))
   have x2 := bget' hbb (heap_alloc_new (w.alloc (.cells #[.int .i64 p.op, .int .i64 p.n, .string p.text, .slice a p.kids.length cap, .slice a' p.pats.length cap'] 32)) (.cells #[.int .i64 0, .int .i64 0, .string ⟨#[]⟩, .slice none 0 0, .slice none 0 0] 32))
   rw [World.size_alloc] at x2
   obtain ⟨y0, y1, y2, y3, y4⟩ := cells5 x1
   have X2 := lh x2; have HBB := lh hbb; clear x1 x2 hbb
   go_wp2_with fail
   refine (HLD.o _ HBB.o).mono ?_
   rintro e w2 ⟨rfl, hbc⟩
   rw [HAT.o]
   have x2 := bget' hbc X2.o
   obtain ⟨z0, z1, z2, z3, z4⟩ := cells5 x2
   have f2 := free_box x2
   have hs1 := HBB.o.size
   have hs2 := hbc.size
   simp at hs1
   have HB := lh ((hb1.trans (HBB.o.mono (by simp; omega))).trans (hbc.mono (by omega)))
   clear x2 hbc y0 y1 y2 y3 y4
   go_wp2
   have hkp := kept5 w2 (w.heap.size + 1)
   refine bodyPost_ret (v := .tuple #[zeroV, .int .i64 2]) (by simp [results, Tryz.results39, go_sem, z0, z1, z2, z3, z4, zeroV]) rfl ⟨HE.o _, HB.o.trans ((hkp _ _ _ _ _).below (by omega) (by rintro k rfl; omega))⟩
  | some r =>
   have hfr := Fit.at path p r hf hat
   have HAT := lh hat; clear hat
   go_enter Tryz.func39, Tryz.ntmps39
   go_wp2_with fail
   refine HC.o.mono ?_
   rintro e w1 ⟨rfl, hbb⟩
   rw [h2]
   have x1 := bget' hbb ((Below.heap_alloc _ (.cells #[.int .i64 0, .int .i64 0, .string ⟨#[]⟩, .slice none 0 0, .slice none 0 0] 32) _ (by simp)).trans (heap_alloc_new w (.cells #[.int .i64 p.op, .int .i64 p.n, .string p.text, .slice a p.kids.length cap, .slice a' p.pats.length cap'] 32)))
   have x2 := bget' hbb (heap_alloc_new (w.alloc (.cells #[.int .i64 p.op, .int .i64 p.n, .string p.text, .slice a p.kids.length cap, .slice a' p.pats.length cap'] 32)) (.cells #[.int .i64 0, .int .i64 0, .string ⟨#[]⟩, .slice none 0 0, .slice none 0 0] 32))
   rw [World.size_alloc] at x2
   obtain ⟨y0, y1, y2, y3, y4⟩ := cells5 x1
   have X1 := lh x1; have X2 := lh x2; have HBB := lh hbb; clear x1 x2 hbb
   go_wp2_with fail
   refine (HLD.o _ HBB.o).mono ?_
   rintro e w2 ⟨rfl, hbc⟩
   rw [HAT.o]
   have hs1 := HBB.o.size
   have hs2 := hbc.size
   simp at hs1
   have hB2 := (hb1.trans (HBB.o.mono (by simp; omega))).trans (hbc.mono (by omega))
   have X1' := lh (bget' hbc X1.o)
   have X2' := lh (bget' hbc X2.o)
   have HP2 := lh (TmAt.keep hB2 (Nat.le_refl _) _ _ HP.o)
   have HB2 := lh hB2
   clear hbc y0 y1 y2 y3 y4 hB2
   go_wp2_with fail
   go_loopw [20] (fun i wr => ∃ (k : Nat) (q : Tm) (qa : Option Addr) (qc : Nat) (qa' : Option Addr) (qc' : Nat), k ≤ path.length ∧ i = .int .i64 k ∧ Hid (atM p path = atM q (path.drop k)) ∧
    wr.heap[w.heap.size]? = some (.cells #[.int .i64 q.op, .int .i64 q.n, .string q.text, .slice qa q.kids.length qc, .slice qa' q.pats.length qc'] 32 (0, 0)) ∧
    wr.heap[w.heap.size + 1]? = some (.cells #[.int .i64 0, .int .i64 0, .string ⟨#[]⟩, .slice none 0 0, .slice none 0 0] 32 (0, 0)) ∧
    Hid (TmAt w.heap.size wr q (.agg #[.int .i64 q.op, .int .i64 q.n, .string q.text, .slice qa q.kids.length qc, .slice qa' q.pats.length qc'])) ∧ Below w.heap.size w wr) (fun i _ => path.length - (intOf i).toNat)
   case atStart => exact ⟨0, p, a, cap, a', cap', Nat.zero_le _, rfl, rfl, X1'.o, X2'.o, HP2.o, HB2.o⟩
   case round =>
    obtain ⟨k, q, qa, qc, qa', qc', hk, rfl, HA, hbox, hrb, HQ, hB⟩ := hrel
    have hwlt := lt_of_block hrb
    by_cases hlt : k < path.length
    ·obtain ⟨b, o, rfl, hbn, hss⟩ := HPA.o (by omega)
     have hg := (hB.cell (p := ⟨b, _, none⟩) hbn).trans (IntsAt.get path b o hss k hlt)
     obtain ⟨y0, y1, y2, y3, y4⟩ := cells5 hbox
     have ff := free_box hbox
     obtain ⟨_, _, _, _, heq, -, hqk, -⟩ := HQ.o.parts
     have hqk' : SlV w.heap.size (.slice qa q.kids.length qc) q.kids.length fun b o => TmsAt w.heap.size wr q.kids b o := by
      simp only [Value.agg.injEq, Array.mk.injEq, List.cons.injEq, Value.slice.injEq] at heq
      obtain ⟨-, -, -, ⟨rfl, -, rfl⟩, -⟩ := heq
      exact hqk
     obtain ⟨qb, qcap, heq2, hqc, hqlc, hqka⟩ := hqk'.split
     cases heq2
     unfold maxLen at hqc
     obtain ⟨x, hx⟩ : ∃ x, path[k] = x := ⟨_, rfl⟩
     have HXK := lh hx
     rw [hx] at hg
     have HBOX := lh hbox; have HRB := lh hrb; have HB := lh hB; have HQK := lh hqka
     clear hbox hrb hB heq hqk hqk' hqka hss hx
     have hin : 0 ≤ x ∧ x.toNat < q.kids.length := Classical.byContradiction fun hno => by
      have h1 := atM_no q path k hlt (by rw [HXK.o]; exact hno)
      have h3 := HA.o
      rw [HAT.o, h1] at h3
      cases h3
     obtain ⟨n, rfl⟩ := Int.eq_ofNat_of_zero_le hin.1
     have hx1 : n < q.kids.length := by simpa using hin.2
     have HD := lh (atM_yes q path k n hlt HXK.o hx1)
     clear hin
     obtain ⟨kb, ko, rfl, hkb, hks⟩ := HQK.o (by omega)
     obtain ⟨c0, c1, c2, c3, c4, g0, g1, g2, g3, g4, ht⟩ := TmsAt.get q.kids kb ko hks n hx1
     obtain ⟨ra, rc, ra', rc', hre, -, -, -⟩ := ht.parts
     simp only [Value.agg.injEq, Array.mk.injEq, List.cons.injEq] at hre
     obtain ⟨rfl, rfl, rfl, rfl, rfl, -⟩ := hre
     have HT := lh ht; clear ht hks
     go_wp2
     go_roundw
     case rel =>
      have hkp := kept5 wr w.heap.size (.int .i64 q.kids[n].op) (.int .i64 q.kids[n].n) (.string q.kids[n].text) (.slice ra q.kids[n].kids.length rc) (.slice ra' q.kids[n].pats.length rc')
      have hkb' := hkp.below (n₀ := w.heap.size) (by omega) (by rintro k rfl; omega)
      exact ⟨k + 1, q.kids[n], ra, rc, ra', rc', by omega, by go_num, by unfold Hid; rw [HA.o, HD.o], box_set5 HBOX.o _ _ _ _ _, hkp.get HRB.o (by omega), TmAt.keep hkb' (Nat.le_refl _) _ _ HT.o, HB.o.trans hkb'⟩
     case measure => simp [intOf]; omega
    ·have hqr : q = r := by have := HA.out; rw [HAT.o, List.drop_eq_nil_of_le (by omega)] at this; cases this; rfl
     subst hqr
     obtain ⟨y0, y1, y2, y3, y4⟩ := cells5 hbox
     have HCP := lh (copyOf_any q _ wr (TmAt.keep (Below.refl _ _) (by have := hB.size; omega) _ _ HQ.o) hfr.len)
     have HRB := lh hrb; have HB := lh hB
     clear hbox hrb hB
     go_wp2_with fail
     refine HCP.o.mono ?_
     rintro e w3 ⟨⟨v2, rfl, hnew⟩, hb3⟩
     obtain ⟨o2, n2, t2, ka2, kn2, kc2, pa2, pn2, pc2, rfl⟩ := TmIn.shape hnew
     have x2 := bget' hb3 HRB.o
     obtain ⟨z0, z1, z2, z3, z4⟩ := cells5 x2
     have f2 := free_box x2
     have HB3 := lh hb3; have HN := lh hnew
     have hs3 := hb3.size
     have hsr := HB.o.size
     clear x2 hb3 hnew y0 y1 y2 y3 y4
     go_wp2
     have hkp := kept5 w3 (w.heap.size + 1) (.int .i64 o2) (.int .i64 n2) (.string t2) (.slice ka2 kn2 kc2) (.slice pa2 pn2 pc2)
     have hks := hkp.size
     refine bodyPost_ret (v := .tuple #[.agg #[.int .i64 o2, .int .i64 n2, .string t2, .slice ka2 kn2 kc2, .slice pa2 pn2 pc2], .int .i64 0]) (by simp [results, Tryz.results39, go_sem, z0, z1, z2, z3, z4]) rfl ⟨?_, (HB.o.trans (HB3.o.mono hsr)).trans (hkp.below (by omega) (by rintro k rfl; omega))⟩
     unfold AtEnd
     rw [if_pos HPB.o, HAT.o]
     exact ⟨_, rfl, TmIn.keep (fun b h => hkp.block b h.2 (by have := h.1; omega)) (fun b h => ⟨by have := h.1; omega, by have := h.2; omega⟩) _ _ HN.o⟩
def r56x0 : Oper := { dst := some 6, op := Op.load 35 (Operand.tmp 1), type := 35, pos := "law.go:20", after := #[], guard := none }
def r56x1 : Oper := { dst := some 7, op := Op.buildSlice 30 1 #[(0, Operand.tmp 6)], type := 30, pos := "law.go:20", after := #[{ on := 0, ground := Ground.data }], guard := none }
def r56x2 : Oper := { dst := some 8, op := Op.call { callee := Callee.value (Operand.func 58), args := #[Operand.const (Value.string { data := #[97] })], argTypes := #[9] }, type := 32, pos := "law.go:20", after := #[], guard := none }
def r56x3 : Oper := { dst := some 9, op := Op.call { callee := Callee.value (Operand.func 58), args := #[Operand.const (Value.string { data := #[98] })], argTypes := #[9] }, type := 32, pos := "law.go:20", after := #[{ on := 2, ground := Ground.chain }], guard := none }
def r56x4 : Oper := { dst := some 10, op := Op.call { callee := Callee.value (Operand.func 58), args := #[Operand.const (Value.string { data := #[100] })], argTypes := #[9] }, type := 32, pos := "law.go:20", after := #[{ on := 3, ground := Ground.chain }], guard := none }
def r56x5 : Oper := { dst := some 11, op := Op.call { callee := Callee.value (Operand.func 57), args := #[Operand.tmp 9, Operand.tmp 10], argTypes := #[32, 32] }, type := 32, pos := "law.go:20", after := #[{ on := 3, ground := Ground.data }, { on := 4, ground := Ground.data }, { on := 4, ground := Ground.chain }], guard := none }
def r56x6 : Oper := { dst := some 12, op := Op.buildSlice 29 2 #[(0, Operand.tmp 8), (1, Operand.tmp 11)], type := 29, pos := "law.go:20", after := #[{ on := 2, ground := Ground.data }, { on := 5, ground := Ground.data }], guard := none }
def r56x7 : Oper := { dst := some 13, op := Op.build 32 #[(0, Operand.const (Value.int IntKind.i64 15)), (4, Operand.tmp 7), (3, Operand.tmp 12)], type := 32, pos := "law.go:20", after := #[{ on := 1, ground := Ground.data }, { on := 6, ground := Ground.data }], guard := none }
def r56x8 : Oper := { dst := none, op := Op.store 32 (Operand.tmp 0) (Operand.tmp 13), type := 0, pos := "law.go:20", after := #[{ on := 7, ground := Ground.data }, { on := 5, ground := Ground.chain }, { on := 0, ground := Ground.phase }, { on := 1, ground := Ground.phase }, { on := 2, ground := Ground.phase }, { on := 3, ground := Ground.phase }, { on := 4, ground := Ground.phase }, { on := 5, ground := Ground.phase }, { on := 6, ground := Ground.phase }, { on := 7, ground := Ground.phase }], guard := none }
def ops56 : Array Oper := #[r56x0, r56x1, r56x2, r56x3, r56x4, r56x5, r56x6, r56x7, r56x8]
attribute [local go_sem] r56x0 r56x1 r56x2 r56x3 r56x4 r56x5 r56x6 r56x7 r56x8
def dst56 (i : Nat) : Nat := [6, 7, 8, 9, 10, 11, 12, 13].getD i 0
theorem dst56_eq : ∀ i, i < 8 → (ops56[i]?.bind (·.dst)) = some (dst56 i) := by
 intro i hi
 have h : i = 0 ∨ i = 1 ∨ i = 2 ∨ i = 3 ∨ i = 4 ∨ i = 5 ∨ i = 6 ∨ i = 7 := by omega
 rcases h with rfl | rfl | rfl | rfl | rfl | rfl | rfl | rfl <;> rfl
theorem dst56_inj : ∀ i j, i < 8 → j < 8 → i ≠ j → dst56 i ≠ dst56 j := by
 intro i j hi hj
 have h : i = 0 ∨ i = 1 ∨ i = 2 ∨ i = 3 ∨ i = 4 ∨ i = 5 ∨ i = 6 ∨ i = 7 := by omega
 have h' : j = 0 ∨ j = 1 ∨ j = 2 ∨ j = 3 ∨ j = 4 ∨ j = 5 ∨ j = 6 ∨ j = 7 := by omega
 rcases h with rfl | rfl | rfl | rfl | rfl | rfl | rfl | rfl <;> rcases h' with rfl | rfl | rfl | rfl | rfl | rfl | rfl | rfl <;> simp [dst56]
def Bs (S : Nat → Prop) (U w : World) (b : Nat) : Prop := S b ∨ (U.heap.size ≤ b ∧ b < w.heap.size)
def nm56 (s : ByteArray) : Tm := .mk 4 0 s [] []
def pl56 : Tm := .mk 9 0 ⟨#[]⟩ [nm56 ⟨#[98]⟩, nm56 ⟨#[100]⟩] []
def E56 (p : Pt) : Tm := .mk 15 0 ⟨#[]⟩ [nm56 ⟨#[97]⟩, pl56] [p]
section
variable (U : World) (S : Nat → Prop) (p : Pt) (p0 p1 : Int) (p2 : ByteArray) (pa : Option Addr) (pn pc : Nat)
def B56 (rb pb : Nat) (d0 : List Deferred) (a : Act) (w : World) : Prop := a.tmps.size = 14 ∧ a.defers = d0 ∧ a.tmps[0]? = some (.pointer (some ⟨rb, 0, none⟩)) ∧ a.tmps[1]? = some (.pointer (some ⟨pb, 0, none⟩)) ∧ Below U.heap.size U w
def F56 (j : Nat) (a : Act) (w : World) : Prop :=
 match j with
 | 0 => a.tmps[6]? = some (.agg #[.int .i64 p0, .int .i64 p1, .string p2, .slice pa pn pc])
 | 1 => ∃ c, a.tmps[7]? = some (.slice (some ⟨c, 0, none⟩) 1 1) ∧ w.heap[c]? = some (.cells #[.int .i64 p0, .int .i64 p1, .string p2, .slice pa pn pc] 35 (0, 0)) ∧ U.heap.size ≤ c
 | 2 => ∃ v, a.tmps[8]? = some v ∧ TmIn (fun _ => False) w (nm56 ⟨#[97]⟩) v
 | 3 => ∃ v, a.tmps[9]? = some v ∧ TmIn (fun _ => False) w (nm56 ⟨#[98]⟩) v
 | 4 => ∃ v, a.tmps[10]? = some v ∧ TmIn (fun _ => False) w (nm56 ⟨#[100]⟩) v
 | 5 => ∃ v, a.tmps[11]? = some v ∧ TmIn (Bs S U w) w pl56 v
 | 6 => ∃ c, a.tmps[12]? = some (.slice (some ⟨c, 0, none⟩) 2 2) ∧ U.heap.size ≤ c ∧ c < w.heap.size ∧ TmsIn (Bs S U w) w [nm56 ⟨#[97]⟩, pl56] c 0
 | _ => ∃ v, a.tmps[13]? = some v ∧ TmIn (Bs S U w) w (E56 p) v
theorem Bs_block {w w' : World} (hS : ∀ b, S b → b < U.heap.size) (hbw : U.heap.size ≤ w.heap.size) (hb : Below w.heap.size w w') (b : Nat) (h : Bs S U w b) : w'.heap[b]? = w.heap[b]? :=
 hb.block b (by rcases h with h | h; have := hS b h; omega; exact h.2)
theorem Bs_mono {w w' : World} (hb : Below w.heap.size w w') (b : Nat) (h : Bs S U w b) : Bs S U w' b := h.imp id fun h => ⟨h.1, by have := hb.size; have := h.2; omega⟩
theorem F56_stab (hS : ∀ b, S b → b < U.heap.size) (i j : Nat) (a : Act) (w : World) (a' : Act) (w' : World) (hij : i ≠ j) (hi : i < 8) (hj : j < 8) (hbw : U.heap.size ≤ w.heap.size) (h : F56 U S p p0 p1 p2 pa pn pc j a w) (hx : Ext ops56 i a w a' w') : F56 U S p p0 p1 p2 pa pn pc j a' w' := by
 obtain ⟨⟨o, d, v, ho, hd, rfl⟩, hb⟩ := hx
 have he := dst56_eq i hi
 rw [ho] at he
 have hd' : d = dst56 i := by simp [hd] at he; exact he
 have hne : d ≠ dst56 j := by rw [hd']; exact dst56_inj i j hi hj hij
 have hbl := Bs_block U S hS hbw hb
 have hmo := Bs_mono U S hb
 have hjj : j = 0 ∨ j = 1 ∨ j = 2 ∨ j = 3 ∨ j = 4 ∨ j = 5 ∨ j = 6 ∨ j = 7 := by omega
 rcases hjj with rfl | rfl | rfl | rfl | rfl | rfl | rfl | rfl
 ·exact (put_get hne).trans h
 ·obtain ⟨c, h1, h2, h3⟩ := h; exact ⟨c, (put_get hne).trans h1, bget' hb h2, h3⟩
 ·obtain ⟨v, h1, h2⟩ := h; exact ⟨v, (put_get hne).trans h1, TmIn.keep (fun b h => h.elim) (fun b h => h) _ _ h2⟩
 ·obtain ⟨v, h1, h2⟩ := h; exact ⟨v, (put_get hne).trans h1, TmIn.keep (fun b h => h.elim) (fun b h => h) _ _ h2⟩
 ·obtain ⟨v, h1, h2⟩ := h; exact ⟨v, (put_get hne).trans h1, TmIn.keep (fun b h => h.elim) (fun b h => h) _ _ h2⟩
 ·obtain ⟨v, h1, h2⟩ := h; exact ⟨v, (put_get hne).trans h1, TmIn.keep hbl hmo _ _ h2⟩
 ·obtain ⟨c, h1, h2, h3, h4⟩ := h; exact ⟨c, (put_get hne).trans h1, h2, by have := hb.size; omega, TmsIn.keep hbl hmo _ _ _ (.inr ⟨h2, h3⟩) h4⟩
 ·obtain ⟨v, h1, h2⟩ := h; exact ⟨v, (put_get hne).trans h1, TmIn.keep hbl hmo _ _ h2⟩
theorem B56_put {rb pb : Nat} {d0 : List Deferred} {a : Act} {w w' : World} (d : Nat) (v : Value) (h : B56 U rb pb d0 a w) (h2 : d ≠ 0) (h3 : d ≠ 1) (hb : Below w.heap.size w w') : B56 U rb pb d0 (a.put (some d) v) w' := by
 obtain ⟨g1, g2, g3, g4, g5⟩ := h
 exact ⟨by rw [size_put]; exact g1, g2, (put_get h2).trans g3, (put_get h3).trans g4, g5.trans (hb.mono g5.size)⟩
end
theorem waits56 (j : Nat) (hj : j < 8) : waitsB .any ops56 8 j = true := by
 have h : (List.range 8).all (fun j => waitsB .any ops56 8 j) = true := by kernel_rfl
 exact List.all_eq_true.1 h j (List.mem_range.2 hj)
set_option maxHeartbeats 4000000 in
set_option maxRecDepth 100000 in
theorem reg56 {Q : Exit → Act → World → Prop} {a : Act} {U : World} {rb pb : Nat} {S : Nat → Prop} {p : Pt} {p0 p1 : Int} {p2 : ByteArray} {pa : Option Addr} {pn pc : Nat} {z0 z1 z2 z3 z4 : Value}
  (hsz : a.tmps.size = 14) (h0 : a.tmps[0]? = some (.pointer (some ⟨rb, 0, none⟩))) (h1 : a.tmps[1]? = some (.pointer (some ⟨pb, 0, none⟩)))
  (hrb : U.heap[rb]? = some (.cells #[z0, z1, z2, z3, z4] 32 (0, 0))) (hpb : U.heap[pb]? = some (.cells #[.int .i64 p0, .int .i64 p1, .string p2, .slice pa pn pc] 35 (0, 0)))
  (hS : ∀ b, S b → b < U.heap.size) (hSr : ¬ S rb) (hp : PtIn S U p (.agg #[.int .i64 p0, .int .i64 p1, .string p2, .slice pa pn pc]))
  (hK : ∀ (a' : Act) (w' : World) (c0 c1 c2 c3 c4 : Value), a'.tmps.size = 14 → a'.defers = a.defers → a'.tmps[0]? = some (.pointer (some ⟨rb, 0, none⟩)) → w'.heap[rb]? = some (.cells #[c0, c1, c2, c3, c4] 32 (0, 0)) →
   TmIn (Bs S U w') w' (E56 p) (.agg #[c0, c1, c2, c3, c4]) → (∀ n, n ≤ rb → Below n U w') → Q .normal a' w') :
  (Code.region 2 ops56 true).wp Tryz.prog Q a U := by
 refine wp_region_any (by kernel_rfl) ?_
 have HRB := lh hrb; have HPB := lh hpb; have HK := lh hK; have HP := lh hp; have HH0 := lh h0; have HH1 := lh h1; have HSZ := lh hsz
 clear hrb hpb hK hp h0 h1 hsz
 refine wpAny_inv (by kernel_rfl) 8 ?hz rfl (F56 U S p p0 p1 p2 pa pn pc) (B56 U rb pb a.defers) (Ext ops56) ?hstep (fun i j a w a' w' h1 h2 h3 hB h5 h6 => F56_stab _ _ _ _ _ _ _ _ _ hS i j a w a' w' h1 h2 h3 hB.2.2.2.2.size h5 h6) ?hlast _ (List.range 9) _ a _ (by decide) (by decide) ?hu (by decide) ?hB ?hF
 case hz => exact fun j hj => waits56 j hj
 case hu => exact fun j hj => List.mem_range.2 (rep_true hj)
 case hB => exact ⟨HSZ.o, rfl, HH0.o, HH1.o, below_drew _ _⟩
 case hF => exact fun j hj => (rep_false hj).elim
 case hstep =>
  intro i a1 w1 hi hB hF
  obtain ⟨hsz, -, g0, g1, hbw⟩ := id hB
  have hcp := bget' hbw HPB.o
  have g0' := tmp_get g0 (by omega)
  have g1' := tmp_get g1 (by omega)
  have hszw := hbw.size
  have h : i = 0 ∨ i = 1 ∨ i = 2 ∨ i = 3 ∨ i = 4 ∨ i = 5 ∨ i = 6 ∨ i = 7 := by omega
  rcases h with rfl | rfl | rfl | rfl | rfl | rfl | rfl | rfl
  ·refine wpOp_step (o := r56x0) rfl fun KK hKK => ?_
   obtain ⟨k0, k1, k2, k3⟩ := cells4 hcp
   go_simp
   exact hKK _ _ ⟨B56_put _ 6 _ hB (by decide) (by decide) (Below.refl _ _), put_same (by omega), ⟨_, 6, _, rfl, rfl, rfl⟩, Below.refl _ _⟩
  ·refine wpOp_step (o := r56x1) rfl fun KK hKK => ?_
   have g6 := tmp_get (hF 0 (by kernel_rfl)) (by omega)
   have hba : Below w1.heap.size w1 (w1.alloc (.cells #[.int .i64 p0, .int .i64 p1, .string p2, .slice pa pn pc] 35)) := (Below.refl _ _).alloc (Nat.le_refl _) _
   go_simp
   exact hKK _ _ ⟨B56_put _ 7 _ hB (by decide) (by decide) hba, ⟨w1.heap.size, put_same (by omega), heap_alloc_new _ _, hszw⟩, ⟨_, 7, _, rfl, rfl, rfl⟩, hba⟩

  ·refine wpOp_step (o := r56x2) rfl fun KK hKK => ?_
   go_simp
   refine (name_in ⟨#[97]⟩ (by decide) w1).mono ?_
   rintro e w2 ⟨⟨v, rfl, hv⟩, hb2⟩
   exact hKK _ _ ⟨B56_put _ 8 _ hB (by decide) (by decide) hb2, ⟨v, put_same (by omega), hv⟩, ⟨_, 8, _, rfl, rfl, rfl⟩, hb2⟩
  ·refine wpOp_step (o := r56x3) rfl fun KK hKK => ?_
   go_simp
   refine (name_in ⟨#[98]⟩ (by decide) w1).mono ?_
   rintro e w2 ⟨⟨v, rfl, hv⟩, hb2⟩
   exact hKK _ _ ⟨B56_put _ 9 _ hB (by decide) (by decide) hb2, ⟨v, put_same (by omega), hv⟩, ⟨_, 9, _, rfl, rfl, rfl⟩, hb2⟩
  ·refine wpOp_step (o := r56x4) rfl fun KK hKK => ?_
   go_simp
   refine (name_in ⟨#[100]⟩ (by decide) w1).mono ?_
   rintro e w2 ⟨⟨v, rfl, hv⟩, hb2⟩
   exact hKK _ _ ⟨B56_put _ 10 _ hB (by decide) (by decide) hb2, ⟨v, put_same (by omega), hv⟩, ⟨_, 10, _, rfl, rfl, rfl⟩, hb2⟩
  ·refine wpOp_step (o := r56x5) rfl fun KK hKK => ?_
   obtain ⟨v9, k9, h9⟩ := hF 3 (by kernel_rfl)
   obtain ⟨v10, k10, h10⟩ := hF 4 (by kernel_rfl)
   have g9 := tmp_get k9 (by omega)
   have g10 := tmp_get k10 (by omega)
   have hpl := plus_in (Bs S U w1) (nm56 ⟨#[98]⟩) (nm56 ⟨#[100]⟩) v9 v10 w1 (fun b h => by rcases h with h | h; have := hS b h; omega; exact h.2) (TmIn.keep (fun b h => h.elim) (fun b h => h.elim) _ _ h9) (TmIn.keep (fun b h => h.elim) (fun b h => h.elim) _ _ h10)
   have HPL := lh hpl
   clear hpl k9 h9 k10 h10
   go_simp
   refine HPL.o.mono ?_
   rintro e w2 ⟨⟨v, rfl, hv⟩, hb2⟩
   exact hKK _ _ ⟨B56_put _ 11 _ hB (by decide) (by decide) hb2, ⟨v, put_same (by omega), TmIn.keep (fun _ _ => rfl) (fun b h => h.elim (Bs_mono U S hb2 b) fun h => .inr ⟨by have := h.1; omega, h.2⟩) _ _ hv⟩, ⟨_, 11, _, rfl, rfl, rfl⟩, hb2⟩
  ·refine wpOp_step (o := r56x6) rfl fun KK hKK => ?_
   obtain ⟨v8, k8, h8⟩ := hF 2 (by kernel_rfl)
   obtain ⟨v11, k11, h11⟩ := hF 5 (by kernel_rfl)
   obtain ⟨o2, n2, t2, ka2, kn2, kc2, pa2, pn2, pc2, rfl⟩ := TmIn.shape h8
   obtain ⟨o3, n3, t3, ka3, kn3, kc3, pa3, pn3, pc3, rfl⟩ := TmIn.shape h11
   have g8 := tmp_get k8 (by omega)
   have g11 := tmp_get k11 (by omega)
   have hba : Below w1.heap.size w1 (w1.alloc (.cells #[.int .i64 o2, .int .i64 n2, .string t2, .slice ka2 kn2 kc2, .slice pa2 pn2 pc2, .int .i64 o3, .int .i64 n3, .string t3, .slice ka3 kn3 kc3, .slice pa3 pn3 pc3] 32)) := (Below.refl _ _).alloc (Nat.le_refl _) _
   have hx := heap_alloc_new w1 (.cells #[.int .i64 o2, .int .i64 n2, .string t2, .slice ka2 kn2 kc2, .slice pa2 pn2 pc2, .int .i64 o3, .int .i64 n3, .string t3, .slice ka3 kn3 kc3, .slice pa3 pn3 pc3] 32)
   have hts : TmsIn (Bs S U (w1.alloc (.cells #[.int .i64 o2, .int .i64 n2, .string t2, .slice ka2 kn2 kc2, .slice pa2 pn2 pc2, .int .i64 o3, .int .i64 n3, .string t3, .slice ka3 kn3 kc3, .slice pa3 pn3 pc3] 32))) (w1.alloc (.cells #[.int .i64 o2, .int .i64 n2, .string t2, .slice ka2 kn2 kc2, .slice pa2 pn2 pc2, .int .i64 o3, .int .i64 n3, .string t3, .slice ka3 kn3 kc3, .slice pa3 pn3 pc3] 32)) [nm56 ⟨#[97]⟩, pl56] w1.heap.size 0 := by
    unfold TmsIn
    refine ⟨⟨_, _, _, _, _, cell_box hx, cell_box hx, cell_box hx, cell_box hx, cell_box hx, TmIn.keep (fun b h => h.elim) (fun b h => h.elim) _ _ h8⟩, ?_⟩
    unfold TmsIn
    refine ⟨⟨_, _, _, _, _, cell_box hx, cell_box hx, cell_box hx, cell_box hx, cell_box hx, TmIn.keep (Bs_block U S hS hszw hba) (Bs_mono U S hba) _ _ h11⟩, ?_⟩
    unfold TmsIn
    trivial
   have HTS := lh hts; have HX := lh hx
   clear hts hx k8 k11 h8 h11
   go_simp
   exact hKK _ _ ⟨B56_put _ 12 _ hB (by decide) (by decide) hba, ⟨w1.heap.size, put_same (by omega), hszw, lt_of_block HX.o, HTS.o⟩, ⟨_, 12, _, rfl, rfl, rfl⟩, hba⟩
  ·refine wpOp_step (o := r56x7) rfl fun KK hKK => ?_
   obtain ⟨c, k7, h7, hc7⟩ := hF 1 (by kernel_rfl)
   obtain ⟨c', k12, hc1, hc2, h12⟩ := hF 6 (by kernel_rfl)
   have g7 := tmp_get k7 (by omega)
   have g12 := tmp_get k12 (by omega)
   have hte : TmIn (Bs S U w1) w1 (E56 p) (.agg #[.int .i64 15, .int .i64 0, .string ⟨#[]⟩, .slice (some ⟨c', 0, none⟩) 2 2, .slice (some ⟨c, 0, none⟩) 1 1]) := by
    unfold E56 TmIn
    refine ⟨_, _, rfl, Nat.zero_le _, .inr ⟨c', 0, 2, rfl, Nat.le_refl _, by unfold maxLen; omega, .inr ⟨hc1, hc2⟩, h12⟩, .inr ⟨c, 0, 1, rfl, Nat.le_refl _, by unfold maxLen; omega, .inr ⟨hc7, lt_of_block h7⟩, ?_⟩⟩
    unfold PtsIn
    refine ⟨⟨_, _, _, _, cell_box h7, cell_box h7, cell_box h7, cell_box h7, PtIn.keep (fun b h => hbw.block b (hS b h)) (fun b h => .inl h) _ _ HP.o⟩, ?_⟩
    unfold PtsIn
    trivial
   have HTE := lh hte
   clear hte k7 k12 h12 h7
   go_simp
   exact hKK _ _ ⟨B56_put _ 13 _ hB (by decide) (by decide) (Below.refl _ _), ⟨_, put_same (by omega), HTE.o⟩, ⟨_, 13, _, rfl, rfl, rfl⟩, Below.refl _ _⟩
 case hlast =>
  intro a1 w1 hB hF
  obtain ⟨hsz, hdf, g0, g1, hbw⟩ := hB
  obtain ⟨v, k13, hv⟩ := hF 7 (by omega)
  obtain ⟨o2, n2, t2, ka2, kn2, kc2, pa2, pn2, pc2, rfl⟩ := TmIn.shape hv
  have g13 := tmp_get k13 (by omega)
  have g0' := tmp_get g0 (by omega)
  have hrb := bget' hbw HRB.o
  have hrl := lt_of_block HRB.o
  obtain ⟨m0, m1, m2, m3, m4⟩ := cells5 hrb
  have mf := free_box hrb
  have hks := kept5 w1 rb (.int .i64 o2) (.int .i64 n2) (.string t2) (.slice ka2 kn2 kc2) (.slice pa2 pn2 pc2)
  have hbx := box_set5 hrb (.int .i64 o2) (.int .i64 n2) (.string t2) (.slice ka2 kn2 kc2) (.slice pa2 pn2 pc2)
  have hsk := hks.size
  have hend := HK.o a1 _ _ _ _ _ _ hsz hdf g0 hbx (TmIn.keep (fun b h => hks.block b (by rcases h with h | h; have := hS b h; have := hbw.size; omega; exact h.2) (by rintro rfl; rcases h with h | h; exact hSr h; have := h.1; omega)) (fun b h => h.imp id fun h => ⟨h.1, by have := h.2; omega⟩) _ _ hv) (fun n hn => (hbw.mono (by omega)).trans (hks.below (by have := hbw.size; omega) (by rintro b rfl; exact hn)))
  have HEND := lh hend
  clear hend hdf hrb hv k13 hks hbx HK
  refine wpOp_step (o := r56x8) rfl fun KK hKK => ?_
  go_simp
  exact hKK _ _ HEND.o
end Go.Proofs.YtjpahjfjpkbcnaaGreat
namespace Go.Proofs.YtjpahjfjpkbcnaaGreat
open Go.Proofs Go.RowKit
def pE : Pt := .mk 6 0 ⟨#[67, 111, 110, 115]⟩ [.mk 2 0 ⟨#[98]⟩ [], .mk 2 0 ⟨#[99]⟩ []]
theorem arr14 {l : Array Value} (h : l.size = 14) : ∃ u0 u1 u2 u3 u4 u5 u6 u7 u8 u9 u10 u11 u12 u13, l = #[u0, u1, u2, u3, u4, u5, u6, u7, u8, u9, u10, u11, u12, u13] := by
 obtain ⟨l⟩ := l
 match l, h with
 | [u0, u1, u2, u3, u4, u5, u6, u7, u8, u9, u10, u11, u12, u13], _ => exact ⟨u0, u1, u2, u3, u4, u5, u6, u7, u8, u9, u10, u11, u12, u13, rfl⟩
set_option maxHeartbeats 2000000 in
set_option maxRecDepth 100000 in
theorem E_any (w : World) : Calls Tryz.prog 56 #[] w fun e w' => (∃ v, e = .returned v ∧ TmAt w'.heap.size w' (E56 pE) v) ∧ Below w.heap.size w w' := by
 go_enter Tryz.func56, Tryz.ntmps56
 go_upto_region 1 with fail
 have hx0 := heap_alloc_new w (.cells #[.int .i64 0, .int .i64 0, .string ⟨#[]⟩, .slice none 0 0, .slice none 0 0] 32)
 have hb0 : Below w.heap.size w (w.alloc (.cells #[.int .i64 0, .int .i64 0, .string ⟨#[]⟩, .slice none 0 0, .slice none 0 0] 32)) := (Below.refl _ _).alloc (Nat.le_refl _) _
 have hs0 : (w.alloc (.cells #[.int .i64 0, .int .i64 0, .string ⟨#[]⟩, .slice none 0 0, .slice none 0 0] 32)).heap.size = w.heap.size + 1 := by simp
 generalize (w.alloc (.cells #[.int .i64 0, .int .i64 0, .string ⟨#[]⟩, .slice none 0 0, .slice none 0 0] 32)) = w0 at *
 go_upto_region 2 with fail
 have hb1 : Below w0.heap.size w0 ((w0.alloc (.cells #[.int .i64 2, .int .i64 0, .string ⟨#[98]⟩, .slice none 0 0, .int .i64 2, .int .i64 0, .string ⟨#[99]⟩, .slice none 0 0] 35)).alloc (.cells #[.int .i64 6, .int .i64 0, .string ⟨#[67, 111, 110, 115]⟩, .slice (some ⟨w.heap.size + 1, 0, none⟩) 2 2] 35)) := ((Below.refl _ _).alloc (Nat.le_refl _) _).alloc (by simp) _
 have hs1 : ((w0.alloc (.cells #[.int .i64 2, .int .i64 0, .string ⟨#[98]⟩, .slice none 0 0, .int .i64 2, .int .i64 0, .string ⟨#[99]⟩, .slice none 0 0] 35)).alloc (.cells #[.int .i64 6, .int .i64 0, .string ⟨#[67, 111, 110, 115]⟩, .slice (some ⟨w.heap.size + 1, 0, none⟩) 2 2] 35)).heap.size = w.heap.size + 3 := by simp [hs0]
 have hxs : ((w0.alloc (.cells #[.int .i64 2, .int .i64 0, .string ⟨#[98]⟩, .slice none 0 0, .int .i64 2, .int .i64 0, .string ⟨#[99]⟩, .slice none 0 0] 35)).alloc (.cells #[.int .i64 6, .int .i64 0, .string ⟨#[67, 111, 110, 115]⟩, .slice (some ⟨w.heap.size + 1, 0, none⟩) 2 2] 35)).heap[w.heap.size + 1]? = some (.cells #[.int .i64 2, .int .i64 0, .string ⟨#[98]⟩, .slice none 0 0, .int .i64 2, .int .i64 0, .string ⟨#[99]⟩, .slice none 0 0] 35 (0, 0)) := by
  rw [Below.heap_alloc _ _ _ (by simp [hs0]), ← hs0]; exact heap_alloc_new _ _
 have hxp : ((w0.alloc (.cells #[.int .i64 2, .int .i64 0, .string ⟨#[98]⟩, .slice none 0 0, .int .i64 2, .int .i64 0, .string ⟨#[99]⟩, .slice none 0 0] 35)).alloc (.cells #[.int .i64 6, .int .i64 0, .string ⟨#[67, 111, 110, 115]⟩, .slice (some ⟨w.heap.size + 1, 0, none⟩) 2 2] 35)).heap[w.heap.size + 1 + 1]? = some (.cells #[.int .i64 6, .int .i64 0, .string ⟨#[67, 111, 110, 115]⟩, .slice (some ⟨w.heap.size + 1, 0, none⟩) 2 2] 35 (0, 0)) := by
  have := heap_alloc_new (w0.alloc (.cells #[.int .i64 2, .int .i64 0, .string ⟨#[98]⟩, .slice none 0 0, .int .i64 2, .int .i64 0, .string ⟨#[99]⟩, .slice none 0 0] 35)) (.cells #[.int .i64 6, .int .i64 0, .string ⟨#[67, 111, 110, 115]⟩, .slice (some ⟨w.heap.size + 1, 0, none⟩) 2 2] 35)
  rw [show (w0.alloc (.cells #[.int .i64 2, .int .i64 0, .string ⟨#[98]⟩, .slice none 0 0, .int .i64 2, .int .i64 0, .string ⟨#[99]⟩, .slice none 0 0] 35)).heap.size = w.heap.size + 1 + 1 by simp [hs0]] at this
  exact this
 generalize ((w0.alloc (.cells #[.int .i64 2, .int .i64 0, .string ⟨#[98]⟩, .slice none 0 0, .int .i64 2, .int .i64 0, .string ⟨#[99]⟩, .slice none 0 0] 35)).alloc (.cells #[.int .i64 6, .int .i64 0, .string ⟨#[67, 111, 110, 115]⟩, .slice (some ⟨w.heap.size + 1, 0, none⟩) 2 2] 35)) = w1 at *
 have hxr := bget' hb1 hx0
 have hbw := hb0.trans (hb1.mono hb0.size)
 have hp : PtIn (fun b => b = w.heap.size + 1) w1 pE (.agg #[.int .i64 6, .int .i64 0, .string ⟨#[67, 111, 110, 115]⟩, .slice (some ⟨w.heap.size + 1, 0, none⟩) 2 2]) := by
  unfold pE PtIn
  refine ⟨_, rfl, by decide, .inr ⟨w.heap.size + 1, 0, 2, rfl, Nat.le_refl _, by unfold maxLen; omega, rfl, ?_⟩⟩
  unfold PtsIn
  refine ⟨⟨_, _, _, _, cell_box hxs, cell_box hxs, cell_box hxs, cell_box hxs, by unfold PtIn; exact ⟨_, rfl, by decide, .inl ⟨rfl, rfl⟩⟩⟩, ?_⟩
  unfold PtsIn
  refine ⟨⟨_, _, _, _, cell_box hxs, cell_box hxs, cell_box hxs, cell_box hxs, by unfold PtIn; exact ⟨_, rfl, by decide, .inl ⟨rfl, rfl⟩⟩⟩, ?_⟩
  unfold PtsIn
  trivial
 refine reg56 (rb := w.heap.size) (pb := w.heap.size + 1 + 1) (S := fun b => b = w.heap.size + 1) (p := pE) rfl rfl rfl hxr hxp (by rintro b rfl; omega) (by show ¬ (w.heap.size = w.heap.size + 1); omega) hp ?_
 intro a' w' c0 c1 c2 c3 c4 g1 g2 g3 hbx hte hbl
 obtain ⟨k0, k1, k2, k3, k4⟩ := cells5 hbx
 have hbe := hbl w.heap.size (Nat.le_refl _)
 have HTE := lh hte; have HBE := lh (hbw.trans hbe); have HS := lh hs1
 have hse := hbe.size
 obtain ⟨ts, dsf⟩ := a'
 obtain ⟨u0, u1, u2, u3, u4, u5, u6, u7, u8, u9, u10, u11, u12, u13, rfl⟩ := arr14 g1
 simp at g2 g3
 subst g2 g3
 clear hbl hbe hp hxr hxp hxs hb0 hb1 hs0 hs1 hbw hx0 hbx hte
 go_wp2
 refine bodyPost_ret (v := .agg #[c0, c1, c2, c3, c4]) (by simp [results, Tryz.results56, go_sem, k0, k1, k2, k3, k4]) rfl ⟨⟨_, rfl, TmIn.to (fun b h => by have := HS.out; rcases h with rfl | h; omega; exact h.2) _ _ HTE.o⟩, HBE.o⟩
end Go.Proofs.YtjpahjfjpkbcnaaGreat
