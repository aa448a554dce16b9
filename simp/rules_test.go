package simp

import (
	"strings"
	"testing"

	"cadence/api"
)

// becomes: a text a line: the rule, what is made, and what that becomes.
// Of each rule: a node that it fits, one that it just does not, one that an earlier rule fits, too.
const becomesTruths = `
N1 | (not T) | F
N1 | (not F) | T
N1 | (not c) | (not c)
N2 | (not (not c)) | c
N2 | (not (and c (not cd))) | (not (and c (not cd)))
A1 | (and F c) | F
A1 | (and c F) | F
A1 | (and F T) | F
A1 | (and T F) | F
A1 | (and F F) | F
A2 | (and T c) | c
A2 | (and T T) | T
A3 | (and c T) | c
A4 | (and c c) | c
A4 | (and c cd) | (and c cd)
A4 | (and cd c) | (and cd c)
A5 | (and c (not c)) | F
A5 | (and (not c) c) | F
A5 | (and (not c) cd) | (and (not c) cd)
A5 | (and (not c) (not c)) | (not c)
O1 | (or T c) | T
O1 | (or c T) | T
O1 | (or T F) | T
O1 | (or F T) | T
O2 | (or F c) | c
O2 | (or F F) | F
O3 | (or c F) | c
O4 | (or c c) | c
O4 | (or c cd) | (or c cd)
O5 | (or c (not c)) | T
O5 | (or (not c) c) | T
O5 | (or cd (not c)) | (or cd (not c))
X1 | (xor F c) | c
X1 | (xor F T) | T
X1 | (xor F F) | F
X1 | (xor F (not c)) | (not c)
X2 | (xor T c) | (not c)
X2 | (xor T (not c)) | c
X2 | (xor T T) | F
X2 | (xor T F) | T
X3 | (xor c F) | c
X4 | (xor c T) | (not c)
X4 | (xor (not c) T) | c
X5 | (xor c c) | F
X5 | (xor (not c) (not c)) | F
X5 | (xor c cd) | (xor c cd)
X6 | (xor c (not c)) | T
X6 | (xor (not c) c) | T
X7 | (xor (not c) cd) | (not (xor c cd))
X7 | (xor (not c) (not cd)) | (xor c cd)
X7 | (xor (not (xor c cd)) (xor c cd)) | T
X8 | (xor c (not cd)) | (not (xor c cd))
X8 | (xor (xor c (not cd)) (not ce)) | (xor (xor c cd) ce)
E1 | (eq k k) | T
E1 | (eq c c) | T
E1 | (eq 3 3) | T
E1 | (eq T T) | T
E2 | (eq 3 4) | F
E2 | (eq T F) | F
E2 | (eq F T) | F
E2 | (eq 0:64 0xffffffffffffffff:64) | F
E3 | (eq 3 k) | (eq k 3)
E3 | (eq T c) | c
E3 | (eq F c) | (not c)
E3 | (eq F (not c)) | c
E3 | (eq k j) | (eq k j)
E3 | (eq 3 (add k 1)) | (eq k 2)
E4 | (eq c T) | c
E5 | (eq c F) | (not c)
E5 | (eq (not c) F) | c
E6 | (eq c (not c)) | F
E6 | (eq (not c) c) | F
E6 | (eq (not c) cd) | (eq (not c) cd)
E6 | (eq (not c) (not c)) | T
E7 | (eq (com k) 3) | (eq k 252)
E7 | (eq (com k) j) | (eq (com k) j)
E7 | (eq 3 (com k)) | (eq k 252)
E7 | (eq (com (add k j)) 0) | (eq (add k j) 255)
E8 | (eq (neg k) 3) | (eq k 253)
E8 | (eq (neg k) 0) | (eq k 0)
E8 | (eq (neg k) j) | (eq (neg k) j)
E9 | (eq (add k 1) 0) | (eq k 255)
E9 | (eq (add k 200) 100) | (eq k 156)
E9 | (eq (add k j) 0) | (eq (add k j) 0)
E9 | (eq (com (add (com k) 1)) 7) | (eq k 8)
E9 | (eq (add k:64 1:64) 0:64) | (eq k:64 0xffffffffffffffff:64)
E9 | (eq (sub k 3) 0) | (eq k 3)
E10 | (eq (bxor k 5) 6) | (eq k 3)
E10 | (eq (bxor k 5) 0) | (eq k 5)
E10 | (eq (bxor k j) 6) | (eq (bxor k j) 6)
E11 | (eq (rol k 1) 1) | (eq k 128)
E11 | (eq (ror k 1) 1) | (eq k 2)
E11 | (eq (rol k j) 1) | (eq (rol k j) 1)
E11 | (eq (shl k 1) 1) | (eq (shl k 1) 1)
E12 | (eq (sub k j) 0) | (eq k j)
E12 | (eq (bxor k j) 0) | (eq k j)
E12 | (eq (sub k j) 1) | (eq (sub k j) 1)
E12 | (eq (bxor (com k) (com j)) 0) | (eq (com k) (com j))
E12 | (eq (sub 7 k) 0) | (eq k 7)
E12 | (eq (sub (add k 1) (add k 1)) 0) | T
E13 | (eq (zext k 16) 255:16) | (eq k 255)
E13 | (eq (zext k 16) 256:16) | F
E13 | (eq (zext k 9) 256:9) | F
E13 | (eq (zext (com k) 16) 255:16) | (eq k 0)
E13 | (eq (zext k 64) 0x8000000000000000:64) | F
E13 | (eq (zext k 16) (zext j 16)) | (eq (zext k 16) (zext j 16))
E14 | (eq (sext k 16) 0xff80:16) | (eq k 128)
E14 | (eq (sext k 16) 127:16) | (eq k 127)
E14 | (eq (sext k 16) 128:16) | F
E14 | (eq (sext k 16) 0xff7f:16) | F
E14 | (eq (sext k 16) 0x7fff:16) | F
E14 | (eq (sext k 64) 0xffffffffffffffff:64) | (eq k 255)
E14 | (eq (sext k:1 2) 3:2) | (eq k:1 1:1)
E14 | (eq (sext k:1 2) 1:2) | F
E15 | (eq (ite c 1 2) 1) | c
E15 | (eq (ite c 1 2) 2) | (not c)
E15 | (eq (ite c 1 2) 3) | F
E15 | (eq 2 (ite c 1 2)) | (not c)
E15 | (eq (raw (ite c 1 1)) 1) | T
E15 | (eq (raw (ite c 1 1)) 2) | F
E15 | (eq (ite (eq c cd) 1 2) 2) | (not (eq c cd))
E15 | (eq (raw (ite (not c) 1 2)) 2) | c
E15 | (eq (ite c k 2) 2) | (eq (ite c k 2) 2)
E15 | (eq (ite c 2 k) 2) | (eq (ite c 2 k) 2)
E15 | (eq (add (ite c 1 2) 1) 2) | c
E16 | (eq (cat k j) 0x1234:16) | (and (eq k 0x12) (eq j 0x34))
E16 | (eq (cat (com k) (add j 1)) 0:16) | (and (eq k 255) (eq j 255))
E16 | (eq (cat k k) 0x1212:16) | (eq k 0x12)
E16 | (eq (cat k 1) 0x1202:16) | F
E16 | (eq (cat k 2) 0x1202:16) | (eq k 0x12)
E16 | (eq (cat k:1 j:63) 0x8000000000000001:64) | (and (eq k:1 1:1) (eq j:63 1:63))
E16 | (eq (cat (cat k j) i) 0x123456:24) | (and (and (eq k 0x12) (eq j 0x34)) (eq i 0x56))
E16 | (eq (cat k (cat j i)) 0x123456:24) | (and (eq k 0x12) (and (eq j 0x34) (eq i 0x56)))
U1 | (ult k k) | F
U1 | (ult 0 0) | F
U2 | (ult 3 4) | T
U2 | (ult 4 3) | F
U2 | (ult 0x7fffffffffffffff:64 0x8000000000000000:64) | T
U2 | (ult 0 255) | T
U3 | (ult k 0) | F
U4 | (ult 0 k) | (not (eq k 0))
U4 | (ult 0 (add k 1)) | (not (eq k 255))
U4 | (ult 0:1 k:1) | (not (eq k:1 0:1))
U5 | (ult k 1) | (eq k 0)
U5 | (ult (neg k) 1) | (eq k 0)
U5 | (ult k:1 1:1) | (eq k:1 0:1)
U5 | (ult k 2) | (ult k 2)
U6 | (ult 255 k) | F
U6 | (ult 254 k) | (ult 254 k)
U6 | (ult 1:1 k:1) | F
U7 | (ult k 255) | (not (eq k 255))
U7 | (ult (com k) 255) | (not (eq k 0))
U7 | (ult k 254) | (ult k 254)
U7 | (ult k 1:8) | (eq k 0)
- | (ule k j) | (not (ult j k))
- | (ule k k) | T
- | (ule 0 k) | T
- | (ule k 0) | (eq k 0)
- | (ule 1 k) | (not (eq k 0))
- | (ule k 254) | (not (ult 254 k))
- | (ule 255 k) | (eq k 255)
- | (ule 3 4) | T
- | (ule 4 3) | F
L1 | (slt k k) | F
L2 | (slt 255 0) | T
L2 | (slt 127 128) | F
L2 | (slt 0:1 1:1) | F
L2 | (slt 1:1 0:1) | T
L2 | (slt k 0) | (slt k 0)
L2 | (slt 128 k) | (slt 128 k)
- | (sle k j) | (not (slt j k))
- | (sle k k) | T
- | (sle 128 127) | T
`

const becomesIte = `
I1 | (ite T k j) | k
I1 | (ite F k j) | j
I1 | (ite T k k) | k
I2 | (ite c k k) | k
I2 | (ite c T T) | T
I2 | (ite (not c) k k) | k
I3 | (ite (not c) k j) | (ite c j k)
I3 | (ite (not c) T cd) | (or (not c) cd)
I3 | (ite (and c cd) k j) | (ite (and c cd) k j)
I4 | (ite c T cd) | (or c cd)
I4 | (ite c T F) | c
I4 | (ite c T (not c)) | T
I4 | (ite c T c) | c
I5 | (ite c F cd) | (and (not c) cd)
I5 | (ite c F T) | (not c)
I5 | (ite c F c) | F
I6 | (ite c cd T) | (or (not c) cd)
I6 | (ite c c T) | T
I7 | (ite c cd F) | (and c cd)
I7 | (ite c c F) | c
I8 | (ite c c cd) | (or c cd)
I9 | (ite c cd c) | (and c cd)
I9 | (ite c cd ce) | (ite c cd ce)
I9 | (ite c (not c) cd) | (ite c (not c) cd)
I10 | (ite c (ite c k j) i) | (ite c k i)
I10 | (ite c (ite c k j) k) | k
I10 | (ite cd (ite c k j) i) | (ite cd (ite c k j) i)
I10 | (ite (not c) (ite c k j) i) | (ite c i j)
I11 | (ite c i (ite c k j)) | (ite c i j)
I11 | (ite c j (ite c k j)) | j
I11 | (ite cd i (ite c k j)) | (ite cd i (ite c k j))
I11 | (ite c (ite c k j) (ite c j i)) | (ite c k i)
I11 | (ite c (ite c k j) (ite c i j)) | (ite c k j)
I11 | (ite c (ite c k j) (ite c i k)) | k
I10 | (ite c (ite c cd ce) F) | (and c (ite c cd ce))
I10 | (ite c (ite c cd ce) cf) | (ite c cd cf)
I10 | (ite c (raw (ite c T ce)) cf) | (or c cf)
`

const becomesWords = `
C1 | (com 3) | 252
C1 | (neg 3) | 253
C1 | (neg 0) | 0
C1 | (com 0:64) | 0xffffffffffffffff:64
C1 | (neg 1:1) | 1:1
C1 | (com 5:3) | 2:3
C2 | (com (com k)) | k
C2 | (neg (neg k)) | k
C2 | (com (neg k)) | (com (neg k))
C2 | (neg (com k)) | (neg (com k))
C3 | (neg (sub k j)) | (sub j k)
C3 | (com (sub k j)) | (com (sub k j))
C3 | (neg (sub 5 k)) | (add k 251)
C3 | (neg (raw (sub k k))) | 0
C3 | (neg (raw (sub k 0))) | (neg k)
B1 | (band 12 10) | 8
B1 | (bor 12 10) | 14
B1 | (bxor 12 10) | 6
B1 | (add 200 100) | 44
B1 | (sub 1 2) | 255
B1 | (mul 16 17) | 16
B1 | (div 7 0) | 255
B1 | (div 7 2) | 3
B1 | (rem 7 0) | 7
B1 | (rem 7 2) | 1
B1 | (shl 3 9) | 6
B1 | (shr 3 9) | 1
B1 | (sar 0x90 4) | 0xf9
B1 | (rol 0x81 1) | 3
B1 | (ror 0x81 1) | 0xc0
B1 | (cat 10:4 0xbc) | 0xabc:12
B1 | (mul 0xffffffffffffffff:64 0xffffffffffffffff:64) | 1:64
B1 | (add 7:3 1:3) | 0:3
B2 | (band 3 k) | (band k 3)
B2 | (bor 3 k) | (bor k 3)
B2 | (bxor 3 k) | (bxor k 3)
B2 | (add 3 k) | (add k 3)
B2 | (mul 3 k) | (mul k 3)
B2 | (sub 3 k) | (sub 3 k)
B2 | (div 3 k) | (div 3 k)
B2 | (rem 3 k) | (rem 3 k)
B2 | (add k j) | (add k j)
B2 | (add j k) | (add j k)
B2 | (add 0 k) | k
G1 | (band k 0) | 0
G1 | (band 0 k) | 0
G1 | (band k 1) | (band k 1)
G2 | (band k 255) | k
G2 | (band k:64 0xffffffffffffffff:64) | k:64
G2 | (band k 254) | (band k 254)
G2 | (band k:1 1:1) | k:1
G3 | (band k k) | k
G4 | (band k (com k)) | 0
G4 | (band (com k) k) | 0
G4 | (band (com k) j) | (band (com k) j)
G4 | (band (neg k) k) | (band (neg k) k)
G5 | (band (band k 12) 10) | (band k 8)
G5 | (band (band k 12) 3) | 0
G5 | (band (band k 12) j) | (band (band k 12) j)
G5 | (band (bor k 12) 10) | (band (bor k 12) 10)
G5 | (band 10 (band k 12)) | (band k 8)
H1 | (bor k 0) | k
H2 | (bor k 255) | 255
H2 | (bor k:64 0xffffffffffffffff:64) | 0xffffffffffffffff:64
H2 | (bor k 127) | (bor k 127)
H3 | (bor k k) | k
H4 | (bor k (com k)) | 255
H4 | (bor (com k) k) | 255
H4 | (bor k:3 (com k:3)) | 7:3
H4 | (bor (com k) (com k)) | (com k)
H5 | (bor (bor k 12) 3) | (bor k 15)
H5 | (bor (bor k 0xf0) 15) | 255
H5 | (bor (bor k j) 15) | (bor (bor k j) 15)
K1 | (bxor k 0) | k
K2 | (bxor k 255) | (com k)
K2 | (bxor (com k) 255) | k
K2 | (bxor k:1 1:1) | (com k:1)
K2 | (bxor k 254) | (bxor k 254)
K3 | (bxor k k) | 0
K4 | (bxor k (com k)) | 255
K4 | (bxor (com k) k) | 255
K4 | (bxor (com k) (com k)) | 0
K4 | (bxor (com k) (com j)) | (bxor (com k) (com j))
K5 | (bxor (bxor k 12) 10) | (bxor k 6)
K5 | (bxor (bxor k 12) 12) | k
K5 | (bxor (bxor k 12) 0xf3) | (com k)
K5 | (bxor (bxor (com k) 12) 0xf3) | k
K6 | (bxor (bxor k j) j) | k
K7 | (bxor (bxor k j) k) | j
K8 | (bxor k (bxor j k)) | j
K9 | (bxor k (bxor k j)) | j
K9 | (bxor k (bxor j i)) | (bxor k (bxor j i))
K9 | (bxor k (bor k j)) | (bxor k (bor k j))
K6 | (bxor (bxor k (bxor j i)) (bxor j i)) | k
K8 | (bxor (bxor k j) (bxor i (bxor k j))) | i
P1 | (add k 0) | k
P2 | (add (add k 3) 253) | k
P2 | (add (add k 200) 100) | (add k 44)
P2 | (add (add k j) 100) | (add (add k j) 100)
P2 | (add 100 (add 200 k)) | (add k 44)
P2 | (add (sub k 3) 5) | (add k 2)
P3 | (add k (neg j)) | (sub k j)
P3 | (add k (neg k)) | 0
P3 | (add (neg k) (neg j)) | (sub (neg k) j)
P3 | (add (add k j) (neg j)) | k
P4 | (add (neg k) j) | (sub j k)
P4 | (add (neg k) k) | 0
P4 | (add (neg k) 3) | (sub 3 k)
P4 | (add (com k) j) | (add (com k) j)
P5 | (add (sub k j) j) | k
P5 | (add (sub k j) k) | (add (sub k j) k)
P5 | (add (sub 3 k) k) | 3
P6 | (add j (sub k j)) | k
P6 | (add k (sub k j)) | (add k (sub k j))
P6 | (add (sub k j) (sub i (sub k j))) | i
M1 | (sub k 0) | k
M1 | (sub 0 0) | 0
M2 | (sub k k) | 0
M3 | (sub k 3) | (add k 253)
M3 | (sub k 128) | (add k 128)
M3 | (sub (add k 3) 3) | k
M3 | (sub (neg k) 3) | (sub 253 k)
M3 | (sub k:64 1:64) | (add k:64 0xffffffffffffffff:64)
M4 | (sub 0 k) | (neg k)
M4 | (sub 0 (neg k)) | k
M4 | (sub 0 (sub k j)) | (sub j k)
M4 | (sub 1 k) | (sub 1 k)
M5 | (sub (add k j) j) | k
M5 | (sub (add k k) k) | k
M6 | (sub (add k j) k) | j
M6 | (sub (add k 3) k) | 3
M6 | (sub k (add k j)) | (sub k (add k j))
M7 | (sub k (neg j)) | (add k j)
M7 | (sub 0 (neg j)) | j
M7 | (sub 3 (neg j)) | (add j 3)
M7 | (sub (neg j) (neg k)) | (sub k j)
M7 | (sub (add k (neg j)) (neg j)) | k
Q1 | (mul k 0) | 0
Q2 | (mul k 1) | k
Q2 | (mul k:1 1:1) | k:1
Q3 | (mul k 255) | (neg k)
Q3 | (mul (neg k) 255) | k
Q3 | (mul k:2 3:2) | (neg k:2)
Q4 | (mul k 4) | (shl k 2)
Q4 | (mul k 2) | (shl k 1)
Q4 | (mul k 128) | (shl k 7)
Q4 | (mul k 3) | (mul k 3)
Q4 | (mul k 6) | (mul k 6)
Q4 | (mul 4 k) | (shl k 2)
Q4 | (mul k:6 4:6) | (mul k:6 4:6)
Q4 | (mul k:63 4:63) | (mul k:63 4:63)
Q4 | (mul k:2 2:2) | (shl k:2 1:2)
Q4 | (mul k:64 0x8000000000000000:64) | (shl k:64 63:64)
Q4 | (mul (shl k 3) 4) | (shl k 5)
Q4 | (mul (shl k 6) 4) | 0
Q4 | (mul (mul k 3) 4) | (shl (mul k 3) 2)
Q5 | (mul (mul k 3) 5) | (mul k 15)
Q5 | (mul (mul k 3) 171) | k
Q5 | (mul (mul k:6 4:6) 16:6) | 0:6
Q5 | (mul (mul k:6 4:6) 4:6) | (mul k:6 16:6)
Q5 | (mul (mul k j) 5) | (mul (mul k j) 5)
D1 | (div k 1) | k
D1 | (div k 0) | (div k 0)
D2 | (div k 2) | (shr k 1)
D2 | (div k 128) | (shr k 7)
D2 | (div k 3) | (div k 3)
D2 | (div k 255) | (div k 255)
D2 | (div k:7 2:7) | (div k:7 2:7)
D2 | (div (shr k 4) 16) | 0
D2 | (div 4 k) | (div 4 k)
D2 | (div k k) | (div k k)
D2 | (div 0 k) | (div 0 k)
R1 | (rem k 1) | 0
R1 | (rem k:1 1:1) | 0:1
R1 | (rem k 0) | (rem k 0)
R2 | (rem k 2) | (band k 1)
R2 | (rem k 128) | (band k 127)
R2 | (rem k:7 64:7) | (band k:7 63:7)
R2 | (rem k 6) | (rem k 6)
R2 | (rem (band k 0xf0) 16) | 0
R2 | (rem k k) | (rem k k)
R2 | (rem k:64 0x8000000000000000:64) | (band k:64 0x7fffffffffffffff:64)
`

const becomesShifts = `
S1 | (shl 0 k) | 0
S1 | (shr 0 k) | 0
S1 | (sar 0 k) | 0
S1 | (rol 0 k) | 0
S1 | (ror 0 k) | 0
S1 | (sar 255 k) | (sar 255 k)
S1 | (rol 255 k) | (rol 255 k)
S2 | (shl k 8) | k
S2 | (shl k 9) | (shl k 1)
S2 | (shl k 255) | (shl k 7)
S2 | (shr k 9) | (shr k 1)
S2 | (sar k 9) | (sar k 1)
S2 | (rol k 9) | (rol k 1)
S2 | (ror k 9) | (rol k 7)
S2 | (ror k 8) | k
S2 | (shl k:64 64:64) | k:64
S2 | (shl k:64 0xffffffffffffffff:64) | (shl k:64 63:64)
S2 | (shl k:1 1:1) | k:1
S2 | (ror k:1 1:1) | k:1
S2 | (shl k:2 3:2) | (shl k:2 1:2)
S2 | (shl (shl k 3) 12) | (shl k 7)
S3 | (shl k 0) | k
S3 | (shr k 0) | k
S3 | (sar k 0) | k
S3 | (rol k 0) | k
S3 | (ror k 0) | k
S3 | (shl k 7) | (shl k 7)
S3 | (shl k 1) | (shl k 1)
S4 | (shl (shl k 3) 4) | (shl k 7)
S4 | (shl (shl k 4) 4) | 0
S4 | (shl (shl k 7) 7) | 0
S4 | (shr (shr k 3) 4) | (shr k 7)
S4 | (shr (shr k 5) 4) | 0
S4 | (shr (shl k 3) 4) | (shr (shl k 3) 4)
S4 | (sar (sar k 3) 4) | (sar (sar k 3) 4)
S4 | (shl (shl k j) 4) | (shl (shl k j) 4)
S4 | (shl (shl k 3) j) | (shl (shl k 3) j)
S4 | (shl (shl k:64 32:64) 31:64) | (shl k:64 63:64)
S4 | (shl (shl k:64 32:64) 32:64) | 0:64
S5 | (rol (rol k 3) 4) | (rol k 7)
S5 | (rol (rol k 4) 4) | k
S5 | (rol (rol k 7) 4) | (rol k 3)
S5 | (rol (rol k j) 4) | (rol (rol k j) 4)
S5 | (rol (rol k 4) j) | (rol (rol k 4) j)
S6 | (ror k 3) | (rol k 5)
S6 | (ror k 1) | (rol k 7)
S6 | (ror k 7) | (rol k 1)
S6 | (ror k j) | (ror k j)
S6 | (ror (rol k 3) 3) | k
S6 | (ror (ror k 3) 4) | (rol k 1)
S6 | (rol (ror k 3) 3) | k
S6 | (ror k:64 1:64) | (rol k:64 63:64)
S6 | (ror k:2 1:2) | (rol k:2 1:2)
`

const becomesPieces = `
T1 | (cat 0 k) | (zext k 16)
T1 | (cat 0:1 k) | (zext k 9)
T1 | (cat 0 (zext k 16)) | (zext k 24)
T1 | (cat 0 0) | 0:16
T1 | (cat 1 k) | (cat 1 k)
T1 | (cat k 0) | (cat k 0)
T2 | (cat (slice k 5 3) (slice k 2 3)) | (slice k 2 6)
T2 | (cat (slice k 4 4) (slice k 0 4)) | k
T2 | (cat (slice k 5 3) (slice k 2 2)) | (cat (slice k 5 3) (slice k 2 2))
T2 | (cat (slice k 4 3) (slice k 2 3)) | (cat (slice k 4 3) (slice k 2 3))
T2 | (cat (slice k 5 3) (slice j 2 3)) | (cat (slice k 5 3) (slice j 2 3))
T2 | (cat (slice k 2 3) (slice k 5 3)) | (cat (slice k 2 3) (slice k 5 3))
T2 | (cat (slice k 7 1) (cat (slice k 6 1) (slice k 5 1))) | (slice k 5 3)
T2 | (cat (cat (slice k 7 1) (slice k 6 1)) (slice k 5 1)) | (slice k 5 3)
V1 | (slice 0xbc 4 4) | 11:4
V1 | (slice 0xbc 0 8) | 0xbc
V1 | (slice 0x8000000000000000:64 63 1) | 1:1
V2 | (slice k 0 8) | k
V2 | (slice k 0 7) | (slice k 0 7)
V2 | (slice k:1 0 1) | k:1
V2 | (slice k:64 0 64) | k:64
V2 | (slice (cat k j) 0 16) | (cat k j)
V3 | (slice (slice k 2 5) 1 3) | (slice k 3 3)
V3 | (slice (slice k 2 5) 0 5) | (slice k 2 5)
V3 | (slice (slice (cat k j) 4 8) 4 4) | (slice k 0 4)
V3 | (slice (raw (slice k 0 8)) 0 8) | (slice k 0 8)
V4 | (slice (cat k j) 0 8) | j
V4 | (slice (cat k j) 1 7) | (slice j 1 7)
V4 | (slice (cat k j) 1 8) | (slice (cat k j) 1 8)
V4 | (slice (cat k 0xbc) 4 4) | 11:4
V5 | (slice (cat k j) 8 8) | k
V5 | (slice (cat k j) 9 7) | (slice k 1 7)
V5 | (slice (cat k j) 7 8) | (slice (cat k j) 7 8)
V5 | (slice (cat k j) 7 2) | (slice (cat k j) 7 2)
V5 | (slice (cat k j) 7 1) | (slice j 7 1)
V5 | (slice (cat k j) 8 1) | (slice k 0 1)
V5 | (slice (cat (cat k j) i) 8 8) | j
V6 | (slice (zext k 16) 0 8) | k
V6 | (slice (zext k 16) 2 6) | (slice k 2 6)
V6 | (slice (zext k 16) 2 7) | (slice (zext k 16) 2 7)
V7 | (slice (zext k 16) 8 8) | 0
V7 | (slice (zext k 16) 15 1) | 0:1
V7 | (slice (zext k 16) 7 1) | (slice k 7 1)
V7 | (slice (zext k 16) 7 2) | (slice (zext k 16) 7 2)
V7 | (slice (sext k 16) 8 8) | (slice (sext k 16) 8 8)
V7 | (slice (sext k 16) 0 8) | (slice (sext k 16) 0 8)
W1 | (zext 0x80 16) | 0x80:16
W1 | (sext 0x80 16) | 0xff80:16
W1 | (sext 0x7f 64) | 0x7f:64
W1 | (sext 1:1 64) | 0xffffffffffffffff:64
W1 | (zext 3 8) | 3
W2 | (zext k 8) | k
W2 | (sext k 8) | k
W2 | (zext k:64 64) | k:64
W2 | (zext k 9) | (zext k 9)
W2 | (zext (zext k 16) 16) | (zext k 16)
W3 | (zext (zext k 16) 32) | (zext k 32)
W3 | (sext (sext k 16) 32) | (sext k 32)
W3 | (zext (sext k 16) 32) | (zext (sext k 16) 32)
W4 | (sext (zext k 16) 32) | (zext k 32)
W4 | (sext (zext k 9) 10) | (zext k 10)
W4 | (sext (zext k 16) 16) | (zext k 16)
W4 | (sext (cat 0 k) 32) | (zext k 32)
`

func wantAll(t *testing.T, table string) {
	t.Helper()
	for _, line := range strings.Split(strings.TrimSpace(table), "\n") {
		f := strings.Split(line, "|")
		if len(f) != 3 {
			t.Fatal(line)
		}
		wantBecomes(t, f[0], f[1], f[2])
	}
}

func TestRulesOfTruths(t *testing.T) { wantAll(t, becomesTruths) }
func TestRulesOfIte(t *testing.T)    { wantAll(t, becomesIte) }
func TestRulesOfWords(t *testing.T)  { wantAll(t, becomesWords) }
func TestRulesOfShifts(t *testing.T) { wantAll(t, becomesShifts) }
func TestRulesOfPieces(t *testing.T) { wantAll(t, becomesPieces) }

// TestTableIsWhole: the tests' lines and the plain table have each rule of the chapter.
func TestTableIsWhole(t *testing.T) {
	named := map[string]int{}
	for _, line := range strings.Split(becomesTruths+becomesIte+becomesWords+becomesShifts+becomesPieces, "\n") {
		name, _, _ := strings.Cut(line, " ")
		named[name]++
	}
	rules := map[string]int{}
	for _, of := range newPlainMaker().rules {
		for _, r := range of {
			rules[r.name]++
		}
	}
	ends := map[string]int{"N": 2, "A": 5, "O": 5, "X": 8, "E": 16, "U": 7, "L": 2, "I": 11, "C": 3, "B": 2, "G": 5, "H": 5, "K": 9, "P": 6, "M": 7, "Q": 5, "D": 2, "R": 2, "S": 6, "T": 2, "V": 7, "W": 4}
	for letter, count := range ends {
		for i := range count {
			name := letter + string("0123456789"[(i+1)/10]) + string("0123456789"[(i+1)%10])
			name = strings.Replace(name, letter+"0", letter, 1)
			if named[name] == 0 || rules[name] == 0 {
				t.Errorf("%s: %d lines, %d rules", name, named[name], rules[name])
			}
		}
	}
}

// TestExamples: those of the chapter.
func TestExamples(t *testing.T) {
	wantAll(t, `
1 | (add 3 k) | (add k 3)
1 | (add (add 3 k) 253) | k
1 | (bxor (bxor k j) k) | j
1 | (mul k 4) | (shl k 2)
2 | (eq (add k 1) 0) | (eq k 255)
2 | (ule k j) | (not (ult j k))
2 | (ult 0 k) | (not (eq k 0))
3 | (ite c T cd) | (or c cd)
3 | (ite (not c) k j) | (ite c j k)
3 | (eq (ite c 1 2) 2) | (not c)
4 | (ror k 3) | (rol k 5)
4 | (shl (shl k 5) 4) | 0
4 | (div k k) | (div k k)
`)
}

// TestPartsAreTakenAsTheyStand: what a rule names of the parts, and did not make itself, is not made anew.
func TestPartsAreTakenAsTheyStand(t *testing.T) {
	wantAll(t, `
A2 | (and T (raw (not (not c)))) | (not (not c))
N2 | (not (raw (not (not c)))) | (not c)
X1 | (xor F (raw (and c c))) | (and c c)
X2 | (xor T (raw (not (not c)))) | (not c)
E3 | (eq 3 (raw (add 1 k))) | (eq (add 1 k) 3)
E7 | (eq (raw (com (com k))) 3) | (eq k 3)
E9 | (eq (raw (add (raw (add k 0)) 2)) 3) | (eq k 1)
I1 | (ite T (raw (add k 0)) k) | (add k 0)
I2 | (ite c (raw (add k 0)) (raw (add k 0))) | (add k 0)
I3 | (ite (raw (not T)) k j) | j
I10 | (ite c (raw (ite c (add k 0) j)) i) | (ite c (add k 0) i)
C2 | (com (raw (com (sub k k)))) | (sub k k)
B2 | (add 3 (raw (sub k k))) | (add (sub k k) 3)
G4 | (band (raw (com 5)) 5) | 0
G4 | (band 5 (raw (com 5))) | 0
H4 | (bor (raw (com 5)) 5) | 255
K4 | (bxor (raw (com 5)) 5) | 255
K6 | (bxor (raw (bxor (add k 0) j)) j) | (add k 0)
P3 | (add k (raw (neg 3))) | (add k 253)
P5 | (add (raw (sub (add k 0) 5)) 5) | (add k 0)
M5 | (sub (raw (add (add k 0) j)) j) | (add k 0)
M7 | (sub k (raw (neg 3))) | (add k 3)
G2 | (band (raw (band k 0)) 255) | (band k 0)
G5 | (band (raw (band (add k 0) 12)) 10) | (band (add k 0) 8)
H1 | (bor (raw (bor k 0)) 0) | (bor k 0)
H5 | (bor (raw (bor k 0)) 1) | (bor k 1)
K1 | (bxor (raw (bxor k 0)) 0) | (bxor k 0)
P1 | (add (raw (add k 0)) 0) | (add k 0)
P2 | (add (raw (add k 0)) 1) | (add k 1)
Q2 | (mul (raw (mul k 0)) 1) | (mul k 0)
Q5 | (mul (raw (mul k 0)) 3) | 0
D1 | (div (raw (div k 1)) 1) | (div k 1)
S3 | (shl (raw (shl k 0)) 0) | (shl k 0)
S3 | (rol (raw (rol k 0)) 0) | (rol k 0)
S6 | (ror (raw (ror k 0)) 0) | (ror k 0)
M1 | (sub (raw (sub k 0)) 0) | (sub k 0)
W2 | (sext (raw (zext (zext k 9) 16)) 16) | (zext (zext k 9) 16)
W4 | (sext (raw (zext (zext k 9) 16)) 17) | (zext k 17)
V2 | (slice (raw (slice k 0 8)) 0 8) | (slice k 0 8)
V2 | (slice (raw (add k 0)) 0 8) | (add k 0)
V3 | (slice (raw (slice (add k 0) 1 5)) 0 4) | (slice (add k 0) 1 4)
W2 | (zext (raw (add k 0)) 8) | (add k 0)
T1 | (cat 0 (raw (zext (zext k 9) 10))) | (zext k 18)
`)
}

// TestRawPartsKeepTheirMeaning: a maker's store may have terms that nobody made simple; there a shift's amount may be beyond the width, and a zext add no bit.
func TestRawPartsKeepTheirMeaning(t *testing.T) {
	wantAll(t, `
S4 | (shl (raw (shl k 9)) 2) | (shl (shl k 9) 2)
S4 | (shl (raw (shl k 8)) 2) | (shl (shl k 8) 2)
S4 | (shr (raw (shr k 255)) 2) | (shr (shr k 255) 2)
S4 | (shl (raw (shl k 7)) 1) | 0
S5 | (rol (raw (rol k 9)) 2) | (rol k 3)
S5 | (rol (raw (rol k:64 0xffffffffffffffff:64)) 2:64) | (rol k:64 1:64)
E11 | (eq (raw (rol k 9)) 1) | (eq k 128)
E13 | (eq (raw (zext k 8)) 255) | (eq k 255)
E14 | (eq (raw (sext k 8)) 128) | (eq k 128)
W3 | (sext (raw (sext k 8)) 16) | (sext k 16)
W3 | (zext (raw (zext k 8)) 16) | (zext k 16)
W4 | (sext (raw (zext k 8)) 16) | (sext (zext k 8) 16)
W4 | (sext (raw (zext k 9)) 16) | (zext k 16)
V6 | (slice (raw (zext k 8)) 1 3) | (slice k 1 3)
`)
}

// TestManyNotsAround: rules that go down through truths that nobody made simple, each with a not around it.
func TestManyNotsAround(t *testing.T) {
	m := New()
	c, _ := m.Var("c", 0)
	d, _ := m.Var("cd", 0)
	deep := c
	for nots := range 6 {
		one, other := "(xor c cd)", "(xor cd c)"
		if nots%2 == 1 {
			one, other = "(not "+one+")", "(not "+other+")"
		}
		got, e := m.Bin(api.OpXor, deep, d)
		if e != api.OK || dump(t, m.Store(), got) != asItIs(t, one) {
			t.Errorf("%d: %v\n%s", nots, e, dump(t, m.Store(), got))
		}
		got, e = m.Bin(api.OpXor, d, deep)
		if e != api.OK || dump(t, m.Store(), got) != asItIs(t, other) {
			t.Errorf("%d: %v\n%s", nots, e, dump(t, m.Store(), got))
		}
		deep, _ = m.Store().Un(api.OpNot, deep)
	}
}
